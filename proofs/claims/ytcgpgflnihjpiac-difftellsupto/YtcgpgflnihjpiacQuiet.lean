/- Regions that draw their order, whose operations only read and whose callees only make memory: over the class of all later worlds. -/
import Derived.Test.YtcgpgflnihjpiacBase
namespace Go.Proofs.Ytcgpgflnihjpiac
open Go.RowKit

/-- The worlds that come behind W0. -/
def Later (W0 W : World) : Prop := Below W0.heap.size W0 W
theorem Later.out {W0 W : World} (h : Later W0 W) : Below W0.heap.size W0 W := h

theorem quiet_val {P : Program} {C : World → Prop} {o : Oper} {a : Act} {K : Act → Prop} (v : Value) (h : ∀ W, C W → (execOp a.eval o).run P W = .ok (.value v) W) (hk : K (a.put o.dst v)) : o.quiet P a C K :=
  ⟨v, fun W hW => by unfold Oper.quietAt; rw [h W hW]; exact ⟨rfl, rfl⟩, hk⟩
theorem quiet_enter {P : Program} {C : World → Prop} {o : Oper} {a : Act} {K : Act → Prop} (f : FuncId) (args : Array Value) (v : Value) (h : ∀ W, (execOp a.eval o).run P W = .ok (.enter f args) W) (hc : ∀ W, C W → Calls P f args W fun e w' => e = .returned v ∧ C w') (hk : K (a.put o.dst v)) : o.quiet P a C K :=
  ⟨v, fun W hW => by unfold Oper.quietAt; rw [h W]; exact ⟨rfl, hc W hW⟩, hk⟩
theorem wp_region_later {P : Program} {id : Nat} {Q : Exit → Act → World → Prop} {a : Act} {w W0 : World} {l : List Oper} (hm : P.follows .mixedOrders = true) (hB : Region.lexB .any l.toArray = true) (hC : Below W0.heap.size W0 w)
    (h : wpQuiet P l.toArray (Later W0) (fun a' => ∀ w', Later W0 w' → Q .normal a' w') l a) : (Code.region id l.toArray true).wp P Q a w :=
  wp_region_quiet (C := Later W0) hm hB (show Below W0.heap.size W0 w.drew from hC.drew) (by simpa using h)
end Go.Proofs.Ytcgpgflnihjpiac
