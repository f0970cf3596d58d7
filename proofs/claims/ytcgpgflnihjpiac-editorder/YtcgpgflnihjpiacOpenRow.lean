/- A number's reading, made. -/
import Derived.Test.YtcgpgflnihjpiacOpen
namespace Go.Proofs.Ytcgpgflnihjpiac
theorem trod_int_mk {H : Type} {enc : TypeId × Value → H} {w : World} {base : Nat} {spare : Nat → Bool} {held : Bool} {x : Int} (wx : (Lit.int .i64 x).wf = true) :
    DataW.trod enc Try.prog w base spare held 1 3 [.int .i64 x] = some (.lit (.int .i64 x), []) := by
  simp [DataW.trod, Try.underlying3, wx]
end Go.Proofs.Ytcgpgflnihjpiac
