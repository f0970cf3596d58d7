/-
  No cell of these rows narrows 'for every input' (looked for: loops, veiled, ifaces, maps, wideKeys, modest, calm, conditions, laid).
  DERIVED. THE GIVEN ROWS OF THIS SEAT. 3 by the template 'for every input the law returns true; each argument reads behind the call as it read before'; 0 by the template 'total and deterministic' (their statements: YtcgpgflnihjpiaeGreatTotals.lean).
  GIVEN WITH THE SEED: the statements are not yours to turn. If you find one false, say at which input.
  Laid BY PROGRAM, IN A SANDBOX (cutbox-rows.mjs): the forced cells as the released guide's own fill.sh prints them over the translation f1bd4398dac6541a… (all of the seat's roots in one cut). By AI agents, Wed Nov 11 2026. No macro, syntax, notation, axiom, sorry.
-/
import Derived.Test.YtcgpgflnihjpiaeGreatChecked
import GoSem.Claim
import GoSem.ClaimJoined
import GoSem.ClaimMapViews
import Derived.JoinedTies
import Derived.KernelRfl
namespace Go.Proofs.YtcgpgflnihjpiaeGreat
/- THE CELL 'sum', in the pinned program and in every row, IS THE sha256 OF THE DUMP (.gsa) THAT YtcgpgflnihjpiaeGreatProg.lean LOADS. Nothing in Lean hashes anything: it is a label: what it is worth is what the hold of that sum in a sandbox is worth. -/
noncomputable def Tryz.pinned : Pinned := { name := "ytcgpgflnihjpiaegreat", sum := "f1bd4398dac6541a84d9b44c0995c67c4b7886f3d05ae5a60bfd72286c32ddde", checked := Tryz.checked }
namespace Rows
def none {H : Type} : Left H := { results := [], args := [] }

/-- 'pleachlaw.WorkPuts': WHATEVER THE INPUT: true; the input reads as it did. -/
def workPutsSpec : ChangeSpec := { name := "workPuts", fn := fun _ => fun
  | [d1, d2, d3] => { results := [.lit (.bool true)], args := [d1, d2, d3] }
  | _ => none }
def workPutsRow : OpenClaim := { program := "ytcgpgflnihjpiaegreat", sum := "f1bd4398dac6541a84d9b44c0995c67c4b7886f3d05ae5a60bfd72286c32ddde", func := "pleach/pleachlaw.WorkPuts", spec := "workPuts", inPlace := ["internal/bytealg.abigen_runtime_cmpstring"], unfollowed := true, recurses := true, apart := false }
def WorkPutsSaid : Prop := workPutsRow.holds Tryz.pinned (OpenSpec.ofChange workPutsSpec)

/-- ITS FALSE NEIGHBOUR: 'it returns false'. Refute it at one input. -/
def workPutsWrong : ChangeSpec := { name := "workPuts", fn := fun _ => fun
  | [d1, d2, d3] => { results := [.lit (.bool false)], args := [d1, d2, d3] }
  | _ => none }
def WorkPutsWrongFalsely : Prop := workPutsRow.holds Tryz.pinned (OpenSpec.ofChange workPutsWrong)

/-- 'pleachlaw.WorkHeads': WHATEVER THE INPUT: true; the input reads as it did. -/
def workHeadsSpec : ChangeSpec := { name := "workHeads", fn := fun _ => fun
  | [d1, d2, d3] => { results := [.lit (.bool true)], args := [d1, d2, d3] }
  | _ => none }
def workHeadsRow : OpenClaim := { program := "ytcgpgflnihjpiaegreat", sum := "f1bd4398dac6541a84d9b44c0995c67c4b7886f3d05ae5a60bfd72286c32ddde", func := "pleach/pleachlaw.WorkHeads", spec := "workHeads", inPlace := ["internal/bytealg.abigen_runtime_cmpstring"], unfollowed := true, recurses := true, apart := false }
def WorkHeadsSaid : Prop := workHeadsRow.holds Tryz.pinned (OpenSpec.ofChange workHeadsSpec)

/-- ITS FALSE NEIGHBOUR: 'it returns false'. Refute it at one input. -/
def workHeadsWrong : ChangeSpec := { name := "workHeads", fn := fun _ => fun
  | [d1, d2, d3] => { results := [.lit (.bool false)], args := [d1, d2, d3] }
  | _ => none }
def WorkHeadsWrongFalsely : Prop := workHeadsRow.holds Tryz.pinned (OpenSpec.ofChange workHeadsWrong)

/-- 'pleachlaw.WorkMerges': WHATEVER THE INPUT: true; the input reads as it did. -/
def workMergesSpec : ChangeSpec := { name := "workMerges", fn := fun _ => fun
  | [d1, d2, d3] => { results := [.lit (.bool true)], args := [d1, d2, d3] }
  | _ => none }
def workMergesRow : OpenClaim := { program := "ytcgpgflnihjpiaegreat", sum := "f1bd4398dac6541a84d9b44c0995c67c4b7886f3d05ae5a60bfd72286c32ddde", func := "pleach/pleachlaw.WorkMerges", spec := "workMerges", inPlace := ["internal/bytealg.abigen_runtime_cmpstring"], unfollowed := true, recurses := true, apart := false }
def WorkMergesSaid : Prop := workMergesRow.holds Tryz.pinned (OpenSpec.ofChange workMergesSpec)

/-- ITS FALSE NEIGHBOUR: 'it returns false'. Refute it at one input. -/
def workMergesWrong : ChangeSpec := { name := "workMerges", fn := fun _ => fun
  | [d1, d2, d3] => { results := [.lit (.bool false)], args := [d1, d2, d3] }
  | _ => none }
def WorkMergesWrongFalsely : Prop := workMergesRow.holds Tryz.pinned (OpenSpec.ofChange workMergesWrong)

/- THE SECOND FORM. 'bulk': how many values and letters a reading holds, each counted each time it is reached (what is shared counts as often as it is met; a slice's spare places count too). A statement '..UptoSaid' is the law's where the arguments, and the package variables that the reading takes, are together of bulk at most 1048576: NARROWER than '..Said'. Prove '..Said' where nothing that the law and all that it calls make is longer than what came in: it says more and counts as full. Else prove '..UptoSaid'. A law counts once. -/
mutual
def uptoBulk {H : Type} : DataW H → Nat
  | .lit (.string bytes) => bytes.length + 1
  | .lit _ => 1
  | .nil => 1
  | .ptr d => uptoBulk d + 1
  | .slice elems spare => uptoBulkAll elems + uptoBulkAll spare + 1
  | .agg parts => uptoBulkAll parts + 1
  | .iface _ d => uptoBulk d + 1
  | .map entries => uptoBulkEntries entries + 1
  | .held _ => 1
def uptoBulkAll {H : Type} : List (DataW H) → Nat
  | [] => 0
  | d :: r => uptoBulk d + uptoBulkAll r
def uptoBulkEntries {H : Type} : List (Lit × DataW H) → Nat
  | [] => 0
  | x :: r => uptoBulkEntry x + uptoBulkEntries r
def uptoBulkEntry {H : Type} : Lit × DataW H → Nat
  | (.string bytes, d) => bytes.length + uptoBulk d + 1
  | (_, d) => uptoBulk d + 1
 end
def uptoSmall : (H : Type) → List (DataW H) → Bool := fun _ ds => decide (uptoBulkAll ds ≤ 1048576)
def OpenSpec.upto (s : _root_.Go.ChangeSpec) : _root_.Go.OpenSpec := { _root_.Go.OpenSpec.ofChange s with cond := some uptoSmall }

/-- 'pleachlaw.WorkPuts', WHERE WHAT IT READS IS OF BULK AT MOST 1048576: true; the input reads as it did. -/
def workPutsUptoRow : OpenClaim := { program := "ytcgpgflnihjpiaegreat", sum := "f1bd4398dac6541a84d9b44c0995c67c4b7886f3d05ae5a60bfd72286c32ddde", func := "pleach/pleachlaw.WorkPuts", spec := "workPuts", inPlace := ["internal/bytealg.abigen_runtime_cmpstring"], unfollowed := true, recurses := true, apart := false, narrowed := true }
def WorkPutsUptoSaid : Prop := workPutsUptoRow.holds Tryz.pinned (OpenSpec.upto workPutsSpec)

/-- 'pleachlaw.WorkHeads', WHERE WHAT IT READS IS OF BULK AT MOST 1048576: true; the input reads as it did. -/
def workHeadsUptoRow : OpenClaim := { program := "ytcgpgflnihjpiaegreat", sum := "f1bd4398dac6541a84d9b44c0995c67c4b7886f3d05ae5a60bfd72286c32ddde", func := "pleach/pleachlaw.WorkHeads", spec := "workHeads", inPlace := ["internal/bytealg.abigen_runtime_cmpstring"], unfollowed := true, recurses := true, apart := false, narrowed := true }
def WorkHeadsUptoSaid : Prop := workHeadsUptoRow.holds Tryz.pinned (OpenSpec.upto workHeadsSpec)

/-- 'pleachlaw.WorkMerges', WHERE WHAT IT READS IS OF BULK AT MOST 1048576: true; the input reads as it did. -/
def workMergesUptoRow : OpenClaim := { program := "ytcgpgflnihjpiaegreat", sum := "f1bd4398dac6541a84d9b44c0995c67c4b7886f3d05ae5a60bfd72286c32ddde", func := "pleach/pleachlaw.WorkMerges", spec := "workMerges", inPlace := ["internal/bytealg.abigen_runtime_cmpstring"], unfollowed := true, recurses := true, apart := false, narrowed := true }
def WorkMergesUptoSaid : Prop := workMergesUptoRow.holds Tryz.pinned (OpenSpec.upto workMergesSpec)

end Rows
end Go.Proofs.YtcgpgflnihjpiaeGreat
