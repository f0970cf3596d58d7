/-
  No cell of these rows narrows 'for every input' (looked for: loops, veiled, ifaces, maps, wideKeys, modest, calm, conditions, laid).
  DERIVED. THE GIVEN ROWS OF THIS SEAT. 6 by the template 'for every input the law returns true; each argument reads behind the call as it read before'; 0 by the template 'total and deterministic' (their statements: YtcgpgflnihjpiadTotals.lean).
  GIVEN WITH THE SEED: the statements are not yours to turn. If you find one false, say at which input.
  Laid BY PROGRAM, IN A SANDBOX (cutbox-rows.mjs): the forced cells as the released guide's own fill.sh prints them over the translation 09c21c0aa907ef8e… (all of the seat's roots in one cut). By AI agents, Wed Nov 11 2026. No macro, syntax, notation, axiom, sorry.
-/
import Derived.Test.YtcgpgflnihjpiadChecked
import GoSem.Claim
import GoSem.ClaimJoined
import GoSem.ClaimMapViews
import Derived.JoinedTies
import Derived.KernelRfl
namespace Go.Proofs.Ytcgpgflnihjpiad
/- THE CELL 'sum', in the pinned program and in every row, IS THE sha256 OF THE DUMP (.gsa) THAT YtcgpgflnihjpiadProg.lean LOADS. Nothing in Lean hashes anything: it is a label: what it is worth is what the hold of that sum in a sandbox is worth. -/
noncomputable def Try.pinned : Pinned := { name := "ytcgpgflnihjpiad", sum := "09c21c0aa907ef8ed175e54950e74607fc55e95b69d086a56a34aa5ffdfa33be", checked := Try.checked }
namespace Rows
def none {H : Type} : Left H := { results := [], args := [] }

/-- 'pleachlaw.DiffTrue': WHATEVER THE INPUT: true; the input reads as it did. -/
def diffTrueSpec : ChangeSpec := { name := "diffTrue", fn := fun _ => fun
  | [d1, d2] => { results := [.lit (.bool true)], args := [d1, d2] }
  | _ => none }
def diffTrueRow : OpenClaim := { program := "ytcgpgflnihjpiad", sum := "09c21c0aa907ef8ed175e54950e74607fc55e95b69d086a56a34aa5ffdfa33be", func := "pleach/pleachlaw.DiffTrue", spec := "diffTrue", unfollowed := true, recurses := true, apart := false }
def DiffTrueSaid : Prop := diffTrueRow.holds Try.pinned (OpenSpec.ofChange diffTrueSpec)

/-- ITS FALSE NEIGHBOUR: 'it returns false'. Refute it at one input. -/
def diffTrueWrong : ChangeSpec := { name := "diffTrue", fn := fun _ => fun
  | [d1, d2] => { results := [.lit (.bool false)], args := [d1, d2] }
  | _ => none }
def DiffTrueWrongFalsely : Prop := diffTrueRow.holds Try.pinned (OpenSpec.ofChange diffTrueWrong)

/-- 'pleachlaw.DiffNone': WHATEVER THE INPUT: true; the input reads as it did. -/
def diffNoneSpec : ChangeSpec := { name := "diffNone", fn := fun _ => fun
  | [d1, d2, d3] => { results := [.lit (.bool true)], args := [d1, d2, d3] }
  | _ => none }
def diffNoneRow : OpenClaim := { program := "ytcgpgflnihjpiad", sum := "09c21c0aa907ef8ed175e54950e74607fc55e95b69d086a56a34aa5ffdfa33be", func := "pleach/pleachlaw.DiffNone", spec := "diffNone", unfollowed := true, recurses := true, apart := false }
def DiffNoneSaid : Prop := diffNoneRow.holds Try.pinned (OpenSpec.ofChange diffNoneSpec)

/-- ITS FALSE NEIGHBOUR: 'it returns false'. Refute it at one input. -/
def diffNoneWrong : ChangeSpec := { name := "diffNone", fn := fun _ => fun
  | [d1, d2, d3] => { results := [.lit (.bool false)], args := [d1, d2, d3] }
  | _ => none }
def DiffNoneWrongFalsely : Prop := diffNoneRow.holds Try.pinned (OpenSpec.ofChange diffNoneWrong)

/-- 'pleachlaw.ThreeMerges': WHATEVER THE INPUT: true; the input reads as it did. -/
def threeMergesSpec : ChangeSpec := { name := "threeMerges", fn := fun _ => fun
  | [d1, d2, d3] => { results := [.lit (.bool true)], args := [d1, d2, d3] }
  | _ => none }
def threeMergesRow : OpenClaim := { program := "ytcgpgflnihjpiad", sum := "09c21c0aa907ef8ed175e54950e74607fc55e95b69d086a56a34aa5ffdfa33be", func := "pleach/pleachlaw.ThreeMerges", spec := "threeMerges", unfollowed := true, recurses := true, apart := false }
def ThreeMergesSaid : Prop := threeMergesRow.holds Try.pinned (OpenSpec.ofChange threeMergesSpec)

/-- ITS FALSE NEIGHBOUR: 'it returns false'. Refute it at one input. -/
def threeMergesWrong : ChangeSpec := { name := "threeMerges", fn := fun _ => fun
  | [d1, d2, d3] => { results := [.lit (.bool false)], args := [d1, d2, d3] }
  | _ => none }
def ThreeMergesWrongFalsely : Prop := threeMergesRow.holds Try.pinned (OpenSpec.ofChange threeMergesWrong)

/-- 'pleachlaw.ThreeTrue': WHATEVER THE INPUT: true; the input reads as it did. -/
def threeTrueSpec : ChangeSpec := { name := "threeTrue", fn := fun _ => fun
  | [d1, d2, d3, d4] => { results := [.lit (.bool true)], args := [d1, d2, d3, d4] }
  | _ => none }
def threeTrueRow : OpenClaim := { program := "ytcgpgflnihjpiad", sum := "09c21c0aa907ef8ed175e54950e74607fc55e95b69d086a56a34aa5ffdfa33be", func := "pleach/pleachlaw.ThreeTrue", spec := "threeTrue", unfollowed := true, recurses := true, apart := false }
def ThreeTrueSaid : Prop := threeTrueRow.holds Try.pinned (OpenSpec.ofChange threeTrueSpec)

/-- ITS FALSE NEIGHBOUR: 'it returns false'. Refute it at one input. -/
def threeTrueWrong : ChangeSpec := { name := "threeTrue", fn := fun _ => fun
  | [d1, d2, d3, d4] => { results := [.lit (.bool false)], args := [d1, d2, d3, d4] }
  | _ => none }
def ThreeTrueWrongFalsely : Prop := threeTrueRow.holds Try.pinned (OpenSpec.ofChange threeTrueWrong)

/-- 'pleachlaw.ThreePatch': WHATEVER THE INPUT: true; the input reads as it did. -/
def threePatchSpec : ChangeSpec := { name := "threePatch", fn := fun _ => fun
  | [d1, d2, d3] => { results := [.lit (.bool true)], args := [d1, d2, d3] }
  | _ => none }
def threePatchRow : OpenClaim := { program := "ytcgpgflnihjpiad", sum := "09c21c0aa907ef8ed175e54950e74607fc55e95b69d086a56a34aa5ffdfa33be", func := "pleach/pleachlaw.ThreePatch", spec := "threePatch", unfollowed := true, recurses := true, apart := false }
def ThreePatchSaid : Prop := threePatchRow.holds Try.pinned (OpenSpec.ofChange threePatchSpec)

/-- ITS FALSE NEIGHBOUR: 'it returns false'. Refute it at one input. -/
def threePatchWrong : ChangeSpec := { name := "threePatch", fn := fun _ => fun
  | [d1, d2, d3] => { results := [.lit (.bool false)], args := [d1, d2, d3] }
  | _ => none }
def ThreePatchWrongFalsely : Prop := threePatchRow.holds Try.pinned (OpenSpec.ofChange threePatchWrong)

/-- 'pleachlaw.DagTells': WHATEVER THE INPUT: true; the input reads as it did. -/
def dagTellsSpec : ChangeSpec := { name := "dagTells", fn := fun _ => fun
  | [d1, d2] => { results := [.lit (.bool true)], args := [d1, d2] }
  | _ => none }
def dagTellsRow : OpenClaim := { program := "ytcgpgflnihjpiad", sum := "09c21c0aa907ef8ed175e54950e74607fc55e95b69d086a56a34aa5ffdfa33be", func := "pleach/pleachlaw.DagTells", spec := "dagTells", apart := false }
def DagTellsSaid : Prop := dagTellsRow.holds Try.pinned (OpenSpec.ofChange dagTellsSpec)

/-- ITS FALSE NEIGHBOUR: 'it returns false'. Refute it at one input. -/
def dagTellsWrong : ChangeSpec := { name := "dagTells", fn := fun _ => fun
  | [d1, d2] => { results := [.lit (.bool false)], args := [d1, d2] }
  | _ => none }
def DagTellsWrongFalsely : Prop := dagTellsRow.holds Try.pinned (OpenSpec.ofChange dagTellsWrong)

/- THE SECOND FORM. 'bulk': how many values and letters a reading holds, each counted each time it is reached (what is shared counts as often as it is met; a slice's spare places count too). A statement '..UptoSaid' is the law's where the arguments, and the package variables that the reading takes, are together of bulk at most 1048576: NARROWER than '..Said'. Prove '..Said' where nothing that the law and all that it calls make is longer than what came in: it says more and counts as full. Else prove '..UptoSaid'. A law counts once. -/
mutual
def uptoBulk {H : Type} : DataW H → Nat
  | .lit (.string bytes) => bytes.length + 1
  | .lit _ => 1
  | .nil => 1
  | .ptr d => uptoBulk d + 1
  | .slice elems spare => uptoBulkAll elems + uptoBulkAll spare + 1
  | .agg parts => uptoBulkAll parts + 1
  | .iface _ d => uptoBulk d + 1
  | .map entries => uptoBulkEntries entries + 1
  | .held _ => 1
def uptoBulkAll {H : Type} : List (DataW H) → Nat
  | [] => 0
  | d :: r => uptoBulk d + uptoBulkAll r
def uptoBulkEntries {H : Type} : List (Lit × DataW H) → Nat
  | [] => 0
  | x :: r => uptoBulkEntry x + uptoBulkEntries r
def uptoBulkEntry {H : Type} : Lit × DataW H → Nat
  | (.string bytes, d) => bytes.length + uptoBulk d + 1
  | (_, d) => uptoBulk d + 1
 end
def uptoSmall : (H : Type) → List (DataW H) → Bool := fun _ ds => decide (uptoBulkAll ds ≤ 1048576)
def OpenSpec.upto (s : _root_.Go.ChangeSpec) : _root_.Go.OpenSpec := { _root_.Go.OpenSpec.ofChange s with cond := some uptoSmall }

/-- 'pleachlaw.DiffTrue', WHERE WHAT IT READS IS OF BULK AT MOST 1048576: true; the input reads as it did. -/
def diffTrueUptoRow : OpenClaim := { program := "ytcgpgflnihjpiad", sum := "09c21c0aa907ef8ed175e54950e74607fc55e95b69d086a56a34aa5ffdfa33be", func := "pleach/pleachlaw.DiffTrue", spec := "diffTrue", unfollowed := true, recurses := true, apart := false, narrowed := true }
def DiffTrueUptoSaid : Prop := diffTrueUptoRow.holds Try.pinned (OpenSpec.upto diffTrueSpec)

/-- 'pleachlaw.DiffNone', WHERE WHAT IT READS IS OF BULK AT MOST 1048576: true; the input reads as it did. -/
def diffNoneUptoRow : OpenClaim := { program := "ytcgpgflnihjpiad", sum := "09c21c0aa907ef8ed175e54950e74607fc55e95b69d086a56a34aa5ffdfa33be", func := "pleach/pleachlaw.DiffNone", spec := "diffNone", unfollowed := true, recurses := true, apart := false, narrowed := true }
def DiffNoneUptoSaid : Prop := diffNoneUptoRow.holds Try.pinned (OpenSpec.upto diffNoneSpec)

/-- 'pleachlaw.ThreeMerges', WHERE WHAT IT READS IS OF BULK AT MOST 1048576: true; the input reads as it did. -/
def threeMergesUptoRow : OpenClaim := { program := "ytcgpgflnihjpiad", sum := "09c21c0aa907ef8ed175e54950e74607fc55e95b69d086a56a34aa5ffdfa33be", func := "pleach/pleachlaw.ThreeMerges", spec := "threeMerges", unfollowed := true, recurses := true, apart := false, narrowed := true }
def ThreeMergesUptoSaid : Prop := threeMergesUptoRow.holds Try.pinned (OpenSpec.upto threeMergesSpec)

/-- 'pleachlaw.ThreeTrue', WHERE WHAT IT READS IS OF BULK AT MOST 1048576: true; the input reads as it did. -/
def threeTrueUptoRow : OpenClaim := { program := "ytcgpgflnihjpiad", sum := "09c21c0aa907ef8ed175e54950e74607fc55e95b69d086a56a34aa5ffdfa33be", func := "pleach/pleachlaw.ThreeTrue", spec := "threeTrue", unfollowed := true, recurses := true, apart := false, narrowed := true }
def ThreeTrueUptoSaid : Prop := threeTrueUptoRow.holds Try.pinned (OpenSpec.upto threeTrueSpec)

/-- 'pleachlaw.ThreePatch', WHERE WHAT IT READS IS OF BULK AT MOST 1048576: true; the input reads as it did. -/
def threePatchUptoRow : OpenClaim := { program := "ytcgpgflnihjpiad", sum := "09c21c0aa907ef8ed175e54950e74607fc55e95b69d086a56a34aa5ffdfa33be", func := "pleach/pleachlaw.ThreePatch", spec := "threePatch", unfollowed := true, recurses := true, apart := false, narrowed := true }
def ThreePatchUptoSaid : Prop := threePatchUptoRow.holds Try.pinned (OpenSpec.upto threePatchSpec)

/-- 'pleachlaw.DagTells', WHERE WHAT IT READS IS OF BULK AT MOST 1048576: true; the input reads as it did. -/
def dagTellsUptoRow : OpenClaim := { program := "ytcgpgflnihjpiad", sum := "09c21c0aa907ef8ed175e54950e74607fc55e95b69d086a56a34aa5ffdfa33be", func := "pleach/pleachlaw.DagTells", spec := "dagTells", apart := false, narrowed := true }
def DagTellsUptoSaid : Prop := dagTellsUptoRow.holds Try.pinned (OpenSpec.upto dagTellsSpec)

end Rows
end Go.Proofs.Ytcgpgflnihjpiad
