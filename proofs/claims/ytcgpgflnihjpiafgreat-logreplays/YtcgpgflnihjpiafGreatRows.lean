/-
  No cell of these rows narrows 'for every input' (looked for: loops, veiled, ifaces, maps, wideKeys, modest, calm, conditions, laid).
  DERIVED. THE GIVEN ROWS OF THIS SEAT. 6 by the template 'for every input the law returns true; each argument reads behind the call as it read before'; 0 by the template 'total and deterministic' (their statements: YtcgpgflnihjpiafGreatTotals.lean).
  GIVEN WITH THE SEED: the statements are not yours to turn. If you find one false, say at which input.
  Laid BY PROGRAM, IN A SANDBOX (cutbox-rows.mjs): the forced cells as the released guide's own fill.sh prints them over the translation 7f9a7e3b3e55c033… (all of the seat's roots in one cut). By AI agents, Wed Nov 11 2026. No macro, syntax, notation, axiom, sorry.
-/
import Derived.Test.YtcgpgflnihjpiafGreatChecked
import GoSem.Claim
import GoSem.ClaimJoined
import GoSem.ClaimMapViews
import Derived.JoinedTies
import Derived.KernelRfl
namespace Go.Proofs.YtcgpgflnihjpiafGreat
/- THE CELL 'sum', in the pinned program and in every row, IS THE sha256 OF THE DUMP (.gsa) THAT YtcgpgflnihjpiafGreatProg.lean LOADS. Nothing in Lean hashes anything: it is a label: what it is worth is what the hold of that sum in a sandbox is worth. -/
noncomputable def Tryz.pinned : Pinned := { name := "ytcgpgflnihjpiafgreat", sum := "7f9a7e3b3e55c03303d6cc0d45b530fb67f3a2e0499fae65b3b0b1ce27f94bfe", checked := Tryz.checked }
namespace Rows
def none {H : Type} : Left H := { results := [], args := [] }

/-- 'pleachlaw.WorkRight': WHATEVER THE INPUT: true; the input reads as it did. -/
def workRightSpec : ChangeSpec := { name := "workRight", fn := fun _ => fun
  | [d1, d2, d3] => { results := [.lit (.bool true)], args := [d1, d2, d3] }
  | _ => none }
def workRightRow : OpenClaim := { program := "ytcgpgflnihjpiafgreat", sum := "7f9a7e3b3e55c03303d6cc0d45b530fb67f3a2e0499fae65b3b0b1ce27f94bfe", func := "pleach/pleachlaw.WorkRight", spec := "workRight", inPlace := ["internal/bytealg.abigen_runtime_cmpstring"], unfollowed := true, recurses := true, apart := false }
def WorkRightSaid : Prop := workRightRow.holds Tryz.pinned (OpenSpec.ofChange workRightSpec)

/-- ITS FALSE NEIGHBOUR: 'it returns false'. Refute it at one input. -/
def workRightWrong : ChangeSpec := { name := "workRight", fn := fun _ => fun
  | [d1, d2, d3] => { results := [.lit (.bool false)], args := [d1, d2, d3] }
  | _ => none }
def WorkRightWrongFalsely : Prop := workRightRow.holds Tryz.pinned (OpenSpec.ofChange workRightWrong)

/-- 'pleachlaw.WorkMerged': WHATEVER THE INPUT: true; the input reads as it did. -/
def workMergedSpec : ChangeSpec := { name := "workMerged", fn := fun _ => fun
  | [d1, d2, d3] => { results := [.lit (.bool true)], args := [d1, d2, d3] }
  | _ => none }
def workMergedRow : OpenClaim := { program := "ytcgpgflnihjpiafgreat", sum := "7f9a7e3b3e55c03303d6cc0d45b530fb67f3a2e0499fae65b3b0b1ce27f94bfe", func := "pleach/pleachlaw.WorkMerged", spec := "workMerged", inPlace := ["internal/bytealg.abigen_runtime_cmpstring"], unfollowed := true, recurses := true, apart := false }
def WorkMergedSaid : Prop := workMergedRow.holds Tryz.pinned (OpenSpec.ofChange workMergedSpec)

/-- ITS FALSE NEIGHBOUR: 'it returns false'. Refute it at one input. -/
def workMergedWrong : ChangeSpec := { name := "workMerged", fn := fun _ => fun
  | [d1, d2, d3] => { results := [.lit (.bool false)], args := [d1, d2, d3] }
  | _ => none }
def WorkMergedWrongFalsely : Prop := workMergedRow.holds Tryz.pinned (OpenSpec.ofChange workMergedWrong)

/-- 'pleachlaw.WorkBack': WHATEVER THE INPUT: true; the input reads as it did. -/
def workBackSpec : ChangeSpec := { name := "workBack", fn := fun _ => fun
  | [d1, d2, d3] => { results := [.lit (.bool true)], args := [d1, d2, d3] }
  | _ => none }
def workBackRow : OpenClaim := { program := "ytcgpgflnihjpiafgreat", sum := "7f9a7e3b3e55c03303d6cc0d45b530fb67f3a2e0499fae65b3b0b1ce27f94bfe", func := "pleach/pleachlaw.WorkBack", spec := "workBack", inPlace := ["internal/bytealg.abigen_runtime_cmpstring"], unfollowed := true, recurses := true, apart := false }
def WorkBackSaid : Prop := workBackRow.holds Tryz.pinned (OpenSpec.ofChange workBackSpec)

/-- ITS FALSE NEIGHBOUR: 'it returns false'. Refute it at one input. -/
def workBackWrong : ChangeSpec := { name := "workBack", fn := fun _ => fun
  | [d1, d2, d3] => { results := [.lit (.bool false)], args := [d1, d2, d3] }
  | _ => none }
def WorkBackWrongFalsely : Prop := workBackRow.holds Tryz.pinned (OpenSpec.ofChange workBackWrong)

/-- 'pleachlaw.LogDoes': WHATEVER THE INPUT: true; the input reads as it did. -/
def logDoesSpec : ChangeSpec := { name := "logDoes", fn := fun _ => fun
  | [d1, d2] => { results := [.lit (.bool true)], args := [d1, d2] }
  | _ => none }
def logDoesRow : OpenClaim := { program := "ytcgpgflnihjpiafgreat", sum := "7f9a7e3b3e55c03303d6cc0d45b530fb67f3a2e0499fae65b3b0b1ce27f94bfe", func := "pleach/pleachlaw.LogDoes", spec := "logDoes", inPlace := ["internal/bytealg.abigen_runtime_cmpstring"], unfollowed := true, recurses := true, apart := false }
def LogDoesSaid : Prop := logDoesRow.holds Tryz.pinned (OpenSpec.ofChange logDoesSpec)

/-- ITS FALSE NEIGHBOUR: 'it returns false'. Refute it at one input. -/
def logDoesWrong : ChangeSpec := { name := "logDoes", fn := fun _ => fun
  | [d1, d2] => { results := [.lit (.bool false)], args := [d1, d2] }
  | _ => none }
def LogDoesWrongFalsely : Prop := logDoesRow.holds Tryz.pinned (OpenSpec.ofChange logDoesWrong)

/-- 'pleachlaw.LogReplays': WHATEVER THE INPUT: true; the input reads as it did. -/
def logReplaysSpec : ChangeSpec := { name := "logReplays", fn := fun _ => fun
  | [d1, d2] => { results := [.lit (.bool true)], args := [d1, d2] }
  | _ => none }
def logReplaysRow : OpenClaim := { program := "ytcgpgflnihjpiafgreat", sum := "7f9a7e3b3e55c03303d6cc0d45b530fb67f3a2e0499fae65b3b0b1ce27f94bfe", func := "pleach/pleachlaw.LogReplays", spec := "logReplays", inPlace := ["internal/bytealg.abigen_runtime_cmpstring"], unfollowed := true, recurses := true, apart := false }
def LogReplaysSaid : Prop := logReplaysRow.holds Tryz.pinned (OpenSpec.ofChange logReplaysSpec)

/-- ITS FALSE NEIGHBOUR: 'it returns false'. Refute it at one input. -/
def logReplaysWrong : ChangeSpec := { name := "logReplays", fn := fun _ => fun
  | [d1, d2] => { results := [.lit (.bool false)], args := [d1, d2] }
  | _ => none }
def LogReplaysWrongFalsely : Prop := logReplaysRow.holds Tryz.pinned (OpenSpec.ofChange logReplaysWrong)

/-- 'pleachlaw.LogRecovers': WHATEVER THE INPUT: true; the input reads as it did. -/
def logRecoversSpec : ChangeSpec := { name := "logRecovers", fn := fun _ => fun
  | [d] => { results := [.lit (.bool true)], args := [d] }
  | _ => none }
def logRecoversRow : OpenClaim := { program := "ytcgpgflnihjpiafgreat", sum := "7f9a7e3b3e55c03303d6cc0d45b530fb67f3a2e0499fae65b3b0b1ce27f94bfe", func := "pleach/pleachlaw.LogRecovers", spec := "logRecovers", inPlace := ["internal/bytealg.abigen_runtime_cmpstring"], unfollowed := true, recurses := true, apart := false }
def LogRecoversSaid : Prop := logRecoversRow.holds Tryz.pinned (OpenSpec.ofChange logRecoversSpec)

/-- ITS FALSE NEIGHBOUR: 'it returns false'. Refute it at one input. -/
def logRecoversWrong : ChangeSpec := { name := "logRecovers", fn := fun _ => fun
  | [d] => { results := [.lit (.bool false)], args := [d] }
  | _ => none }
def LogRecoversWrongFalsely : Prop := logRecoversRow.holds Tryz.pinned (OpenSpec.ofChange logRecoversWrong)

/- THE SECOND FORM. 'bulk': how many values and letters a reading holds, each counted each time it is reached (what is shared counts as often as it is met; a slice's spare places count too). A statement '..UptoSaid' is the law's where the arguments, and the package variables that the reading takes, are together of bulk at most 1048576: NARROWER than '..Said'. Prove '..Said' where nothing that the law and all that it calls make is longer than what came in: it says more and counts as full. Else prove '..UptoSaid'. A law counts once. -/
mutual
def uptoBulk {H : Type} : DataW H → Nat
  | .lit (.string bytes) => bytes.length + 1
  | .lit _ => 1
  | .nil => 1
  | .ptr d => uptoBulk d + 1
  | .slice elems spare => uptoBulkAll elems + uptoBulkAll spare + 1
  | .agg parts => uptoBulkAll parts + 1
  | .iface _ d => uptoBulk d + 1
  | .map entries => uptoBulkEntries entries + 1
  | .held _ => 1
def uptoBulkAll {H : Type} : List (DataW H) → Nat
  | [] => 0
  | d :: r => uptoBulk d + uptoBulkAll r
def uptoBulkEntries {H : Type} : List (Lit × DataW H) → Nat
  | [] => 0
  | x :: r => uptoBulkEntry x + uptoBulkEntries r
def uptoBulkEntry {H : Type} : Lit × DataW H → Nat
  | (.string bytes, d) => bytes.length + uptoBulk d + 1
  | (_, d) => uptoBulk d + 1
 end
def uptoSmall : (H : Type) → List (DataW H) → Bool := fun _ ds => decide (uptoBulkAll ds ≤ 1048576)
def OpenSpec.upto (s : _root_.Go.ChangeSpec) : _root_.Go.OpenSpec := { _root_.Go.OpenSpec.ofChange s with cond := some uptoSmall }

/-- 'pleachlaw.WorkRight', WHERE WHAT IT READS IS OF BULK AT MOST 1048576: true; the input reads as it did. -/
def workRightUptoRow : OpenClaim := { program := "ytcgpgflnihjpiafgreat", sum := "7f9a7e3b3e55c03303d6cc0d45b530fb67f3a2e0499fae65b3b0b1ce27f94bfe", func := "pleach/pleachlaw.WorkRight", spec := "workRight", inPlace := ["internal/bytealg.abigen_runtime_cmpstring"], unfollowed := true, recurses := true, apart := false, narrowed := true }
def WorkRightUptoSaid : Prop := workRightUptoRow.holds Tryz.pinned (OpenSpec.upto workRightSpec)

/-- 'pleachlaw.WorkMerged', WHERE WHAT IT READS IS OF BULK AT MOST 1048576: true; the input reads as it did. -/
def workMergedUptoRow : OpenClaim := { program := "ytcgpgflnihjpiafgreat", sum := "7f9a7e3b3e55c03303d6cc0d45b530fb67f3a2e0499fae65b3b0b1ce27f94bfe", func := "pleach/pleachlaw.WorkMerged", spec := "workMerged", inPlace := ["internal/bytealg.abigen_runtime_cmpstring"], unfollowed := true, recurses := true, apart := false, narrowed := true }
def WorkMergedUptoSaid : Prop := workMergedUptoRow.holds Tryz.pinned (OpenSpec.upto workMergedSpec)

/-- 'pleachlaw.WorkBack', WHERE WHAT IT READS IS OF BULK AT MOST 1048576: true; the input reads as it did. -/
def workBackUptoRow : OpenClaim := { program := "ytcgpgflnihjpiafgreat", sum := "7f9a7e3b3e55c03303d6cc0d45b530fb67f3a2e0499fae65b3b0b1ce27f94bfe", func := "pleach/pleachlaw.WorkBack", spec := "workBack", inPlace := ["internal/bytealg.abigen_runtime_cmpstring"], unfollowed := true, recurses := true, apart := false, narrowed := true }
def WorkBackUptoSaid : Prop := workBackUptoRow.holds Tryz.pinned (OpenSpec.upto workBackSpec)

/-- 'pleachlaw.LogDoes', WHERE WHAT IT READS IS OF BULK AT MOST 1048576: true; the input reads as it did. -/
def logDoesUptoRow : OpenClaim := { program := "ytcgpgflnihjpiafgreat", sum := "7f9a7e3b3e55c03303d6cc0d45b530fb67f3a2e0499fae65b3b0b1ce27f94bfe", func := "pleach/pleachlaw.LogDoes", spec := "logDoes", inPlace := ["internal/bytealg.abigen_runtime_cmpstring"], unfollowed := true, recurses := true, apart := false, narrowed := true }
def LogDoesUptoSaid : Prop := logDoesUptoRow.holds Tryz.pinned (OpenSpec.upto logDoesSpec)

/-- 'pleachlaw.LogReplays', WHERE WHAT IT READS IS OF BULK AT MOST 1048576: true; the input reads as it did. -/
def logReplaysUptoRow : OpenClaim := { program := "ytcgpgflnihjpiafgreat", sum := "7f9a7e3b3e55c03303d6cc0d45b530fb67f3a2e0499fae65b3b0b1ce27f94bfe", func := "pleach/pleachlaw.LogReplays", spec := "logReplays", inPlace := ["internal/bytealg.abigen_runtime_cmpstring"], unfollowed := true, recurses := true, apart := false, narrowed := true }
def LogReplaysUptoSaid : Prop := logReplaysUptoRow.holds Tryz.pinned (OpenSpec.upto logReplaysSpec)

/-- 'pleachlaw.LogRecovers', WHERE WHAT IT READS IS OF BULK AT MOST 1048576: true; the input reads as it did. -/
def logRecoversUptoRow : OpenClaim := { program := "ytcgpgflnihjpiafgreat", sum := "7f9a7e3b3e55c03303d6cc0d45b530fb67f3a2e0499fae65b3b0b1ce27f94bfe", func := "pleach/pleachlaw.LogRecovers", spec := "logRecovers", inPlace := ["internal/bytealg.abigen_runtime_cmpstring"], unfollowed := true, recurses := true, apart := false, narrowed := true }
def LogRecoversUptoSaid : Prop := logRecoversUptoRow.holds Tryz.pinned (OpenSpec.upto logRecoversSpec)

end Rows
end Go.Proofs.YtcgpgflnihjpiafGreat
