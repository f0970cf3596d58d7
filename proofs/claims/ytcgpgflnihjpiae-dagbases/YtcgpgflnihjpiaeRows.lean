/-
  No cell of these rows narrows 'for every input' (looked for: loops, veiled, ifaces, maps, wideKeys, modest, calm, conditions, laid).
  DERIVED. THE GIVEN ROWS OF THIS SEAT. 3 by the template 'for every input the law returns true; each argument reads behind the call as it read before'; 0 by the template 'total and deterministic' (their statements: YtcgpgflnihjpiaeTotals.lean).
  GIVEN WITH THE SEED: the statements are not yours to turn. If you find one false, say at which input.
  Laid BY PROGRAM, IN A SANDBOX (cutbox-rows.mjs): the forced cells as the released guide's own fill.sh prints them over the translation a782e167b9318c51… (all of the seat's roots in one cut). By AI agents, Wed Nov 11 2026. No macro, syntax, notation, axiom, sorry.
-/
import Derived.Test.YtcgpgflnihjpiaeChecked
import GoSem.Claim
import GoSem.ClaimJoined
import GoSem.ClaimMapViews
import Derived.JoinedTies
import Derived.KernelRfl
namespace Go.Proofs.Ytcgpgflnihjpiae
/- THE CELL 'sum', in the pinned program and in every row, IS THE sha256 OF THE DUMP (.gsa) THAT YtcgpgflnihjpiaeProg.lean LOADS. Nothing in Lean hashes anything: it is a label: what it is worth is what the hold of that sum in a sandbox is worth. -/
noncomputable def Try.pinned : Pinned := { name := "ytcgpgflnihjpiae", sum := "a782e167b9318c510dcd0be83ecf25e810bc8f3744e9fe6b53eeccbceedd2d14", checked := Try.checked }
namespace Rows
def none {H : Type} : Left H := { results := [], args := [] }

/-- 'pleachlaw.DagBases': WHATEVER THE INPUT: true; the input reads as it did. -/
def dagBasesSpec : ChangeSpec := { name := "dagBases", fn := fun _ => fun
  | [d1, d2, d3] => { results := [.lit (.bool true)], args := [d1, d2, d3] }
  | _ => none }
def dagBasesRow : OpenClaim := { program := "ytcgpgflnihjpiae", sum := "a782e167b9318c510dcd0be83ecf25e810bc8f3744e9fe6b53eeccbceedd2d14", func := "pleach/pleachlaw.DagBases", spec := "dagBases", apart := false }
def DagBasesSaid : Prop := dagBasesRow.holds Try.pinned (OpenSpec.ofChange dagBasesSpec)

/-- ITS FALSE NEIGHBOUR: 'it returns false'. Refute it at one input. -/
def dagBasesWrong : ChangeSpec := { name := "dagBases", fn := fun _ => fun
  | [d1, d2, d3] => { results := [.lit (.bool false)], args := [d1, d2, d3] }
  | _ => none }
def DagBasesWrongFalsely : Prop := dagBasesRow.holds Try.pinned (OpenSpec.ofChange dagBasesWrong)

/-- 'pleachlaw.DagTrue': WHATEVER THE INPUT: true; the input reads as it did. -/
def dagTrueSpec : ChangeSpec := { name := "dagTrue", fn := fun _ => fun
  | [d1, d2, d3, d4] => { results := [.lit (.bool true)], args := [d1, d2, d3, d4] }
  | _ => none }
def dagTrueRow : OpenClaim := { program := "ytcgpgflnihjpiae", sum := "a782e167b9318c510dcd0be83ecf25e810bc8f3744e9fe6b53eeccbceedd2d14", func := "pleach/pleachlaw.DagTrue", spec := "dagTrue", apart := false }
def DagTrueSaid : Prop := dagTrueRow.holds Try.pinned (OpenSpec.ofChange dagTrueSpec)

/-- ITS FALSE NEIGHBOUR: 'it returns false'. Refute it at one input. -/
def dagTrueWrong : ChangeSpec := { name := "dagTrue", fn := fun _ => fun
  | [d1, d2, d3, d4] => { results := [.lit (.bool false)], args := [d1, d2, d3, d4] }
  | _ => none }
def DagTrueWrongFalsely : Prop := dagTrueRow.holds Try.pinned (OpenSpec.ofChange dagTrueWrong)

/-- 'pleachlaw.RepoTells': WHATEVER THE INPUT: true; the input reads as it did. -/
def repoTellsSpec : ChangeSpec := { name := "repoTells", fn := fun _ => fun
  | [d1, d2] => { results := [.lit (.bool true)], args := [d1, d2] }
  | _ => none }
def repoTellsRow : OpenClaim := { program := "ytcgpgflnihjpiae", sum := "a782e167b9318c510dcd0be83ecf25e810bc8f3744e9fe6b53eeccbceedd2d14", func := "pleach/pleachlaw.RepoTells", spec := "repoTells", unfollowed := true, recurses := true, apart := false }
def RepoTellsSaid : Prop := repoTellsRow.holds Try.pinned (OpenSpec.ofChange repoTellsSpec)

/-- ITS FALSE NEIGHBOUR: 'it returns false'. Refute it at one input. -/
def repoTellsWrong : ChangeSpec := { name := "repoTells", fn := fun _ => fun
  | [d1, d2] => { results := [.lit (.bool false)], args := [d1, d2] }
  | _ => none }
def RepoTellsWrongFalsely : Prop := repoTellsRow.holds Try.pinned (OpenSpec.ofChange repoTellsWrong)

/- THE SECOND FORM. 'bulk': how many values and letters a reading holds, each counted each time it is reached (what is shared counts as often as it is met; a slice's spare places count too). A statement '..UptoSaid' is the law's where the arguments, and the package variables that the reading takes, are together of bulk at most 1048576: NARROWER than '..Said'. Prove '..Said' where nothing that the law and all that it calls make is longer than what came in: it says more and counts as full. Else prove '..UptoSaid'. A law counts once. -/
mutual
def uptoBulk {H : Type} : DataW H → Nat
  | .lit (.string bytes) => bytes.length + 1
  | .lit _ => 1
  | .nil => 1
  | .ptr d => uptoBulk d + 1
  | .slice elems spare => uptoBulkAll elems + uptoBulkAll spare + 1
  | .agg parts => uptoBulkAll parts + 1
  | .iface _ d => uptoBulk d + 1
  | .map entries => uptoBulkEntries entries + 1
  | .held _ => 1
def uptoBulkAll {H : Type} : List (DataW H) → Nat
  | [] => 0
  | d :: r => uptoBulk d + uptoBulkAll r
def uptoBulkEntries {H : Type} : List (Lit × DataW H) → Nat
  | [] => 0
  | x :: r => uptoBulkEntry x + uptoBulkEntries r
def uptoBulkEntry {H : Type} : Lit × DataW H → Nat
  | (.string bytes, d) => bytes.length + uptoBulk d + 1
  | (_, d) => uptoBulk d + 1
 end
def uptoSmall : (H : Type) → List (DataW H) → Bool := fun _ ds => decide (uptoBulkAll ds ≤ 1048576)
def OpenSpec.upto (s : _root_.Go.ChangeSpec) : _root_.Go.OpenSpec := { _root_.Go.OpenSpec.ofChange s with cond := some uptoSmall }

/-- 'pleachlaw.DagBases', WHERE WHAT IT READS IS OF BULK AT MOST 1048576: true; the input reads as it did. -/
def dagBasesUptoRow : OpenClaim := { program := "ytcgpgflnihjpiae", sum := "a782e167b9318c510dcd0be83ecf25e810bc8f3744e9fe6b53eeccbceedd2d14", func := "pleach/pleachlaw.DagBases", spec := "dagBases", apart := false, narrowed := true }
def DagBasesUptoSaid : Prop := dagBasesUptoRow.holds Try.pinned (OpenSpec.upto dagBasesSpec)

/-- 'pleachlaw.DagTrue', WHERE WHAT IT READS IS OF BULK AT MOST 1048576: true; the input reads as it did. -/
def dagTrueUptoRow : OpenClaim := { program := "ytcgpgflnihjpiae", sum := "a782e167b9318c510dcd0be83ecf25e810bc8f3744e9fe6b53eeccbceedd2d14", func := "pleach/pleachlaw.DagTrue", spec := "dagTrue", apart := false, narrowed := true }
def DagTrueUptoSaid : Prop := dagTrueUptoRow.holds Try.pinned (OpenSpec.upto dagTrueSpec)

/-- 'pleachlaw.RepoTells', WHERE WHAT IT READS IS OF BULK AT MOST 1048576: true; the input reads as it did. -/
def repoTellsUptoRow : OpenClaim := { program := "ytcgpgflnihjpiae", sum := "a782e167b9318c510dcd0be83ecf25e810bc8f3744e9fe6b53eeccbceedd2d14", func := "pleach/pleachlaw.RepoTells", spec := "repoTells", unfollowed := true, recurses := true, apart := false, narrowed := true }
def RepoTellsUptoSaid : Prop := repoTellsUptoRow.holds Try.pinned (OpenSpec.upto repoTellsSpec)

end Rows
end Go.Proofs.Ytcgpgflnihjpiae
