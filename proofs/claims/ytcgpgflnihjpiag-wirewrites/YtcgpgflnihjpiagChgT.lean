/- A change. -/
import Derived.Test.YtcgpgflnihjpiagMath
namespace Go.Proofs.Ytcgpgflnihjpiag.M
/-- A change: its key, what it was, what it is. -/
abbrev Chg := Int × Int × Int
end Go.Proofs.Ytcgpgflnihjpiag.M
