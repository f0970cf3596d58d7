/- A change. -/
import Derived.Test.YtcgpgflnihjpiadMath
namespace Go.Proofs.Ytcgpgflnihjpiad.M
/-- A change: its key, what it was, what it is. -/
abbrev Chg := Int × Int × Int
end Go.Proofs.Ytcgpgflnihjpiad.M
