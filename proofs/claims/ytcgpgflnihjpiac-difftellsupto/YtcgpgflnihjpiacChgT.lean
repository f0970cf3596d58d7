/- A change. -/
import Derived.Test.YtcgpgflnihjpiacMath
namespace Go.Proofs.Ytcgpgflnihjpiac.M
/-- A change: its key, what it was, what it is. -/
abbrev Chg := Int × Int × Int
end Go.Proofs.Ytcgpgflnihjpiac.M
