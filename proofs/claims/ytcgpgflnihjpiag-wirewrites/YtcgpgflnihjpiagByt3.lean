/- Texts of bytes. -/
import Derived.Test.YtcgpgflnihjpiagByt1
namespace Go.Proofs.Ytcgpgflnihjpiag.M
def str (l : By) : ByteArray := ⟨l.toArray⟩
theorem str_size (l : By) : (str l).size = l.length := by simp [str, ByteArray.size]
theorem str_take (l : By) (n : Nat) : (str l).extract 0 n = str (l.take n) := by
  apply ByteArray.ext
  rw [ByteArray.data_extract]
  simp [str]
theorem str_drop (l : By) (n : Nat) (m : Nat) (h : m = l.length) : (str l).extract n m = str (l.drop n) := by
  subst h
  apply ByteArray.ext
  rw [ByteArray.data_extract]
  simp [str]
  exact List.take_of_length_le (by simp)
end Go.Proofs.Ytcgpgflnihjpiag.M
