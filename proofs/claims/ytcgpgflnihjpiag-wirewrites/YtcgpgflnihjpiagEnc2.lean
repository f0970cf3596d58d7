/- Heads and numbers in memory, as cells. -/
import Derived.Test.YtcgpgflnihjpiagOwn2
namespace Go.Proofs.Ytcgpgflnihjpiag
open Go.RowKit

theorem infoHead : (Try.prog.info? 49).map (fun i => (i.zero, i.size, i.bytes)) = some (some (.agg #[.string ⟨#[]⟩, .int .i64 0]), 2, 24) := by kernel_rfl
theorem infoCommit : (Try.prog.info? 46).map (fun i => (i.zero, i.size, i.bytes)) = some (some (.agg #[.slice none 0 0, .slice none 0 0]), 2, 48) := by kernel_rfl

theorem Hs.enc {w : World} {ad : Addr} {n : Nat} {H : List M.Hd} (h : Hs w (some ad) n H) : ∀ j u, (encH H)[j]? = some u → w.cell? (ad.add j) = some u := by
  intro j u hj
  have hjl : j < (encH H).length := (List.getElem?_eq_some_iff.1 hj).1
  rw [encH_length] at hjl
  rcases h.cases with ⟨_, rfl⟩ | ⟨b, off, ea, _, hl, _, hc⟩
  · simp at hjl
  · obtain rfl : ad = ⟨b, off, none⟩ := by simpa using ea
    rcases Nat.mod_two_eq_zero_or_one j with h0 | h1
    · obtain ⟨i, rfl⟩ : ∃ i, j = i * 2 := ⟨j / 2, by omega⟩
      rw [encH_name H i (by omega)] at hj
      rw [← hj, Addr.add_lit]; exact (hc i (by omega)).1
    · obtain ⟨i, rfl⟩ : ∃ i, j = i * 2 + 1 := ⟨j / 2, by omega⟩
      rw [encH_at H i (by omega)] at hj
      rw [← hj, Addr.add_lit, ← Nat.add_assoc]
      exact (hc i (by omega)).2.1
theorem Ri.enc {w : World} {ad : Addr} {n : Nat} {l : List Int} (h : Ri w (some ad) n l) : ∀ j u, (l.map (Value.int .i64))[j]? = some u → w.cell? (ad.add j) = some u := by
  intro j u hj
  have hjl : j < l.length := by have := (List.getElem?_eq_some_iff.1 hj).1; simpa using this
  rcases h.cases with ⟨_, rfl⟩ | ⟨b, off, ea, _, hl, _, hc⟩
  · simp at hjl
  · obtain rfl : ad = ⟨b, off, none⟩ := by simpa using ea
    rw [Addr.add_lit, hc j (by omega), ← hj]
    simp [List.getD, hjl]
end Go.Proofs.Ytcgpgflnihjpiag
