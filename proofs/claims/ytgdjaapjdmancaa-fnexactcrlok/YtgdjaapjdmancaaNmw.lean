/- Walks: strings.Trim of blanks, texts as names are compared, NameSame of both. -/
import Derived.Test.YtgdjaapjdmancaaNmN
import Derived.Test.YtgdjaapjdmancaaPnz
import Derived.Lib.QuietBelow
import Derived.Deep.DeepBigQuietO
namespace Go.Proofs.Ytgdjaapjdmancaa
set_option linter.unusedVariables false
set_option linter.unusedSimpArgs false
open Go.RowKit

/-- Where s ends without its last blanks. -/
def endR (s : ByteArray) : Nat → Nat
  | 0 => 0
  | n + 1 => if bt s n = 32 then endR s n else n + 1
/-- Where s begins without its first blanks. -/
def begL (s : ByteArray) : Nat → Nat → Nat
  | 0, k => k
  | n + 1, k => if bt s k = 32 then begL s n (k + 1) else k
def cutR (s : ByteArray) : ByteArray := s.extract 0 (endR s s.size)
def cutL (s : ByteArray) : ByteArray := s.extract (begL s s.size 0) s.size

theorem endR_le (s : ByteArray) : ∀ n, endR s n ≤ n
  | 0 => Nat.le_refl _
  | n + 1 => by
    have := endR_le s n
    unfold endR
    split <;> omega
theorem endR_hi (s : ByteArray) : ∀ n j, endR s n ≤ j → j < n → bt s j = 32
  | 0, j, _, h => absurd h (Nat.not_lt_zero _)
  | n + 1, j, h, h2 => by
    unfold endR at h
    split at h
    · rename_i e
      by_cases c : j = n
      · subst c; exact e
      · exact endR_hi s n j h (by omega)
    · omega
theorem endR_last (s : ByteArray) : ∀ n, 0 < endR s n → bt s (endR s n - 1) ≠ 32
  | 0, h => absurd h (Nat.lt_irrefl _)
  | n + 1, h => by
    unfold endR at h ⊢
    split
    · rename_i e
      rw [if_pos e] at h
      exact endR_last s n h
    · rename_i e
      simpa using e
theorem begL_ge (s : ByteArray) : ∀ n k, k ≤ begL s n k ∧ begL s n k ≤ k + n
  | 0, k => ⟨Nat.le_refl _, Nat.le_refl _⟩
  | n + 1, k => by
    have := begL_ge s n (k + 1)
    unfold begL
    split <;> omega
theorem begL_lo (s : ByteArray) : ∀ n k j, k ≤ j → j < begL s n k → bt s j = 32
  | 0, k, j, h, h2 => by unfold begL at h2; omega
  | n + 1, k, j, h, h2 => by
    unfold begL at h2
    split at h2
    · rename_i e
      by_cases c : j = k
      · subst c; exact e
      · exact begL_lo s n (k + 1) j (by omega) h2
    · omega
theorem begL_first (s : ByteArray) : ∀ n k, begL s n k < k + n → bt s (begL s n k) ≠ 32
  | 0, k, h => by unfold begL at h; omega
  | n + 1, k, h => by
    unfold begL at h ⊢
    split
    · rename_i e
      rw [if_pos e] at h
      exact begL_first s n (k + 1) (by omega)
    · rename_i e
      exact e

theorem bt_cut (s : ByteArray) (a b i : Nat) (hb : b ≤ s.size) (hi : a + i < b) : bt (s.extract a b) i = bt s (a + i) := by
  have h1 : i < (s.extract a b).size := by simp; omega
  have h2 : a + i < s.size := by omega
  rw [← bt_get _ i h1, ← bt_get s (a + i) h2]
  congr 1
  simp [ByteArray.getElem_extract]

theorem trim_at (s : ByteArray) : TrimAt s (begL (cutR s) (cutR s).size 0) (endR s s.size) ∧ cutL (cutR s) = s.extract (begL (cutR s) (cutR s).size 0) (endR s s.size) := by
  have hm := endR_le s s.size
  have hz : (cutR s).size = endR s s.size := by unfold cutR; simp; omega
  have hk := (begL_ge (cutR s) (cutR s).size 0).2
  have hb : ∀ j, j < endR s s.size → bt (cutR s) j = bt s j := fun j hj => by
    unfold cutR
    rw [bt_cut s 0 _ j hm (by omega), Nat.zero_add]
  refine ⟨⟨by omega, hm, fun j hj => ?_, fun j h1 h2 => endR_hi s _ j h1 h2, fun h => ?_, fun h => endR_last s _ (by omega)⟩, ?_⟩
  · rw [← hb j (by omega)]
    exact begL_lo (cutR s) _ 0 j (Nat.zero_le _) hj
  · rw [← hb _ h]
    exact begL_first (cutR s) _ 0 (by omega)
  · unfold cutL
    rw [hz] at hk ⊢
    generalize begL (cutR s) (endR s s.size) 0 = k at *
    refine ByteArray.ext (Array.ext' ?_)
    unfold cutR
    rw [Lib.extract_data, Lib.extract_data, Lib.extract_data, List.drop_zero, Nat.sub_zero, List.drop_take, List.take_take]
    congr 1
    omega

theorem trim_plain (s : ByteArray) : cutL (cutR (strOfNums (plQ s s.size))) = plainS s := by
  obtain ⟨h1, h2⟩ := trim_at (strOfNums (plQ s s.size))
  rw [h2]
  exact plain_trim s h1

end Go.Proofs.Ytgdjaapjdmancaa
