/- Walks: HostOk of both, digits. -/
import Derived.Test.YtgdjaapjdmancaaHok
namespace Go.Proofs.Ytgdjaapjdmancaa
set_option linter.unusedVariables false
set_option linter.unusedSimpArgs false
open Go.RowKit

theorem digB_no {s : ByteArray} {k : Nat} (hk : k < s.size) (h : dgB (bt s k) = false) : digB s = false := allN_false hk h

theorem partsFrom_size (s : ByteArray) (m : Nat) : ∀ n k fr, k + n = s.size → fr ≤ k → ∀ x ∈ partsFrom s m n k fr, x.size ≤ s.size
  | 0, k, fr, hk, hf, x, hx => by
    simp only [partsFrom, List.mem_singleton] at hx
    subst hx
    simp
  | n + 1, k, fr, hk, hf, x, hx => by
    unfold partsFrom at hx
    split at hx
    · rcases List.mem_cons.1 hx with rfl | hx
      · simp; omega
      · exact partsFrom_size s m n _ _ (by omega) (Nat.le_refl _) x hx
    · exact partsFrom_size s m n _ _ (by omega) (by omega) x hx
theorem nth_mem {L : List ByteArray} {i : Nat} (h : i < L.length) : nth L i ∈ L := by
  unfold nth
  rw [List.getD_eq_getElem?_getD, List.getElem?_eq_getElem h]
  exact List.getElem_mem _
theorem nth_size {s : ByteArray} {m i : Nat} (h : i < (parts s m).length) : (nth (parts s m) i).size ≤ s.size :=
  partsFrom_size s m _ _ _ (by omega) (Nat.le_refl _) _ (nth_mem h)

theorem all_nth {L : List ByteArray} : L.all labB = true ↔ ∀ i, i < L.length → labB (nth L i) = true := by
  rw [List.all_eq_true]
  constructor
  · exact fun h i hi => h _ (nth_mem hi)
  · intro h x hx
    obtain ⟨i, hi, rfl⟩ := List.getElem_of_mem hx
    have := h i hi
    unfold nth at this
    rwa [List.getD_eq_getElem?_getD, List.getElem?_eq_getElem hi] at this
theorem hostL_no {L : List ByteArray} {i : Nat} (hi : i < L.length) (h : labB (nth L i) = false) : hostL L = false := by
  unfold hostL
  cases e : L.all labB
  · rfl
  · rw [all_nth.1 e i hi] at h; cases h

theorem hostL_end {L : List ByteArray} (h : ∀ i, i < L.length → labB (nth L i) = true) : hostL L = (decide (L.length ≤ 8) && !digB (nth L (L.length - 1))) := by
  unfold hostL
  rw [all_nth.2 h, Bool.true_and]
theorem labB_pos {s : ByteArray} (h : labB s = true) : 0 < s.size := by
  unfold labB at h
  simp only [Bool.and_eq_true, decide_eq_true_eq] at h
  omega

end Go.Proofs.Ytgdjaapjdmancaa
