/- Walks: HostOk of both, digits. -/
import Derived.Test.YtjidlahgfkdipaaDoorHok
namespace Go.Proofs.YtjidlahgfkdipaaDoor
set_option linter.unusedVariables false
set_option linter.unusedSimpArgs false
open Go.RowKit

theorem digB_no {s : ByteArray} {k : Nat} (hk : k < s.size) (h : dgB (bt s k) = false) : digB s = false := allN_false hk h

set_option maxHeartbeats 800000 in
set_option maxRecDepth 100000 in
theorem l8Digits_any (s : ByteArray) (hs : s.size ≤ 1048576) (w : World) :
    Calls Tryd.prog 35 #[.string s] w fun e w' => e = .returned (.bool (digB s && decide (0 < s.size))) ∧ w' = w := by
  go_enter Tryd.func35, Tryd.ntmps35
  go_wp2
  go_loop [3] (fun i => ∃ k : Nat, k ≤ s.size ∧ i = .int .i64 k ∧ ∀ j, j < k → dgB (bt s j) = true) (fun i => s.size - (intOf i).toNat)
  case atStart => exact ⟨0, Nat.zero_le _, rfl, fun j hj => absurd hj (Nat.not_lt_zero _)⟩
  case round =>
    obtain ⟨k, hk, rfl, hd⟩ := hrel
    have HD := hide hd
    clear hd
    by_cases hlt : k < s.size
    · have hb := bt_get s k hlt
      have hkn : (k : Int) < (s.size : Int) := by omega
      have h2 := bt_lt s k
      have HC : Hid (∀ b, dgB (bt s k) = b → (b = true → ∀ j, j < k + 1 → dgB (bt s j) = true) ∧ (b = false → digB s = false)) := by
        intro b hb
        refine ⟨fun h j hj => ?_, fun h => digB_no hlt (hb.trans h)⟩
        by_cases e : j = k
        · subst e; exact hb.trans h
        · exact HD.out j (by omega)
      clear HD
      generalize bt s k = c at *
      have H2 := hide (dgB_i c)
      cases e2 : dgB c
      · have hb2 : (decide (48 ≤ (c : Int)) && decide ((c : Int) ≤ 57)) = false := H2.out.trans e2
        have HK := hide ((HC.out false e2).2 rfl)
        clear HC H2 e2
        go_wp2_with (go_at_call 24; refine (l1In_any _ _ _ _).mono ?_; rintro e w' ⟨rfl, rfl⟩)
        go_ret
        exact ⟨ret_bool (by rw [HK.out]; rfl), rfl⟩
      · have hb2 : (decide (48 ≤ (c : Int)) && decide ((c : Int) ≤ 57)) = true := H2.out.trans e2
        have HK := hide ((HC.out true e2).1 rfl)
        clear HC H2 e2
        go_wp2_with (go_at_call 24; refine (l1In_any _ _ _ _).mono ?_; rintro e w' ⟨rfl, rfl⟩)
        go_round
        case rel => exact ⟨k + 1, by omega, by go_num, HK.out⟩
        case measure => simp [intOf]; omega
    · obtain rfl : k = s.size := by omega
      have HF : Hid (digB s = true) := (allN_iff _ _ _).2 HD.out
      clear HD
      go_wp2
      go_ret
      refine ⟨ret_bool ?_, rfl⟩
      rw [HF.out, Bool.true_and]
      first | done | (apply decide_eq_decide.2; omega)

theorem partsFrom_size (s : ByteArray) (m : Nat) : ∀ n k fr, k + n = s.size → fr ≤ k → ∀ x ∈ partsFrom s m n k fr, x.size ≤ s.size
  | 0, k, fr, hk, hf, x, hx => by
    simp only [partsFrom, List.mem_singleton] at hx
    subst hx
    simp
  | n + 1, k, fr, hk, hf, x, hx => by
    unfold partsFrom at hx
    split at hx
    · rcases List.mem_cons.1 hx with rfl | hx
      · simp; omega
      · exact partsFrom_size s m n _ _ (by omega) (Nat.le_refl _) x hx
    · exact partsFrom_size s m n _ _ (by omega) (by omega) x hx
theorem nth_mem {L : List ByteArray} {i : Nat} (h : i < L.length) : nth L i ∈ L := by
  unfold nth
  rw [List.getD_eq_getElem?_getD, List.getElem?_eq_getElem h]
  exact List.getElem_mem _
theorem nth_size {s : ByteArray} {m i : Nat} (h : i < (parts s m).length) : (nth (parts s m) i).size ≤ s.size :=
  partsFrom_size s m _ _ _ (by omega) (Nat.le_refl _) _ (nth_mem h)

theorem all_nth {L : List ByteArray} : L.all labB = true ↔ ∀ i, i < L.length → labB (nth L i) = true := by
  rw [List.all_eq_true]
  constructor
  · exact fun h i hi => h _ (nth_mem hi)
  · intro h x hx
    obtain ⟨i, hi, rfl⟩ := List.getElem_of_mem hx
    have := h i hi
    unfold nth at this
    rwa [List.getD_eq_getElem?_getD, List.getElem?_eq_getElem hi] at this
theorem hostL_no {L : List ByteArray} {i : Nat} (hi : i < L.length) (h : labB (nth L i) = false) : hostL L = false := by
  unfold hostL
  cases e : L.all labB
  · rfl
  · rw [all_nth.1 e i hi] at h; cases h

theorem hostL_end {L : List ByteArray} (h : ∀ i, i < L.length → labB (nth L i) = true) : hostL L = (decide (L.length ≤ 8) && !digB (nth L (L.length - 1))) := by
  unfold hostL
  rw [all_nth.2 h, Bool.true_and]
theorem labB_pos {s : ByteArray} (h : labB s = true) : 0 < s.size := by
  unfold labB at h
  simp only [Bool.and_eq_true, decide_eq_true_eq] at h
  omega

end Go.Proofs.YtjidlahgfkdipaaDoor
