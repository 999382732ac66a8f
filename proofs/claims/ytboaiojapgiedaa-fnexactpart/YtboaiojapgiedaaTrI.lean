/- Walks: the program's itemOk. -/
import Derived.Test.YtboaiojapgiedaaTrP
namespace Go.Proofs.Ytboaiojapgiedaa
set_option linter.unusedVariables false
set_option linter.unusedSimpArgs false
open Go.RowKit

theorem and32 {x : Int} (h0 : 0 ≤ x) (h1 : x ≤ 255) : (bits .and .i64 x 32 != 0) = decide (x / 32 % 2 = 1) := by
  have h : ∀ n : Nat, n < 256 → (bits .and .i64 (n : Int) 32 != 0) = decide ((n : Int) / 32 % 2 = 1) := by decide +kernel
  have := h x.toNat (by omega)
  rwa [show ((x.toNat : Nat) : Int) = x by omega] at this
theorem and31 {x : Int} (h0 : 0 ≤ x) (h1 : x ≤ 255) : (bits .and .i64 x 31 != 31) = decide (x % 32 ≠ 31) := by
  have h : ∀ n : Nat, n < 256 → (bits .and .i64 (n : Int) 31 != 31) = decide ((n : Int) % 32 ≠ 31) := by decide +kernel
  have := h x.toNat (by omega)
  rwa [show ((x.toNat : Nat) : Int) = x by omega] at this

theorem isMade_any (t : Int) (w : World) (t0 : 0 ≤ t) (t1 : t ≤ 255) : Calls Try.prog 77 #[.int .i64 t] w fun e w' => e = .returned (.bool (decide (t / 32 % 2 = 1))) ∧ w' = w := by
  go_enter Try.func77, Try.ntmps77
  go_wp2
  go_ret
  exact ⟨ret_bool (and32 t0 t1), rfl⟩
theorem tagOk_any (t : Int) (w : World) (t0 : 0 ≤ t) (t1 : t ≤ 255) : Calls Try.prog 76 #[.int .i64 t] w fun e w' => e = .returned (.bool (decide (t % 32 ≠ 31))) ∧ w' = w := by
  go_enter Try.func76, Try.ntmps76
  go_wp2
  go_ret
  exact ⟨ret_bool (and31 t0 t1), rfl⟩

set_option maxHeartbeats 1600000 in
theorem itemOk_any (x : It) (w : World) (hn : x.len ≤ 9223372036854775807) :
    Calls Try.prog 72 #[itV x] w fun e w' => e = .returned (.bool (decide (itP x))) ∧ Ext w w' := by
  obtain ⟨V, hV⟩ : ∃ V, w.alloc (.cells #[.int .i64 x.tag, .slice x.ad x.len x.cap, .int .i64 x.kid] 49) = V := ⟨_, rfl⟩
  obtain ⟨B1, hE, -⟩ := box1 w [.int .i64 x.tag, .slice x.ad x.len x.cap, .int .i64 x.kid] 49 (w1 := V) (by rw [← hV]; exact Ext.refl _)
  have a0 := (B1 0 _ rfl).1
  have a1 := (B1 1 _ rfl).1
  have a2 := (B1 2 _ rfl).1
  have HE := hide hE
  clear B1 hE
  show Calls Try.prog 72 #[.agg #[.int .i64 x.tag, .slice x.ad x.len x.cap, .int .i64 x.kid]] w _
  obtain ⟨F, hF⟩ : ∃ F, decide (itP x) = F := ⟨_, rfl⟩
  rw [hF]
  have HF : Hid (F = decide (0 ≤ x.tag ∧ x.tag ≤ 255 ∧ x.tag % 32 ≠ 31 ∧ (x.tag / 32 % 2 = 1 → 0 ≤ x.kid ∧ x.len = 0) ∧ (x.tag / 32 % 2 ≠ 1 → x.kid = 0))) := hide (by rw [← hF]; rfl)
  clear hF
  generalize x.tag = t at *
  generalize x.kid = c at *
  generalize x.len = q at *
  by_cases hA : t < 0
  · go_enter Try.func72, Try.ntmps72
    go_wp2
    go_ret
    exact ⟨ret_bool (by rw [HF.out]; symm; exact decide_eq_false (by omega)), HE.out⟩
  · by_cases hB : 255 < t
    · go_enter Try.func72, Try.ntmps72
      go_wp2
      go_ret
      exact ⟨ret_bool (by rw [HF.out]; symm; exact decide_eq_false (by omega)), HE.out⟩
    · have HT := hide (fun W => tagOk_any t W (by omega) (by omega))
      have HM := hide (fun W => isMade_any t W (by omega) (by omega))
      by_cases hC : t % 32 = 31
      · rw [show decide (t % 32 ≠ 31) = false by simp [hC]] at HT
        go_enter Try.func72, Try.ntmps72
        go_wp2_with fail
        refine (HT.out _).mono ?_
        rintro e w1 ⟨rfl, hw1⟩
        subst hw1
        go_wp2
        go_ret
        exact ⟨ret_bool (by rw [HF.out]; symm; exact decide_eq_false (by omega)), HE.out⟩
      · rw [show decide (t % 32 ≠ 31) = true by simp [hC]] at HT
        by_cases hM : t / 32 % 2 = 1
        · rw [show decide (t / 32 % 2 = 1) = true by simp [hM]] at HM
          by_cases hk : 0 ≤ c
          · go_enter Try.func72, Try.ntmps72
            go_wp2_with fail
            refine (HT.out _).mono ?_
            rintro e w1 ⟨rfl, hw1⟩
            subst hw1
            go_wp2_with fail
            refine (HM.out _).mono ?_
            rintro e w1 ⟨rfl, hw1⟩
            subst hw1
            go_wp2
            go_ret
            exact ⟨ret_bool (by rw [HF.out, Bool.eq_iff_iff]; simp; omega), HE.out⟩
          · go_enter Try.func72, Try.ntmps72
            go_wp2_with fail
            refine (HT.out _).mono ?_
            rintro e w1 ⟨rfl, hw1⟩
            subst hw1
            go_wp2_with fail
            refine (HM.out _).mono ?_
            rintro e w1 ⟨rfl, hw1⟩
            subst hw1
            go_wp2
            go_ret
            exact ⟨ret_bool (by rw [HF.out]; symm; exact decide_eq_false (by omega)), HE.out⟩
        · rw [show decide (t / 32 % 2 = 1) = false by simp [hM]] at HM
          go_enter Try.func72, Try.ntmps72
          go_wp2_with fail
          refine (HT.out _).mono ?_
          rintro e w1 ⟨rfl, hw1⟩
          subst hw1
          go_wp2_with fail
          refine (HM.out _).mono ?_
          rintro e w1 ⟨rfl, hw1⟩
          subst hw1
          go_wp2
          go_ret
          exact ⟨ret_bool (by rw [HF.out, Bool.eq_iff_iff]; simp; omega), HE.out⟩

end Go.Proofs.Ytboaiojapgiedaa
