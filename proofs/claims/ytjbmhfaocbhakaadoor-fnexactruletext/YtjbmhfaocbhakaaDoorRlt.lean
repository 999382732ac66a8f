/- Walks: RuleText of both. -/
import Derived.Test.YtjbmhfaocbhakaaDoorWat
namespace Go.Proofs.YtjbmhfaocbhakaaDoor
set_option linter.unusedVariables false
set_option linter.unusedSimpArgs false
open Go.RowKit Go.Sort

/-- A rule's text. -/
def rltB (n : Int) : Bool := decide (1 ≤ n) && decide (n ≤ 15)
def rltS (n : Int) : ByteArray := if rltB n then ⟨#[114, 117, 108, 101, 32]⟩ ++ tld n.toNat else ⟨#[]⟩

theorem inRange15_any (x a b : Int) (w : World) : Calls Tryd.prog 8 #[.int .i64 x, .int .i64 a, .int .i64 b] w fun e w' => e = .returned (.bool (decide (a ≤ x) && decide (x ≤ b))) ∧ w' = w := by
  by_cases h1 : a ≤ x
  · by_cases h2 : x ≤ b
    · go_enter Tryd.func8, Tryd.ntmps8
      go_wp2
      go_ret
      exact ⟨ret_bool (by simp [h1, h2]), rfl⟩
    · go_enter Tryd.func8, Tryd.ntmps8
      go_wp2
      go_ret
      exact ⟨ret_bool (by simp [h1, h2]), rfl⟩
  · have HF : Hid (decide (a ≤ x) = false) := decide_eq_false h1
    go_enter Tryd.func8, Tryd.ntmps8
    go_wp2
    go_ret
    exact ⟨ret_bool (by rw [HF.out, Bool.false_and]), rfl⟩

set_option maxHeartbeats 1600000 in
theorem specRule_any (n : Int) (w : World) : Calls Tryd.prog 4 #[.int .i64 n] w fun e w' => e = .returned (.string (rltS n)) ∧ Ext w w' := by
  have HI := hide (l1In_any n 1 15 w)
  have HB : Hid ((decide (1 ≤ n) && decide (n ≤ 15)) = rltB n) := rfl
  rw [HB.out] at HI
  cases hb : rltB n
  · have hV : rltS n = ⟨#[]⟩ := by unfold rltS; rw [hb]; rfl
    rw [hb] at HI
    rw [hV]
    go_enter Tryd.func4, Tryd.ntmps4
    go_wp2_with (go_at_call 6; refine HI.out.mono ?_; rintro e w3 ⟨rfl, hw⟩; obtain rfl := hw.symm)
    go_ret
    exact ⟨rfl, Ext.refl _⟩
  · have hV : rltS n = ⟨#[114, 117, 108, 101, 32]⟩ ++ tld n.toNat := by unfold rltS; rw [hb]; rfl
    rw [hb] at HI HB
    have hr : 1 ≤ n ∧ n ≤ 15 := by have := HB.out; simp at this; exact this
    clear HB hb
    obtain ⟨m, rfl⟩ := Int.eq_ofNat_of_zero_le (show 0 ≤ n by omega)
    rw [Int.toNat_natCast] at hV
    have HT := hide (l1Told_any m (by omega) w)
    have hz := tld_size (n := m) (by omega)
    have hr := add_rule hV (by have : (⟨#[114, 117, 108, 101, 32]⟩ : ByteArray).size = 5 := rfl; omega)
    generalize rltS (m : Int) = R at *
    generalize tld m = D at *
    clear hV hz
    go_enter Tryd.func4, Tryd.ntmps4
    go_wp2_with (first | (go_at_call 6; refine HI.out.mono ?_; rintro e w3 ⟨rfl, hw⟩; obtain rfl := hw.symm) | (go_at_call 7; refine HT.out.mono ?_; rintro e w3 ⟨rfl, hE⟩; have HE := hide hE; clear hE))
    go_ret
    exact ⟨rfl, HE.out⟩

set_option maxHeartbeats 1600000 in
theorem implRule_any (n : Int) (w : World) (hT : Tab w) : Calls Tryd.prog 5 #[.int .i64 n] w fun e w' => e = .returned (.string (rltS n)) ∧ Ext w w' := by
  have HI := hide (inRange15_any n 1 15 w)
  have HB : Hid ((decide (1 ≤ n) && decide (n ≤ 15)) = rltB n) := rfl
  rw [HB.out] at HI
  cases hb : rltB n
  · have hV : rltS n = ⟨#[]⟩ := by unfold rltS; rw [hb]; rfl
    rw [hb] at HI
    rw [hV]
    go_enter Tryd.func5, Tryd.ntmps5
    go_wp2_with (go_at_call 8; refine HI.out.mono ?_; rintro e w3 ⟨rfl, hw⟩; obtain rfl := hw.symm)
    go_ret
    exact ⟨rfl, Ext.refl _⟩
  · have hV : rltS n = ⟨#[114, 117, 108, 101, 32]⟩ ++ tld n.toNat := by unfold rltS; rw [hb]; rfl
    rw [hb] at HI HB
    have hr : 1 ≤ n ∧ n ≤ 15 := by have := HB.out; simp at this; exact this
    clear HB hb
    obtain ⟨m, rfl⟩ := Int.eq_ofNat_of_zero_le (show 0 ≤ n by omega)
    rw [Int.toNat_natCast] at hV
    have HT := hide (itoa_any m (by omega) w hT)
    have hz := tld_size (n := m) (by omega)
    have hr := add_rule hV (by have : (⟨#[114, 117, 108, 101, 32]⟩ : ByteArray).size = 5 := rfl; omega)
    generalize rltS (m : Int) = R at *
    generalize tld m = D at *
    clear hV hz hT
    go_enter Tryd.func5, Tryd.ntmps5
    go_wp2_with (first | (go_at_call 8; refine HI.out.mono ?_; rintro e w3 ⟨rfl, hw⟩; obtain rfl := hw.symm) | (go_at_call 9; refine HT.out.mono ?_; rintro e w3 ⟨rfl, hE⟩; have HE := hide hE; clear hE))
    go_ret
    exact ⟨rfl, HE.out⟩

end Go.Proofs.YtjbmhfaocbhakaaDoor
