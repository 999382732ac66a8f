/- Walks: PatternOk, HostMatch, Under of both. -/
import Derived.Test.YtifokecmmnineaaPat
namespace Go.Proofs.Ytifokecmmnineaa
set_option linter.unusedVariables false
set_option linter.unusedSimpArgs false
open Go.RowKit

set_option maxHeartbeats 1000000 in
set_option maxRecDepth 100000 in
theorem specPatternOk_any (s : ByteArray) (hs : s.size ≤ 2097152) (w : World) :
    Calls Try.prog 13 #[.string s] w fun e w' => e = .returned (.bool (patB s)) ∧ Ext w w' := by
  rw [patB_spec]
  have HS := hide (l8Star_any s (by omega) w)
  cases hc : (decide (2 < s.size) && starE s)
  · rw [hc] at HS
    have HH := hide (specHostOk_any s hs w)
    simp only [Bool.false_eq_true, if_false]
    generalize hostB s = b at *
    go_enter Try.func13, Try.ntmps13
    go_wp2_with (first | (go_at_call 28; refine HS.out.mono ?_; rintro e w' ⟨rfl, rfl⟩) | (go_at_call 11; refine HH.out.mono ?_; rintro e w' ⟨rfl, hE⟩; have HE := hide hE; clear hE))
    go_ret
    exact ⟨rfl, HE.out⟩
  · rw [hc] at HS
    have h2 : 2 < s.size := by
      rw [Bool.and_eq_true, decide_eq_true_eq] at hc
      exact hc.1
    have g2 : (2 : Int) ≤ s.size := by omega
    have hz : (s.extract 2 s.size).size ≤ s.size := by simp
    have HH := hide (specHostOk_any (s.extract 2 s.size) (by omega) w)
    simp only [if_true]
    by_cases hp : s.size ≤ 1048576
    · have HP : Hid (∀ w, Calls Try.prog 22 #[.string (s.extract 2 s.size), .int .u8 46] w fun e w' => GivesL w (parts (s.extract 2 s.size) 46) e w') := fun w => l8Parts_any (s.extract 2 s.size) 46 (by omega) (by omega) w
      generalize parts (s.extract 2 s.size) 46 = L at *
      cases hb : hostB (s.extract 2 s.size)
      · rw [hb] at HH
        go_enter Try.func13, Try.ntmps13
        go_wp2_with (first | (go_at_call 28; refine HS.out.mono ?_; rintro e w' ⟨rfl, rfl⟩) | (go_at_call 11; refine HH.out.mono ?_; rintro e w' ⟨rfl, hE⟩; have HE := hide hE; clear hE))
        go_ret
        exact ⟨rfl, HE.out⟩
      · rw [hb] at HH
        rw [Bool.true_and]
        have HL : Hid (decide (2 ≤ (L.length : Int)) = decide (2 ≤ L.length)) := by show _ = _; apply decide_eq_decide.2; omega
        go_enter Try.func13, Try.ntmps13
        go_wp2_with (first | (go_at_call 28; refine HS.out.mono ?_; rintro e w' ⟨rfl, rfl⟩) | (go_at_call 11; refine HH.out.mono ?_; rintro e w1 ⟨rfl, hE⟩; have HE := hide hE; clear hE) | (go_at_call 22; refine (HP.out _).mono ?_; rintro e w2 ⟨g, cap, rfl, hC, hE⟩; have HE2 := hide hE; clear hE hC))
        go_ret
        exact ⟨ret_bool HL.out, Ext.trans HE.out HE2.out⟩
    · have hb : hostB (s.extract 2 s.size) = false := by
        unfold hostB
        rw [decide_eq_false (by simp; omega), Bool.false_and]
      rw [hb] at HH
      rw [hb, Bool.false_and]
      go_enter Try.func13, Try.ntmps13
      go_wp2_with (first | (go_at_call 28; refine HS.out.mono ?_; rintro e w' ⟨rfl, rfl⟩) | (go_at_call 11; refine HH.out.mono ?_; rintro e w' ⟨rfl, hE⟩; have HE := hide hE; clear hE))
      go_ret
      exact ⟨rfl, HE.out⟩

theorem hostB_le {s : ByteArray} (h : hostB s = true) : s.size ≤ 80 := by
  unfold hostB at h
  simp only [Bool.and_eq_true, decide_eq_true_eq] at h
  exact h.1
theorem base_size (s : ByteArray) : (base s).size ≤ s.size := by unfold base; split <;> simp

set_option maxHeartbeats 1000000 in
set_option maxRecDepth 100000 in
theorem implPatternOk_any (s : ByteArray) (hs : s.size ≤ 2097152) (w : World) :
    Calls Try.prog 14 #[.string s] w fun e w' => e = .returned (.bool (patB s)) ∧ Ext w w' := by
  have HS := hide (cutPrefix_any s (by omega) w)
  have HV : Hid (patB s = (hostB (base s) && (!starB s || decide (1 < (parts (base s) 46).length)))) := rfl
  have HH := hide (implHostOk_any (base s) (by have := base_size s; omega) w)
  have HP : Hid (hostB (base s) = true → ∀ w, Calls Try.prog 25 #[.string (base s)] w fun e w' => GivesL w (parts (base s) 46) e w') := fun h w => pieces_any (base s) (by have := hostB_le h; omega) w
  generalize patB s = R at *
  generalize parts (base s) 46 = L at *
  generalize base s = B at *
  generalize starB s = st at *
  generalize hostB B = hb at *
  have HL : Hid (decide (1 < (L.length : Int)) = decide (1 < L.length)) := by show _ = _; apply decide_eq_decide.2; omega
  cases hb
  · go_enter Try.func14, Try.ntmps14
    go_wp2_with (first | (go_at_call 29; refine HS.out.mono ?_; rintro e w' ⟨rfl, rfl⟩) | (go_at_call 12; refine HH.out.mono ?_; rintro e w' ⟨rfl, hE⟩; have HE := hide hE; clear hE))
    go_ret
    exact ⟨ret_bool (by rw [HV.out]; rfl), HE.out⟩
  · cases st
    · go_enter Try.func14, Try.ntmps14
      go_wp2_with (first | (go_at_call 29; refine HS.out.mono ?_; rintro e w' ⟨rfl, rfl⟩) | (go_at_call 12; refine HH.out.mono ?_; rintro e w' ⟨rfl, hE⟩; have HE := hide hE; clear hE))
      go_ret
      exact ⟨ret_bool (by rw [HV.out]; rfl), HE.out⟩
    · have HP2 := hide (HP.out rfl)
      clear HP
      go_enter Try.func14, Try.ntmps14
      go_wp2_with (first | (go_at_call 29; refine HS.out.mono ?_; rintro e w' ⟨rfl, rfl⟩) | (go_at_call 12; refine HH.out.mono ?_; rintro e w1 ⟨rfl, hE⟩; have HE := hide hE; clear hE) | (go_at_call 25; refine (HP2.out _).mono ?_; rintro e w2 ⟨g, cap, rfl, hC, hE⟩; have HE2 := hide hE; clear hE hC))
      go_ret
      exact ⟨ret_bool (by rw [HV.out]; exact HL.out), Ext.trans HE.out HE2.out⟩

/-- A pattern matches a host. -/
def matB (p h : ByteArray) : Bool := patB p && (hostB h && if starB p then decide (dot h < h.size) && eqS (behind h) (base p) else eqS p h)

theorem star_of_pat {s : ByteArray} (h : patB s = true) : (decide (2 < s.size) && starE s) = starB s := by
  by_cases h2 : 2 < s.size
  · unfold starB; simp [h2]; intro; omega
  · cases hb : starB s
    · simp [h2]
    · exfalso
      have hx := hb
      unfold starB at hx
      simp only [Bool.and_eq_true, decide_eq_true_eq] at hx
      have hs := star_two (by omega) hx.2
      have hc : base s = ⟨#[]⟩ := by unfold base; rw [hb, hs]; simp; rfl
      rw [patB, hc, host_none, Bool.false_and] at h
      cases h

set_option maxHeartbeats 1600000 in
set_option maxRecDepth 100000 in
theorem specHostMatch_any (p h : ByteArray) (hp : p.size ≤ 2097152) (hh : h.size ≤ 2097152) (w : World) :
    Calls Try.prog 15 #[.string p, .string h] w fun e w' => e = .returned (.bool (matB p h)) ∧ Ext w w' := by
  have H1 := hide (specPatternOk_any p hp w)
  have H2 : Hid (∀ w, Calls Try.prog 11 #[.string h] w fun e w' => e = .returned (.bool (hostB h)) ∧ Ext w w') := fun w => specHostOk_any h hh w
  have H3 : Hid (∀ w, Calls Try.prog 28 #[.string p] w fun e w' => e = .returned (.bool (decide (2 < p.size) && starE p)) ∧ w' = w) := fun w => l8Star_any p (by omega) w
  have HV : Hid (matB p h = (patB p && (hostB h && if starB p then decide (dot h < h.size) && eqS (behind h) (base p) else eqS p h))) := rfl
  have HS : Hid (patB p = true → (decide (2 < p.size) && starE p) = starB p) := star_of_pat
  generalize (decide (2 < p.size) && starE p) = st at *
  cases e1 : patB p
  · rw [e1] at H1 HV
    go_enter Try.func15, Try.ntmps15
    go_wp2_with (first | (go_at_call 13; refine H1.out.mono ?_; rintro e w1 ⟨rfl, hE⟩; have HE := hide hE; clear hE))
    go_ret
    exact ⟨ret_bool (by rw [HV.out]; rfl), HE.out⟩
  · have hst := HS.out e1
    rw [e1] at H1 HV
    clear HS e1
    cases e2 : hostB h
    · rw [e2] at H2 HV
      go_enter Try.func15, Try.ntmps15
      go_wp2_with (first | (go_at_call 13; refine H1.out.mono ?_; rintro e w1 ⟨rfl, hE⟩; have HE := hide hE; clear hE) | (go_at_call 11; refine (H2.out _).mono ?_; rintro e w2 ⟨rfl, hE⟩; have HE2 := hide hE; clear hE))
      go_ret
      exact ⟨ret_bool (by rw [HV.out]; rfl), Ext.trans HE.out HE2.out⟩
    · rw [e2] at H2 HV
      cases e3 : starB p
      · rw [e3] at HV hst
        rw [hst] at H3
        clear hst
        go_enter Try.func15, Try.ntmps15
        go_wp2_with (first | (go_at_call 13; refine H1.out.mono ?_; rintro e w1 ⟨rfl, hE⟩; have HE := hide hE; clear hE) | (go_at_call 11; refine (H2.out _).mono ?_; rintro e w2 ⟨rfl, hE⟩; have HE2 := hide hE; clear hE) | (go_at_call 28; refine (H3.out _).mono ?_; rintro e w3 ⟨rfl, rfl⟩))
        go_ret
        exact ⟨ret_bool (by rw [HV.out]; rfl), Ext.trans HE.out HE2.out⟩
      · have hb : base p = p.extract 2 p.size := by unfold base; rw [e3]; simp
        have p2 : (2 : Int) ≤ p.size := by
          have hx := e3
          unfold starB at hx
          simp only [Bool.and_eq_true, decide_eq_true_eq] at hx
          omega
        rw [e3, hb] at HV
        rw [e3] at hst
        rw [hst] at H3
        clear hst hb
        go_enter Try.func15, Try.ntmps15
        go_wp2_with (first | (go_at_call 13; refine H1.out.mono ?_; rintro e w1 ⟨rfl, hE⟩; have HE := hide hE; clear hE) | (go_at_call 11; refine (H2.out _).mono ?_; rintro e w2 ⟨rfl, hE⟩; have HE2 := hide hE; clear hE) | (go_at_call 28; refine (H3.out _).mono ?_; rintro e w3 ⟨rfl, rfl⟩))
        clear H1 H2 H3
        go_loop [5] (fun i => ∃ k : Nat, k ≤ h.size ∧ i = .int .i64 k ∧ ∀ j, j < k → bt h j ≠ 46) (fun i => h.size - (intOf i).toNat)
        case atStart => exact ⟨0, Nat.zero_le _, rfl, fun j hj => absurd hj (Nat.not_lt_zero _)⟩
        case round =>
          obtain ⟨k, hk, rfl, hd⟩ := hrel
          have HD := hide hd
          clear hd
          by_cases hlt : k < h.size
          · have hb := bt_get h k hlt
            have hkn : (k : Int) < (h.size : Int) := by omega
            have h2 := bt_lt h k
            by_cases e : bt h k = 46
            · have HK : Hid (dot h = k) := IsDot.unique (dot_is h) ⟨by omega, HD.out, fun _ => e⟩
              have HB : Hid (behind h = h.extract (k + 1) h.size) := by show _ = _; unfold behind; rw [HK.out, if_pos hlt]
              have HT : Hid (decide (dot h < h.size) = true) := by show _ = true; rw [HK.out]; exact decide_eq_true hlt
              rw [HB.out, HT.out] at HV
              rw [e] at hb
              clear HD HK HB HT e h2
              have g3 : (k : Int) + 1 ≤ h.size := by omega
              have g4 : (0 : Int) ≤ (k : Int) + 1 := by omega
              have g5 : ((k : Int) + 1).toNat = k + 1 := by omega
              go_wp2
              go_quiet (fail)
              go_wp2
              go_ret
              exact ⟨ret_bool (by rw [HV.out]; rfl), below_drewN (Ext.trans HE.out HE2.out) _⟩
            · have HK : Hid (∀ j, j < k + 1 → bt h j ≠ 46) := fun j hj => by
                by_cases e' : j = k
                · subst e'; exact e
                · exact HD.out j (by omega)
              have hne : ((bt h k : Int) != 46) = true := by simp; omega
              clear HD
              generalize bt h k = c at *
              go_wp2
              go_round
              case rel => exact ⟨k + 1, by omega, by go_num, HK.out⟩
              case measure => simp [intOf]; omega
          · obtain rfl : k = h.size := by omega
            have HK : Hid (dot h = h.size) := IsDot.unique (dot_is h) ⟨Nat.le_refl _, HD.out, fun h => absurd h (Nat.lt_irrefl _)⟩
            have HT : Hid (decide (dot h < h.size) = false) := by show _ = false; rw [HK.out]; exact decide_eq_false (Nat.lt_irrefl _)
            rw [HT.out] at HV
            clear HD HK HT
            go_wp2
            go_quiet (fail)
            go_wp2
            go_ret
            exact ⟨ret_bool (by rw [HV.out]; rfl), below_drewN (Ext.trans HE.out HE2.out) _⟩

theorem behind_none {h : ByteArray} (e : ¬ dot h < h.size) : behind h = ⟨#[]⟩ := by unfold behind; rw [if_neg e]

set_option maxHeartbeats 1600000 in
set_option maxRecDepth 100000 in
theorem implHostMatch_any (p h : ByteArray) (hp : p.size ≤ 2097152) (hh : h.size ≤ 2097152) (w : World) :
    Calls Try.prog 16 #[.string p, .string h] w fun e w' => e = .returned (.bool (matB p h)) ∧ Ext w w' := by
  have H1 := hide (implPatternOk_any p hp w)
  have H2 : Hid (∀ w, Calls Try.prog 12 #[.string h] w fun e w' => e = .returned (.bool (hostB h)) ∧ Ext w w') := fun w => implHostOk_any h hh w
  have H3 : Hid (∀ w, Calls Try.prog 29 #[.string p, .string ⟨#[42, 46]⟩] w fun e w' => e = .returned (.tuple #[.string (base p), .bool (starB p)]) ∧ w' = w) := fun w => cutPrefix_any p (by omega) w
  have H4 : Hid (∀ w, Calls Try.prog 30 #[.string h, .string ⟨#[46]⟩] w fun e w' => e = .returned (.tuple #[.string (ahead h), .string (behind h), .bool (found h)]) ∧ Ext w w') := fun w => cut_any h (by omega) w
  have HV : Hid (matB p h = (patB p && (hostB h && if starB p then decide (dot h < h.size) && eqS (behind h) (base p) else eqS p h))) := rfl
  have HN : Hid (patB p = true → (decide (dot h < h.size) && eqS (behind h) (base p)) = eqS (behind h) (base p)) := by
    intro hp
    by_cases e : dot h < h.size
    · simp [e]
    · rw [behind_none e]
      simp only [e, decide_false, Bool.false_and]
      cases q : eqS ⟨#[]⟩ (base p)
      · rfl
      · rw [patB, ← (eqS_iff _ _).1 q, host_none, Bool.false_and] at hp
        cases hp
  cases e1 : patB p
  · rw [e1] at H1 HV
    go_enter Try.func16, Try.ntmps16
    go_wp2_with (first | (go_at_call 14; refine H1.out.mono ?_; rintro e w1 ⟨rfl, hE⟩; have HE := hide hE; clear hE))
    go_ret
    exact ⟨ret_bool (by rw [HV.out]; rfl), HE.out⟩
  · have HN2 := hide (HN.out e1)
    rw [e1] at H1 HV
    clear HN e1
    rw [HN2.out] at HV
    clear HN2
    generalize behind h = B at *
    generalize ahead h = A at *
    generalize found h = F at *
    generalize base p = P at *
    cases e2 : hostB h
    · rw [e2] at H2 HV
      go_enter Try.func16, Try.ntmps16
      go_wp2_with (first | (go_at_call 14; refine H1.out.mono ?_; rintro e w1 ⟨rfl, hE⟩; have HE := hide hE; clear hE) | (go_at_call 12; refine (H2.out _).mono ?_; rintro e w2 ⟨rfl, hE⟩; have HE2 := hide hE; clear hE))
      go_ret
      exact ⟨ret_bool (by rw [HV.out]; rfl), Ext.trans HE.out HE2.out⟩
    · rw [e2] at H2 HV
      cases e3 : starB p
      · rw [e3] at HV H3
        go_enter Try.func16, Try.ntmps16
        go_wp2_with (first | (go_at_call 14; refine H1.out.mono ?_; rintro e w1 ⟨rfl, hE⟩; have HE := hide hE; clear hE) | (go_at_call 12; refine (H2.out _).mono ?_; rintro e w2 ⟨rfl, hE⟩; have HE2 := hide hE; clear hE) | (go_at_call 29; refine (H3.out _).mono ?_; rintro e w3 ⟨rfl, rfl⟩))
        go_ret
        exact ⟨ret_bool (by rw [HV.out]; rfl), Ext.trans HE.out HE2.out⟩
      · rw [e3] at HV H3
        go_enter Try.func16, Try.ntmps16
        go_wp2_with (first | (go_at_call 14; refine H1.out.mono ?_; rintro e w1 ⟨rfl, hE⟩; have HE := hide hE; clear hE) | (go_at_call 12; refine (H2.out _).mono ?_; rintro e w2 ⟨rfl, hE⟩; have HE2 := hide hE; clear hE) | (go_at_call 29; refine (H3.out _).mono ?_; rintro e w3 ⟨rfl, rfl⟩) | (go_at_call 30; refine (H4.out _).mono ?_; rintro e w4 ⟨rfl, hE⟩; have HE3 := hide hE; clear hE))
        go_ret
        exact ⟨ret_bool (by rw [HV.out]; rfl), Ext.trans HE.out (Ext.trans HE2.out HE3.out)⟩

end Go.Proofs.Ytifokecmmnineaa
