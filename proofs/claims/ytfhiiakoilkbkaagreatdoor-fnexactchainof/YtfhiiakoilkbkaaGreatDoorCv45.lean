/- Walks: PatternOk, HostMatch, Under of both. Walks: four numbers, InNet of both. -/
import Derived.Test.YtfhiiakoilkbkaaGreatDoorCv44
import Derived.Deep.RegionWith
namespace Go.Proofs.YtfhiiakoilkbkaaGreatDoor
set_option linter.unusedVariables false
set_option linter.unusedSimpArgs false
section
open Go.RowKit
set_option maxHeartbeats 1000000 in
set_option maxRecDepth 100000 in
theorem specPatternOk_any (s : ByteArray) (hs : s.size ≤ 2097152) (w : World) :
  Calls Tryz.prog 122 #[.string s] w fun e w' => e = .returned (.bool (patB s)) ∧ Ext w w' := by
 rw [patB_spec]
 have HS := hide (l8Star_any s (by omega) w)
 cases hc : (decide (2 < s.size) && starE s)
 ·rw [hc] at HS
  have HH := hide (specHostOk_any s hs w)
  simp only [Bool.false_eq_true, if_false]
  generalize hostB s = b at *
  go_enter Tryz.func122, Tryz.ntmps122
  go_wp2_with (first | (go_at_call 146; refine HS.out.mono ?_; rintro e w' ⟨rfl, rfl⟩) | (go_at_call 123; refine HH.out.mono ?_; rintro e w' ⟨rfl, hE⟩; have HE := hide hE; clear hE))
  go_ret
  exact ⟨rfl, HE.out⟩
 ·rw [hc] at HS
  have h2 : 2 < s.size := by
   rw [Bool.and_eq_true, decide_eq_true_eq] at hc
   exact hc.1
  have g2 : (2 : Int) ≤ s.size := by omega
  have hz : (s.extract 2 s.size).size ≤ s.size := by simp
  have HH := hide (specHostOk_any (s.extract 2 s.size) (by omega) w)
  simp only [if_true]
  by_cases hp : s.size ≤ 1048576
  ·have HP : Hid (∀ w, Calls Tryz.prog 147 #[.string (s.extract 2 s.size), .int .u8 46] w fun e w' => GivesL w (parts (s.extract 2 s.size) 46) e w') := fun w => l8Parts_any (s.extract 2 s.size) 46 (by omega) (by omega) w
   generalize parts (s.extract 2 s.size) 46 = L at *
   cases hb : hostB (s.extract 2 s.size)
   ·rw [hb] at HH
    go_enter Tryz.func122, Tryz.ntmps122
    go_wp2_with (first | (go_at_call 146; refine HS.out.mono ?_; rintro e w' ⟨rfl, rfl⟩) | (go_at_call 123; refine HH.out.mono ?_; rintro e w' ⟨rfl, hE⟩; have HE := hide hE; clear hE))
    go_ret
    exact ⟨rfl, HE.out⟩
   ·rw [hb] at HH
    rw [Bool.true_and]
    have HL : Hid (decide (2 ≤ (L.length : Int)) = decide (2 ≤ L.length)) := by show _ = _; apply decide_eq_decide.2; omega
    go_enter Tryz.func122, Tryz.ntmps122
    go_wp2_with (first | (go_at_call 146; refine HS.out.mono ?_; rintro e w' ⟨rfl, rfl⟩) | (go_at_call 123; refine HH.out.mono ?_; rintro e w1 ⟨rfl, hE⟩; have HE := hide hE; clear hE) | (go_at_call 147; refine (HP.out _).mono ?_; rintro e w2 ⟨g, cap, rfl, hC, hE⟩; have HE2 := hide hE; clear hE hC))
    go_ret
    exact ⟨ret_bool HL.out, Ext.trans HE.out HE2.out⟩
  ·have hb : hostB (s.extract 2 s.size) = false := by
    unfold hostB
    rw [decide_eq_false (by simp; omega), Bool.false_and]
   rw [hb] at HH
   rw [hb, Bool.false_and]
   go_enter Tryz.func122, Tryz.ntmps122
   go_wp2_with (first | (go_at_call 146; refine HS.out.mono ?_; rintro e w' ⟨rfl, rfl⟩) | (go_at_call 123; refine HH.out.mono ?_; rintro e w' ⟨rfl, hE⟩; have HE := hide hE; clear hE))
   go_ret
   exact ⟨rfl, HE.out⟩
theorem hostB_le {s : ByteArray} (h : hostB s = true) : s.size ≤ 80 := by
 unfold hostB at h
 simp only [Bool.and_eq_true, decide_eq_true_eq] at h
 exact h.1
theorem base_size (s : ByteArray) : (base s).size ≤ s.size := by unfold base; split <;> simp
set_option maxHeartbeats 1000000 in
set_option maxRecDepth 100000 in
theorem implPatternOk_any (s : ByteArray) (hs : s.size ≤ 2097152) (w : World) :
  Calls Tryz.prog 106 #[.string s] w fun e w' => e = .returned (.bool (patB s)) ∧ Ext w w' := by
 have HS := hide (cutPrefix_any s (by omega) w)
 have HV : Hid (patB s = (hostB (base s) && (!starB s || decide (1 < (parts (base s) 46).length)))) := rfl
 have HH := hide (implHostOk_any (base s) (by have := base_size s; omega) w)
 have HP : Hid (hostB (base s) = true → ∀ w, Calls Tryz.prog 129 #[.string (base s)] w fun e w' => GivesL w (parts (base s) 46) e w') := fun h w => pieces_any (base s) (by have := hostB_le h; omega) w
 generalize patB s = R at *
 generalize parts (base s) 46 = L at *
 generalize base s = B at *
 generalize starB s = st at *
 generalize hostB B = hb at *
 have HL : Hid (decide (1 < (L.length : Int)) = decide (1 < L.length)) := by show _ = _; apply decide_eq_decide.2; omega
 cases hb
 ·go_enter Tryz.func106, Tryz.ntmps106
  go_wp2_with (first | (go_at_call 128; refine HS.out.mono ?_; rintro e w' ⟨rfl, rfl⟩) | (go_at_call 109; refine HH.out.mono ?_; rintro e w' ⟨rfl, hE⟩; have HE := hide hE; clear hE))
  go_ret
  exact ⟨ret_bool (by rw [HV.out]; rfl), HE.out⟩
 ·cases st
  ·go_enter Tryz.func106, Tryz.ntmps106
   go_wp2_with (first | (go_at_call 128; refine HS.out.mono ?_; rintro e w' ⟨rfl, rfl⟩) | (go_at_call 109; refine HH.out.mono ?_; rintro e w' ⟨rfl, hE⟩; have HE := hide hE; clear hE))
   go_ret
   exact ⟨ret_bool (by rw [HV.out]; rfl), HE.out⟩
  ·have HP2 := hide (HP.out rfl)
   clear HP
   go_enter Tryz.func106, Tryz.ntmps106
   go_wp2_with (first | (go_at_call 128; refine HS.out.mono ?_; rintro e w' ⟨rfl, rfl⟩) | (go_at_call 109; refine HH.out.mono ?_; rintro e w1 ⟨rfl, hE⟩; have HE := hide hE; clear hE) | (go_at_call 129; refine (HP2.out _).mono ?_; rintro e w2 ⟨g, cap, rfl, hC, hE⟩; have HE2 := hide hE; clear hE hC))
   go_ret
   exact ⟨ret_bool (by rw [HV.out]; exact HL.out), Ext.trans HE.out HE2.out⟩
def octs (f : Nat → Int) : Nat → Bool
 | 0 => true
 | n + 1 => octs f n && (decide (0 ≤ f n) && decide (f n ≤ 255))
theorem octs_iff (f : Nat → Int) (n : Nat) : octs f n = true ↔ ∀ i, i < n → 0 ≤ f i ∧ f i ≤ 255 := by
 induction n with
 | zero => simp [octs]
 | succ n ih =>
  simp only [octs, Bool.and_eq_true, ih, decide_eq_true_eq]
  constructor
  ·rintro ⟨h, h0, h1⟩ i hi
   by_cases e : i = n
   ·subst e; exact ⟨h0, h1⟩
   ·exact h i (by omega)
  ·intro h
   exact ⟨fun i hi => h i (by omega), (h n (by omega)).1, (h n (by omega)).2⟩
def fourB (n : Nat) (f : Nat → Int) : Bool := octs f n && decide (n = 4)
theorem four_no {f : Nat → Int} {n k : Nat} (hk : k < n) (h : f k < 0 ∨ 255 < f k) : fourB n f = false := by
 unfold fourB
 cases e : octs f n with
 | false => rfl
 | true => have := (octs_iff f n).1 e k hk; omega
theorem four_end {f : Nat → Int} {n : Nat} (h : ∀ i, i < n → 0 ≤ f i ∧ f i ≤ 255) : fourB n f = decide (n = 4) := by
 unfold fourB
 rw [(octs_iff f n).2 h, Bool.true_and]
set_option maxHeartbeats 400000 in
theorem l8Four_any (a : Option Addr) (b off n cap : Nat) (f : Nat → Int) (w : World) (hs : Seg w a b off n f) (hn : n ≤ 1048576) :
  Calls Tryz.prog 100 #[.slice a n cap] w fun e w' => e = .returned (.bool (fourB n f)) ∧ w' = w := by
 go_enter Tryz.func100, Tryz.ntmps100
 go_wp2
 go_loop [3] (fun i => ∃ k : Nat, k ≤ n ∧ i = .int .i64 k ∧ ∀ j, j < k → 0 ≤ f j ∧ f j ≤ 255) (fun i => n - (intOf i).toNat)
 case atStart => exact ⟨0, Nat.zero_le _, rfl, fun j hj => absurd hj (Nat.not_lt_zero _)⟩
 case round =>
  obtain ⟨k, hk, rfl, hd⟩ := hrel
  by_cases hlt : k < n
  ·obtain rfl := hs.at' (by omega)
   have hc := hs.cell k hlt
   by_cases hin : 0 ≤ f k ∧ f k ≤ 255
   ·obtain ⟨h0, h1⟩ := hin
    have hb : (decide (0 ≤ f k) && decide (f k ≤ 255)) = true := by simp [h0, h1]
    go_wp2_with (go_at_call 23; refine (l1In_any _ _ _ _).mono ?_; rintro e w' ⟨rfl, rfl⟩)
    go_round
    case rel => exact ⟨k + 1, by omega, by go_num, fun j hj => by
           by_cases e : j = k
           ·subst e; exact ⟨h0, h1⟩
           ·exact hd j (by omega)⟩
    case measure => simp [intOf]; omega
   ·have hb : (decide (0 ≤ f k) && decide (f k ≤ 255)) = false := by simp; omega
    go_wp2_with (go_at_call 23; refine (l1In_any _ _ _ _).mono ?_; rintro e w' ⟨rfl, rfl⟩)
    go_ret
    exact ⟨ret_bool (four_no hlt (by omega)).symm, rfl⟩
  ·obtain rfl : k = n := by omega
   have Hfin := hide (four_end hd)
   clear hd
   by_cases h4 : k = 4
   ·have hz : ((k : Int) == 4) = true := by simp; omega
    have H4 := hide h4
    clear h4
    go_wp2
    go_ret
    exact ⟨ret_bool (by rw [Hfin.out]; simp [H4.out]), rfl⟩
   ·have hz : ((k : Int) == 4) = false := by simp; omega
    go_wp2
    go_ret
    exact ⟨ret_bool (by rw [Hfin.out]; simp [h4]), rfl⟩
set_option maxHeartbeats 400000 in
theorem addressOk_any (a : Option Addr) (b off n cap : Nat) (f : Nat → Int) (w : World) (hs : Seg w a b off n f) (hn : n ≤ 1048576) :
  Calls Tryz.prog 108 #[.slice a n cap] w fun e w' => e = .returned (.bool (fourB n f)) ∧ w' = w := by
 by_cases h4 : n = 4
 ·subst h4
  go_enter Tryz.func108, Tryz.ntmps108
  go_wp2
  go_loop [10] (fun i => ∃ k : Nat, k ≤ 4 ∧ i = .int .i64 k ∧ ∀ j, j < k → 0 ≤ f j ∧ f j ≤ 255) (fun i => 4 - (intOf i).toNat)
  case atStart => exact ⟨0, Nat.zero_le _, rfl, fun j hj => absurd hj (Nat.not_lt_zero _)⟩
  case round =>
   obtain ⟨k, hk, rfl, hd⟩ := hrel
   by_cases hlt : k < 4
   ·have hkn : (k : Int) < 4 := by omega
    obtain rfl := hs.at' (by omega)
    have hc := hs.cell k hlt
    by_cases h0 : f k < 0
    ·go_wp2
     go_ret
     exact ⟨ret_bool (four_no hlt (by omega)).symm, rfl⟩
    ·by_cases h1 : 255 < f k
     ·go_wp2
      go_ret
      exact ⟨ret_bool (four_no hlt (by omega)).symm, rfl⟩
     ·go_wp2
      go_round
      case rel => exact ⟨k + 1, by omega, by go_num, fun j hj => by
             by_cases e : j = k
             ·subst e; omega
             ·exact hd j (by omega)⟩
      case measure => simp [intOf]; omega
   ·obtain rfl : k = 4 := by omega
    have Hfin := hide (four_end hd)
    clear hd
    go_wp2
    go_ret
    exact ⟨ret_bool (by rw [Hfin.out]; rfl), rfl⟩
 ·have hz : ((n : Int) != 4) = true := by simp; omega
  go_enter Tryz.func108, Tryz.ntmps108
  go_wp2
  go_ret
  exact ⟨ret_bool (by simp [fourB, h4]), rfl⟩
end
end Go.Proofs.YtfhiiakoilkbkaaGreatDoor
