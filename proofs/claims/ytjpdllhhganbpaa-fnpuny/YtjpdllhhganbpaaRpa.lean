/- Walks: what ReadPuny of both is made of: digits' values, a delta read, near numbers, the last mark. -/
import Derived.Test.YtjpdllhhganbpaaRpN
import Derived.Test.YtjpdllhhganbpaaHok
import Derived.Test.YtjpdllhhganbpaaStepsC
namespace Go.Proofs.Ytjpdllhhganbpaa
set_option linter.unusedVariables false
set_option linter.unusedSimpArgs false
open Go.RowKit Go.Sort

theorem l8PunyValue_any (x : Int) (h0 : 0 ≤ x) (h1 : x < 256) (w : World) : Calls Try.prog 19 #[.int .u8 x] w fun e w' => e = .returned (.int .i64 (pv x)) ∧ w' = w := by
  have HP : Hid (pv x = if 97 ≤ x ∧ x ≤ 122 then x - 97 else if 48 ≤ x ∧ x ≤ 57 then x - 22 else -1) := rfl
  generalize pv x = V at *
  by_cases c1 : 97 ≤ x
  · by_cases c2 : x ≤ 122
    · have HX : Hid (x - 97 = V) := by show _ = _; rw [HP.out, if_pos ⟨c1, c2⟩]
      have g : (x - 97) % 256 = x - 97 := by omega
      clear HP
      go_enter Try.func19, Try.ntmps19
      go_wp2
      go_ret
      exact ⟨ret_int HX.out, rfl⟩
    · have HX : Hid (-1 = V) := by show _ = _; rw [HP.out, if_neg (by omega), if_neg (by omega)]
      have c3 : 48 ≤ x := by omega
      have c4 : ¬ x ≤ 57 := by omega
      clear HP
      go_enter Try.func19, Try.ntmps19
      go_wp2
      go_ret
      exact ⟨ret_int HX.out, rfl⟩
  · by_cases c3 : 48 ≤ x
    · by_cases c4 : x ≤ 57
      · have HX : Hid (x - 48 + 26 = V) := by show _ = _; rw [HP.out, if_neg (by omega), if_pos ⟨c3, c4⟩]; omega
        have g : (x - 48) % 256 = x - 48 := by omega
        clear HP
        go_enter Try.func19, Try.ntmps19
        go_wp2
        go_ret
        exact ⟨ret_int HX.out, rfl⟩
      · have HX : Hid (-1 = V) := by show _ = _; rw [HP.out, if_neg (by omega), if_neg (by omega)]
        clear HP
        go_enter Try.func19, Try.ntmps19
        go_wp2
        go_ret
        exact ⟨ret_int HX.out, rfl⟩
    · have HX : Hid (-1 = V) := by show _ = _; rw [HP.out, if_neg (by omega), if_neg (by omega)]
      clear HP
      go_enter Try.func19, Try.ntmps19
      go_wp2
      go_ret
      exact ⟨ret_int HX.out, rfl⟩

/-- What digitOf tells. -/
def dgV (x : Int) : Int := if pv x < 0 then 0 else pv x
def dgO (x : Int) : Bool := decide (0 ≤ pv x)

theorem digitOf_any (r : Nat) (hr : r ≤ 2147483647) (w : World) : Calls Try.prog 44 #[.int .i32 (r : Int)] w fun e w' => e = .returned (.tuple #[.int .i64 (dgV r), .bool (dgO r)]) ∧ w' = w := by
  have HS := hide (isSmall_any r w)
  have HD := hide (isDecimal_any r w)
  have HP : Hid (pv r = if 97 ≤ (r : Int) ∧ (r : Int) ≤ 122 then (r : Int) - 97 else if 48 ≤ (r : Int) ∧ (r : Int) ≤ 57 then (r : Int) - 22 else -1) := rfl
  have Hs : Hid (smB r = true ↔ 97 ≤ (r : Int) ∧ (r : Int) ≤ 122) := by unfold Hid smB; simp; omega
  have Hd : Hid (dgB r = true ↔ 48 ≤ (r : Int) ∧ (r : Int) ≤ 57) := by unfold Hid dgB; simp; omega
  have HV : Hid (∀ y, pv r = y → 0 ≤ y → dgV r = y ∧ dgO r = true) := fun y h h0 => by unfold dgV dgO; rw [h, if_neg (by omega)]; simp [h0]
  have HN : Hid (pv r = -1 → dgV r = 0 ∧ dgO r = false) := fun h => by unfold dgV dgO; rw [h]; exact ⟨rfl, rfl⟩
  generalize dgV r = V at *
  generalize dgO r = O at *
  cases cs : smB r
  · rw [cs] at HS Hs
    cases cd : dgB r
    · rw [cd] at HD Hd
      obtain ⟨rfl, rfl⟩ := HN.out (by rw [HP.out, if_neg (fun h => by have := Hs.out.2 h; cases this), if_neg (fun h => by have := Hd.out.2 h; cases this)])
      clear HP Hs Hd HV HN
      go_enter Try.func44, Try.ntmps44
      go_wp2_with (first | (go_at_call 51; refine HS.out.mono ?_; rintro e w3 ⟨rfl, hw⟩; obtain rfl := hw.symm) | (go_at_call 52; refine HD.out.mono ?_; rintro e w3 ⟨rfl, hw⟩; obtain rfl := hw.symm))
      go_ret2
      exact ⟨rfl, rfl⟩
    · rw [cd] at HD Hd
      have hd := Hd.out.1 rfl
      obtain ⟨rfl, rfl⟩ := HV.out ((r : Int) - 22) (by rw [HP.out, if_neg (fun h => by have := Hs.out.2 h; cases this), if_pos hd]) (by omega)
      obtain ⟨d0, d1⟩ := hd
      clear HP Hs Hd HV HN
      have g1 : IntKind.i32.wrap ((r : Int) - 48) = (r : Int) - 48 := by unfold IntKind.wrap; simp [IntKind.signed, IntKind.bits]; omega
      have g2 : 26 + ((r : Int) - 48) = (r : Int) - 22 := by omega
      go_enter Try.func44, Try.ntmps44
      go_wp2_with (first | (go_at_call 51; refine HS.out.mono ?_; rintro e w3 ⟨rfl, hw⟩; obtain rfl := hw.symm) | (go_at_call 52; refine HD.out.mono ?_; rintro e w3 ⟨rfl, hw⟩; obtain rfl := hw.symm))
      go_ret2
      exact ⟨by first | rfl | (rw [g2]), rfl⟩
  · rw [cs] at HS Hs
    have hd := Hs.out.1 rfl
    obtain ⟨rfl, rfl⟩ := HV.out ((r : Int) - 97) (by rw [HP.out, if_pos hd]) (by omega)
    obtain ⟨d0, d1⟩ := hd
    clear HP Hs Hd HV HN
    have g1 : IntKind.i32.wrap ((r : Int) - 97) = (r : Int) - 97 := by unfold IntKind.wrap; simp [IntKind.signed, IntKind.bits]; omega
    go_enter Try.func44, Try.ntmps44
    go_wp2_with (go_at_call 51; refine HS.out.mono ?_; rintro e w3 ⟨rfl, hw⟩; obtain rfl := hw.symm)
    go_ret2
    exact ⟨by first | rfl | simp, rfl⟩

theorem lastIndex_any (s : ByteArray) (hs : s.size ≤ 1048576) (w : World) : Calls Try.prog 43 #[.string s, .int .u8 45] w fun e w' => e = .returned (.int .i64 (mkL s s.size)) ∧ w' = w := by
  go_enter Try.func43, Try.ntmps43
  have HM : Hid (∀ k : Nat, mkL s (k + 1) = if bt s k = 45 then (k : Int) else mkL s k) := fun k => rfl
  have H0 : Hid (mkL s 0 = -1) := rfl
  generalize hR : mkL s s.size = R at *
  have HR := hide hR
  clear hR
  have e0 : wrap64 ((s.size : Int) - 1) = (s.size : Int) - 1 := by unfold wrap64; omega
  go_wp2
  clear e0
  go_loop [5] (fun i => ∃ k : Nat, k ≤ s.size ∧ i = .int .i64 ((k : Int) - 1) ∧ mkL s k = R) (fun i => (intOf i + 1).toNat)
  case atStart => exact ⟨s.size, Nat.le_refl _, rfl, HR.out⟩
  case round =>
    obtain ⟨k, hk, rfl, hm⟩ := hrel
    have Hm := hide hm
    clear hm
    cases k with
    | zero =>
      have HX : Hid (-1 = R) := by show _ = _; rw [← Hm.out, H0.out]
      go_wp2
      go_ret
      exact ⟨ret_int HX.out, rfl⟩
    | succ k =>
      have hk1 : k < s.size := by omega
      have e1 : ((k + 1 : Nat) : Int) - 1 = (k : Int) := by omega
      rw [e1]
      have hc : ((s[k]'hk1).toNat : Int) = (bt s k : Int) := by rw [bt_get]
      have hn : 0 ≤ (k : Int) := by omega
      have w1 : wrap64 ((k : Int) - 1) = (k : Int) - 1 := by unfold wrap64; omega
      clear e1
      by_cases c : bt s k = 45
      · have HX : Hid ((k : Int) = R) := by show _ = _; rw [← Hm.out, HM.out, if_pos c]
        have c' : ((bt s k : Int) == 45) = true := by simp; omega
        go_wp2
        go_ret
        exact ⟨ret_int HX.out, rfl⟩
      · have HX : Hid (mkL s k = R) := by show _ = _; rw [← Hm.out, HM.out, if_neg c]
        have c' : ((bt s k : Int) == 45) = false := by simp; omega
        go_wp2
        go_round
        case rel => exact ⟨k, by omega, by go_num, HX.out⟩
        case measure => simp [intOf]

theorem lastIndexByte_any (s : ByteArray) (hs : s.size ≤ 1048576) (w : World) : Calls Try.prog 22 #[.string s, .int .u8 45] w fun e w' => e = .returned (.int .i64 (mkL s s.size)) ∧ w' = w := by
  have H := hide (lastIndex_any s hs w)
  generalize mkL s s.size = R at *
  go_enter Try.func22, Try.ntmps22
  go_wp2_with fail
  refine H.out.mono ?_
  rintro e w1 ⟨rfl, hw⟩
  obtain rfl := hw.symm
  go_wp2
  go_ret
  exact ⟨rfl, rfl⟩

end Go.Proofs.Ytjpdllhhganbpaa
