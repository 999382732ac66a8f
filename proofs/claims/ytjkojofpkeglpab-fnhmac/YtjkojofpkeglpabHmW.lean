/- Walk: the law FnHmac. -/
import Derived.Test.YtjkojofpkeglpabDrH
import Derived.Test.YtjkojofpkeglpabEqB
namespace Go.Proofs.Ytjkojofpkeglpab
set_option linter.unusedVariables false
set_option linter.unusedSimpArgs false
open Go.RowKit

theorem cat_range {f : Nat → Int} {n M : Nat} (h : ∀ i, i < n → 0 ≤ f i ∧ f i < 256) : ∀ i, i < M → 0 ≤ catF f n (fun _ => 0) i ∧ catF f n (fun _ => 0) i < 256 := fun i _ => by
  unfold catF
  split
  · exact h i (by assumption)
  · show (0 : Int) ≤ 0 ∧ (0 : Int) < 256; omega
theorem hmac_long (f : Nat → Int) (n : Nat) (fd : Nat → Int) (m : Nat) (h : ¬ n ≤ 64) : hmacF (shaF f n) 32 fd m = hmacF f n fd m := by
  have e1 : keyK (shaF f n) 32 = keyK f n := by unfold keyK; rw [if_pos (by omega), if_neg h]
  have e2 : keyN 32 = keyN n := by unfold keyN; rw [if_pos (by omega), if_neg h]
  unfold hmacF innF
  rw [e1, e2]
theorem hmac_short (f : Nat → Int) (n : Nat) (fd : Nat → Int) (m : Nat) (h : n ≤ 64) : hmacF (catF f n (fun _ => 0)) 64 fd m = hmacF f n fd m := by
  have e : ∀ y, padB (keyK (catF f n (fun _ => 0)) 64) (keyN 64) y = padB (keyK f n) (keyN n) y := by
    intro y
    have e1 : kbF (keyK (catF f n (fun _ => 0)) 64) (keyN 64) = kbF (keyK f n) (keyN n) := by
      unfold keyK keyN
      rw [if_pos (by omega), if_pos (by omega), if_pos h, if_pos h]
      funext i
      unfold kbF catF
      by_cases h1 : i < n
      · rw [if_pos (by omega), if_pos h1]
      · rw [if_neg h1]
        split <;> rfl
    unfold padB
    rw [e1]
  unfold hmacF innF
  rw [e, e]

set_option maxHeartbeats 3200000 in
set_option maxRecDepth 100000 in
theorem lawHmac_any (a : Option Addr) (b off n cap : Nat) (f : Nat → Int) (w : World) (hs : BSeg w a b off n f) (hB : ∀ i, i < n → 0 ≤ f i ∧ f i ≤ 255) :
    Calls Try.prog 3 #[.slice a n cap] w fun e w' => e = .returned (.bool true) ∧ Below w.heap.size w w' := by
  by_cases hn : n ≤ 1048576
  · go_enter Try.func3, Try.ntmps3
    go_wp2_with fail
    refine (big_any a n cap w hn).mono ?_
    rintro e w1 ⟨rfl, hw⟩
    subst hw
    go_wp2_with fail
    refine (drawHmac_any a b off n cap f _ hs hB hn).mono ?_
    rintro e w2 ⟨ka, kb, ko, k, kc, fk, da, db, doff, m, dc, fd, rfl, hk, hm, hK, hD, hKy, hDy, E2⟩
    have HK := hide hK
    have HD := hide hD
    have HKy := hide hKy
    have HDy := hide hDy
    have HE : Hid (Ext w1 w2) := hide E2
    clear hK hD hKy hDy E2 hs hB hn
    go_wp2_with fail
    refine (implHmac_any ka kb ko k kc fk da db doff m dc fd w2 HK.out HD.out HKy.out HDy.out).mono ?_
    rintro e w3 ⟨xa, xg, xc, rfl, -, hX, E3⟩
    have HX := hide hX.toBSeg
    replace HK := hide (HK.out.of_all E3)
    replace HD := hide (HD.out.of_all E3)
    replace HE : Hid (Ext w1 w3) := hide (HE.out.trans E3)
    clear hX E3
    go_wp2_with fail
    refine (specHmac_any ka kb ko k kc fk da db doff m dc fd w3 HK.out HD.out HKy.out HDy.out).mono ?_
    rintro e w4 ⟨ya, yg, yc, rfl, -, hY, E4⟩
    replace HX := hide (HX.out.of_all E4)
    replace HK := hide (HK.out.of_all E4)
    replace HD := hide (HD.out.of_all E4)
    replace HE : Hid (Ext w1 w4) := hide (HE.out.trans E4)
    clear hY E4
    by_cases h1 : k ≤ 10000
    · have HBk : Hid (hmacB k m = true) := hide (decide_eq_true ⟨h1, by omega⟩)
      have HNk : Hid (hmacN k m = 32) := by unfold Hid hmacN; rw [if_pos ⟨h1, by omega⟩]
      rw [HBk.out, HNk.out]
      rw [HNk.out] at HX
      clear HBk HNk
      by_cases h64 : k ≤ 64
      · have c64 : ¬ (64 : Int) < (k : Int) := by omega
        obtain ⟨q, hq⟩ : ∃ q : Nat, 64 - k = q := ⟨_, rfl⟩
        have hq2 : (64 : Int) - (k : Int) = (q : Int) := by omega
        have HO0 := hide (World.ownsRow_made (base := w4.heap.size) (e := 5) (size := 1) w4 #[] 0 (Nat.le_refl _) (by simp) rfl)
        have HKa := hide (HK.out.of_all (Ext.alloc w4 (.cells #[] 5)))
        have Hq := hide hq
        clear hq
        go_wp2_with (at_builtin; refine wpList_append_bs rfl _ _ rfl w4.heap.size _ 0 [] rfl HO0.out _ kb ko k kc fk rfl HKa.out (by omega) (by simp) ?_)
        intro v5 w5 hO5 h5
        have HO5 := hide hO5
        have E5 : Ext w4 w5 := Below.trans (Ext.alloc w4 (.cells #[] 5)) h5
        have Hz5 := hide (Below.size E5)
        have HX0 := HX
        have HD0 := HD
        have HE0 := HE
        clear hO5 h5 HO0 HKa HX HD HE
        have HX := HX0
        have HD := HD0
        have HE := HE0
        go_wp2_with (at_builtin; refine wpList_append_noughts rfl _ _ rfl w4.heap.size _ k q (byts fk k) rfl rfl HO5.out Hz5.out (by omega) ?_)
        intro v6 w6 hO6 h6
        rw [byts_append, show k + q = 64 by have := Hq.out; omega] at hO6
        obtain ⟨za, zg, zc, rfl, -, -, -, hzB⟩ := owns_seg hO6
        have HZ := hide hzB.toBSeg
        have E6 : Ext w4 w6 := Below.trans E5 h6
        have Hle := hide (Below.size E5)
        replace HX := hide (HX0.out.of_all E6)
        replace HD := hide (HD0.out.of_all E6)
        replace HE : Hid (Ext w1 w6) := hide (HE0.out.trans E6)
        clear hO6 h6 hzB E6 E5 HX0 HD0 HE0 HO5
        go_wp2_with fail
        refine (implHmac_any za zg 0 64 zc _ da db doff m dc fd w6 HZ.out HD.out (cat_range HKy.out) HDy.out).mono ?_
        rintro e w7 ⟨ua, ug, uc, rfl, -, hU, E7⟩
        rw [hmac_short fk k fd m h64, show hmacN 64 m = 32 by unfold hmacN; rw [if_pos ⟨by omega, by omega⟩]] at hU
        have hU1 := conv_seg (cap := uc) hU.toBSeg
        have hX1 := conv_seg (cap := xc) (HX.out.of_all E7)
        have HEE : Hid (Ext w1 w7) := hide (HE.out.trans E7)
        rw [show hmacN 64 m = 32 by unfold hmacN; rw [if_pos ⟨by omega, by omega⟩]]
        clear hU E7 HX HD HZ HE
        generalize strOfNums (nums (hmacF fk k fd m) 32) = s at *
        go_wp2
        go_ret
        exact ⟨rfl, HEE.out⟩
      · have c64 : (64 : Int) < (k : Int) := by omega
        have HSh := hide (sha_any ka kb ko k kc fk w4 (by omega) HK.out HKy.out)
        rw [show shaN k = 32 by unfold shaN; rw [if_pos (by omega)]] at HSh
        go_wp2_with fail
        refine HSh.out.mono ?_
        rintro e w5 ⟨v5, rfl, hO5, E5⟩
        obtain ⟨za, zg, zc, rfl, -, -, -, hzB⟩ := owns_seg hO5
        have HZ := hide hzB.toBSeg
        replace HX := hide (HX.out.of_all E5)
        replace HD := hide (HD.out.of_all E5)
        replace HE := hide (HE.out.trans E5)
        clear hO5 hzB E5 HSh
        go_wp2_with fail
        refine (implHmac_any za zg 0 32 zc _ da db doff m dc fd w5 HZ.out HD.out (fun i _ => shaF_bound _ _ _) HDy.out).mono ?_
        rintro e w7 ⟨ua, ug, uc, rfl, -, hU, E7⟩
        rw [hmac_long fk k fd m h64, show hmacN 32 m = 32 by unfold hmacN; rw [if_pos ⟨by omega, by omega⟩]] at hU
        have hU1 := conv_seg (cap := uc) hU.toBSeg
        have hX1 := conv_seg (cap := xc) (HX.out.of_all E7)
        have HEE : Hid (Ext w1 w7) := hide (HE.out.trans E7)
        rw [show hmacN 32 m = 32 by unfold hmacN; rw [if_pos ⟨by omega, by omega⟩]]
        clear hU E7 HX HD HZ HE
        generalize strOfNums (nums (hmacF fk k fd m) 32) = s at *
        go_wp2
        go_ret
        exact ⟨rfl, HEE.out⟩
    · have HBk : Hid (hmacB k m = false) := hide (decide_eq_false (by omega))
      have HNk : Hid (hmacN k m = 0) := by unfold Hid hmacN; rw [if_neg (by omega)]
      rw [HBk.out, HNk.out]
      clear HBk HNk HX HK HD
      go_wp2
      go_ret
      exact ⟨rfl, HE.out⟩
  · go_enter Try.func3, Try.ntmps3
    go_wp2_with fail
    refine (big_long a n cap w hn).mono ?_
    rintro e w1 ⟨rfl, hw⟩
    subst hw
    go_wp2
    go_ret
    exact ⟨rfl, Below.refl _ _⟩

end Go.Proofs.Ytjkojofpkeglpab
