/- Walk: the law FnNumbers7. -/
import Derived.Test.YtjkojofpkeglpaaNb7
namespace Go.Proofs.Ytjkojofpkeglpaa
set_option linter.unusedVariables false
set_option linter.unusedSimpArgs false
open Go.RowKit

theorem ro_self {F : Nat → Int} {k : Nat} (h : oidB F k = true) : RO (oF F (k - 2)) (oidM F k) F k := ⟨h, rfl, fun _ _ => rfl⟩
theorem nums_eq {f g : Nat → Int} {n : Nat} (h : ∀ i, i < n → f i = g i) : nums f n = nums g n := List.map_congr_left (fun i hi => h i (List.mem_range.1 hi))

set_option maxHeartbeats 6400000 in
set_option maxRecDepth 100000 in
theorem lawNumbers7_any (a : Option Addr) (b off n cap : Nat) (f : Nat → Int) (w : World) (hs : BSeg w a b off n f) (hB : ∀ i, i < n → 0 ≤ f i ∧ f i ≤ 255) :
    Calls Try.prog 7 #[.slice a n cap] w fun e w' => e = .returned (.bool true) ∧ Below w.heap.size w w' := by
  by_cases hn : n ≤ 1048576
  · go_enter Try.func7, Try.ntmps7
    go_wp2_with fail
    refine (big_any a n cap w hn).mono ?_
    rintro e w1 ⟨rfl, hw⟩
    subst hw
    go_wp2_with fail
    refine (drawIntBytes_any a b off n cap f _ hs hB hn).mono ?_
    rintro e w2 ⟨z, rfl, z0, z1, E2⟩
    have Hs := hide hs
    have HB := hide hB
    have HE : Hid (Ext w1 w2) := hide E2
    clear E2 hs hB
    have hL := ilen_is z z0 z1
    have HR1 := hide (riB_ib z0 z1)
    have HR2 := hide (fun (x : Int) (hx : x = 255 * (ib z (ilen z) / 128)) => riB_long z0 z1 hx)
    have l7 := hL.le
    have HL := hide hL
    clear hL
    obtain ⟨L, hLe⟩ : ∃ L, ilen z = L := ⟨_, rfl⟩
    rw [hLe] at HR1 HR2 HL l7
    clear hLe
    go_wp2_with fail
    refine (implIntBytes_row z L HL.out w2 z0 z1).mono ?_
    rintro e w3 ⟨v3, rfl, hO3, E3⟩
    obtain ⟨xa, xg, xc, rfl, hxg, hxn, hxc, hxB⟩ := owns_seg hO3
    obtain rfl := hxB.at' (by omega)
    have HX := hide hxB.toBSeg
    replace HE : Hid (Ext w1 w3) := hide (HE.out.trans E3)
    clear hO3 E3 hxB hxg HL
    have hbr : Hid (∀ i, i < L + 1 → 0 ≤ (fun i => ib z (L - i)) i ∧ (fun i => ib z (L - i)) i < 256) := hide (fun i _ => ib_range _ _)
    obtain ⟨T, hT⟩ : ∃ T, (fun i => ib z (L - i)) = T := ⟨_, rfl⟩
    have HT0 : Hid (T 0 = ib z L) := by unfold Hid; rw [← hT]; rfl
    rw [hT] at HX HR1 HR2 hbr
    clear hT
    obtain ⟨N, hN⟩ : ∃ N, L + 1 = N := ⟨_, rfl⟩
    rw [hN] at HX HR1 HR2 hbr hxn ⊢
    have n1 : 1 ≤ N := by omega
    have n8 : N ≤ 8 := by omega
    clear hN
    go_wp2_with fail
    refine (implReadIntBytes_any _ xg 0 N xc T w3 hxn hxc HX.out hbr.out).mono ?_
    rintro e w4 ⟨rfl, E4⟩
    rw [HR1.out.1, HR1.out.2]
    replace HX := hide (HX.out.of_all E4)
    replace HE := hide (HE.out.trans E4)
    clear E4 HR1
    have hc0 : w4.cell? ⟨xg, 0, none⟩ = some (.int .u8 (T 0)) := by simpa using HX.out.cell 0 (by omega)
    obtain ⟨t0, t1⟩ := hbr.out 0 (by omega)
    have c1 : (z != z) = false := by simp
    have c2 : ¬ (8 : Int) < (N : Int) := by omega
    have c3 : ((N : Int) == 0) = false := by simp; omega
    have c4 : (0 : Int) < N := by omega
    have HR3 := hide (HR2.out (255 * (T 0 / 128)) (by rw [HT0.out]))
    have q1 : (T 0).tdiv 128 = T 0 / 128 := Int.tdiv_eq_ediv_of_nonneg t0
    have q2 : 0 ≤ T 0 / 128 := by omega
    have q3 : T 0 / 128 ≤ 1 := by omega
    obtain ⟨y, hy⟩ : ∃ y, 255 * (T 0 / 128) = y := ⟨_, rfl⟩
    rw [hy] at HR3
    have y0 : 0 ≤ y := by omega
    have y1 : y ≤ 255 := by omega
    have u0 : y % 256 = y := by omega
    have HO2 := hide (owns_one8 w4 y)
    have HX2 := hide (HX.out.of_all (Ext.alloc w4 (.cells #[.int .u8 y] 5)))
    clear HT0 HR2
    go_wp2_with (at_builtin; refine wpList_append_bs rfl _ _ rfl w4.heap.size _ 1 (byts (fun _ => y) 1) rfl HO2.out _ xg 0 N xc T rfl HX2.out (by omega) (by simp) ?_)
    intro v5 w5 h2 h3
    rw [byts_append] at h2
    have E5 : Ext w4 w5 := Below.trans (Ext.alloc _ _) h3
    replace HE := hide (HE.out.trans E5)
    obtain ⟨ya, yg, yc, rfl, -, hyn, hyc, hyB⟩ := owns_seg h2
    have HY := hide hyB.toBSeg
    have Hyr : Hid (∀ i, i < 1 + N → 0 ≤ catF (fun _ => y) 1 T i ∧ catF (fun _ => y) 1 T i < 256) := hide (fun i hi => by
      unfold catF
      split
      · show 0 ≤ y ∧ y < 256; omega
      · exact hbr.out _ (by omega))
    clear h2 h3 E5 hyB HO2 HX2 HX hc0 hbr q1 q2 q3 hy t0 t1 u0 c4
    go_wp2_with fail
    refine (implReadIntBytes_any ya yg 0 (1 + N) yc (catF (fun _ => y) 1 T) w5 hyn hyc HY.out Hyr.out).mono ?_
    rintro e w6 ⟨rfl, E6⟩
    rw [HR3.out]
    replace HE := hide (HE.out.trans E6)
    clear E6 HR3 HY Hyr
    generalize riV (catF (fun _ => y) 1 T) (1 + N) = rv at *
    go_wp2_with fail
    refine (drawOidBytes_any a b off n cap f w6 (Hs.out.of_all HE.out) HB.out hn).mono ?_
    rintro e w7 ⟨sa, sb, so, k, sc, F, rfl, k1, k2, k3, hS, E7⟩
    have HS := hide hS
    replace HE := hide (HE.out.trans E7)
    clear hS E7
    go_wp2_with fail
    refine (implOidBytes_any sa sb so k sc F w7 k1 k2 HS.out).mono ?_
    rintro e w8 ⟨oa, og, oc, rfl, -, hOo, E8⟩
    have HOO := hide hOo.toBSeg
    replace HS := hide (HS.out.of_all E8)
    replace HE : Hid (Ext w1 w8) := hide (HE.out.trans E8)
    clear hOo E8
    go_wp2_with fail
    refine (specOidBytes_any sa sb so k sc F w8 k1 k2 HS.out).mono ?_
    rintro e w9 ⟨pa, pg, pc, rfl, -, -, E9⟩
    replace HOO := hide (HOO.out.of_all E9)
    replace HS := hide (HS.out.of_all E9)
    replace HE : Hid (Ext w1 w9) := hide (HE.out.trans E9)
    clear E9
    have hMs := oidM_small F k
    go_wp2_with fail
    refine (implReadOid_any oa og 0 (oidM F k) oc (oF F (k - 2)) w9 (by omega) HOO.out (oF_range _ _)).mono ?_
    rintro e wa ⟨ra, rg, rc, rfl, -, hRo, Ea⟩
    have HRO := hide hRo.toSeg
    replace HS := hide (HS.out.of_all Ea)
    replace HE : Hid (Ext w1 wa) := hide (HE.out.trans Ea)
    clear hRo Ea HOO
    have HSELF := hide (fun h => (ro_self (F := F) (k := k) h).prog)
    have HRM : Hid (roM (oF F (k - 2)) (oidM F k) = if roB (oF F (k - 2)) (oidM F k) = true then roN (oF F (k - 2)) (oidM F k) else 0) := rfl
    have HB2 := hide (show k ≤ 20 from k3)
    obtain ⟨ok, hok⟩ : ∃ ok, oidB F k = ok := ⟨_, rfl⟩
    have Hok := hide hok
    rw [hok]
    have hoo : (ok != ok) = false := by simp
    generalize oidM F k = M at *
    generalize oF F (k - 2) = U at *
    clear hok
    cases ok with
    | false =>
      generalize roB U M = rb at *
      go_wp2_with fail
      refine (drawReadOid_any a b off n cap f wa (Hs.out.of_all HE.out) HB.out hn).mono ?_
      rintro e wc ⟨da, db, do', m, dc, D, rfl, dm, hD, hDr, Ec⟩
      have HD := hide hD
      have HDr := hide hDr
      replace HE : Hid (Ext w1 wc) := hide (HE.out.trans Ec)
      clear hD hDr Ec
      go_wp2_with fail
      refine (implReadOid_cap da db do' m dc D wc (by omega) HD.out HDr.out).mono ?_
      rintro e wd ⟨ga, gg, gc, rfl, -, hGo, Ed, gn, gm⟩
      have HGO := hide hGo.toSeg
      replace HD := hide (HD.out.of_all Ed)
      replace HE : Hid (Ext w1 wd) := hide (HE.out.trans Ed)
      clear hGo Ed
      have HM2 : Hid (roM D m = if roB D m = true then roN D m else 0) := rfl
      have HRB := hide (fun h => roB_ro (f := D) (n := m) h)
      obtain ⟨rr, hrr⟩ : ∃ rr, roB D m = rr := ⟨_, rfl⟩
      rw [hrr] at HM2 ⊢
      have Hrr := hide hrr
      clear hrr
      cases rr with
      | false =>
        have HM0 : Hid (roM D m = 0) := by unfold Hid; rw [HM2.out]; rfl
        rw [HM0.out]
        clear HM0 HM2 HGO gn
        go_wp2
        go_ret
        exact ⟨rfl, HE.out⟩
      | true =>
        have HM0 : Hid (roM D m = roN D m) := by unfold Hid; rw [HM2.out]; rfl
        rw [HM0.out] at gn HGO ⊢
        have hr := HRB.out Hrr.out
        clear HM0 HM2 HRB
        go_wp2_with fail
        refine (implOidBytes_any ga gg 0 (roN D m) gc (roG D m) wd gn gm HGO.out).mono ?_
        rintro e we ⟨ha, hg, hc, rfl, -, hHo, Ee⟩
        rw [hr.ok]
        have s1 := conv_seg (cap := hc) hHo.toBSeg
        have s2 := conv_seg (cap := dc) (HD.out.of_all Ee)
        rw [show nums (oF (roG D m) (roN D m - 2)) (oidM (roG D m) (roN D m)) = nums D m by rw [hr.len]; exact nums_eq hr.eq] at s1
        replace HE : Hid (Ext w1 we) := hide (HE.out.trans Ee)
        clear hHo Ee HD HGO hr
        generalize strOfNums (nums D m) = s at *
        go_wp2
        go_ret
        exact ⟨rfl, HE.out⟩
    | true =>
      obtain ⟨p1, p2, p3⟩ := HSELF.out Hok.out
      rw [p1] at HRM ⊢
      rw [if_pos rfl, p2] at HRM
      rw [HRM.out] at HRO ⊢
      have HAl := hide ((alike_iff (roG U M) F k).2 p3)
      clear HSELF p1 p2 p3
      go_wp2_with fail
      refine (sameInts_any ra rg 0 k rc (roG U M) sa sb so k sc F wa HRO.out HS.out (by omega)).mono ?_
      rintro e wb ⟨rfl, q, rfl⟩
      rw [show (k == k && alike (roG U M) F k) = true by rw [HAl.out]; simp]
      have hbq := below_drewN (Below.refl wa.heap.size wa) q
      replace HE : Hid (Ext w1 (wa.drewN q)) := hide (HE.out.trans hbq)
      clear hbq HRO HS
      generalize wa.drewN q = wb at *
      go_wp2_with fail
      refine (drawReadOid_any a b off n cap f wb (Hs.out.of_all HE.out) HB.out hn).mono ?_
      rintro e wc ⟨da, db, do', m, dc, D, rfl, dm, hD, hDr, Ec⟩
      have HD := hide hD
      have HDr := hide hDr
      replace HE : Hid (Ext w1 wc) := hide (HE.out.trans Ec)
      clear hD hDr Ec
      go_wp2_with fail
      refine (implReadOid_cap da db do' m dc D wc (by omega) HD.out HDr.out).mono ?_
      rintro e wd ⟨ga, gg, gc, rfl, -, hGo, Ed, gn, gm⟩
      have HGO := hide hGo.toSeg
      replace HD := hide (HD.out.of_all Ed)
      replace HE : Hid (Ext w1 wd) := hide (HE.out.trans Ed)
      clear hGo Ed
      have HM2 : Hid (roM D m = if roB D m = true then roN D m else 0) := rfl
      have HRB := hide (fun h => roB_ro (f := D) (n := m) h)
      obtain ⟨rr, hrr⟩ : ∃ rr, roB D m = rr := ⟨_, rfl⟩
      rw [hrr] at HM2 ⊢
      have Hrr := hide hrr
      clear hrr
      cases rr with
      | false =>
        have HM0 : Hid (roM D m = 0) := by unfold Hid; rw [HM2.out]; rfl
        rw [HM0.out]
        clear HM0 HM2 HGO gn
        go_wp2
        go_ret
        exact ⟨rfl, HE.out⟩
      | true =>
        have HM0 : Hid (roM D m = roN D m) := by unfold Hid; rw [HM2.out]; rfl
        rw [HM0.out] at gn HGO ⊢
        have hr := HRB.out Hrr.out
        clear HM0 HM2 HRB
        go_wp2_with fail
        refine (implOidBytes_any ga gg 0 (roN D m) gc (roG D m) wd gn gm HGO.out).mono ?_
        rintro e we ⟨ha, hg, hc, rfl, -, hHo, Ee⟩
        rw [hr.ok]
        have s1 := conv_seg (cap := hc) hHo.toBSeg
        have s2 := conv_seg (cap := dc) (HD.out.of_all Ee)
        rw [show nums (oF (roG D m) (roN D m - 2)) (oidM (roG D m) (roN D m)) = nums D m by rw [hr.len]; exact nums_eq hr.eq] at s1
        replace HE : Hid (Ext w1 we) := hide (HE.out.trans Ee)
        clear hHo Ee HD HGO hr
        generalize strOfNums (nums D m) = s at *
        go_wp2
        go_ret
        exact ⟨rfl, HE.out⟩
  · go_enter Try.func7, Try.ntmps7
    go_wp2_with fail
    refine (big_long a n cap w hn).mono ?_
    rintro e w1 ⟨rfl, hw⟩
    subst hw
    go_wp2
    go_ret
    exact ⟨rfl, Below.refl _ _⟩

end Go.Proofs.Ytjkojofpkeglpaa
