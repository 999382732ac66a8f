/- The walk of the law FnTrees. -/
import Derived.Test.YtmcdikbcmikihaaDoorTq11
import Derived.Test.YtmcdikbcmikihaaDoorTq15
import Derived.Test.YtmcdikbcmikihaaDoorTq16
import Derived.Test.YtmcdikbcmikihaaDoorTq23
import Derived.Test.YtmcdikbcmikihaaDoorTq25
namespace Go.Proofs.YtmcdikbcmikihaaDoor

section
set_option linter.unusedVariables false
set_option linter.unusedSimpArgs false

open Go.RowKit

/-- Lists that tell the same are alike. -/
theorem same_of_ct {L M : List It} {n : Nat} (hL : ∀ t ∈ L, Nf t) (hM : ∀ t ∈ M, Nf t) (hl : L.length = n) (hm : M.map ct = sgI (fun i => L.getD i dI) 0 n) : M.length = n ∧ SameI (fun i => L.getD i dI) (fun i => M.getD i dI) 0 n := by
  have hlen : M.length = n := by rw [← List.length_map (f := ct), hm, sgI_len]
  refine ⟨hlen, fun j hj => ?_⟩
  rw [Nat.zero_add]
  have h1 : ct (M.getD j dI) = ct (L.getD j dI) := by
    have h2 := congrArg (fun l : List Ic => l[j]?) hm
    simp only [List.getElem?_map, sgI, List.getElem?_range hj, Nat.zero_add] at h2
    rw [List.getElem?_eq_getElem (by omega)] at h2
    simp only [Option.map_some, Option.some.injEq] at h2
    rw [List.getD_eq_getElem?_getD, List.getElem?_eq_getElem (by omega)]
    exact h2
  have m1 : M.getD j dI ∈ M := by rw [List.getD_eq_getElem?_getD, List.getElem?_eq_getElem (by omega)]; exact List.getElem_mem _
  have m2 : L.getD j dI ∈ L := by rw [List.getD_eq_getElem?_getD, List.getElem?_eq_getElem (by omega)]; exact List.getElem_mem _
  have := ct_same (hM _ m1) (hL _ m2) h1
  exact ⟨this.1.symm, this.2.1.symm, this.2.2.1.symm, this.2.2.2.symm⟩

theorem SameI.symm0 {x y : Nat → It} {n : Nat} (h : SameI y x 0 n) : SameI x y 0 n := fun j hj => by
  have := h j hj
  rw [Nat.zero_add] at this ⊢
  exact ⟨this.1.symm, this.2.1.symm, this.2.2.1.symm, this.2.2.2.symm⟩

theorem same_len {M : List It} {x : Nat → It} {n : Nat} (hl : M.length = n) (h : SameI x (fun i => M.getD i dI) 0 n) (hx : ∀ i, i < n → (x i).len ≤ 256) : ∀ t ∈ M, t.len ≤ 9223372036854775807 := by
  intro t ht
  obtain ⟨i, hi, rfl⟩ := List.mem_iff_getElem.1 ht
  have h1 := (h i (by omega)).2.2.1
  rw [Nat.zero_add] at h1
  have h2 := hx i (by omega)
  have h4 : M.getD i dI = M[i] := by rw [List.getD_eq_getElem?_getD, List.getElem?_eq_getElem hi]; rfl
  have h3 : (x i).len = (M.getD i dI).len := h1
  rw [h4] at h3
  omega

/-- What Children and Part tell of a right tree. -/
structure KidT (x : Nat → It) (n kn : Nat) (md : Bool) (pl : Nat → Nat) : Prop where
  l0 : mdL x n 0 = (List.range kn).map (fun i => (pl i : Int))
  md0 : mdB x n 0 = md
  p0 : pl 0 = 1
  pk : pl kn = n
  at' : ∀ i, i < kn → pl i < n ∧ endF (fun j => (x j).kid) n 13 (pl i) = (pl (i + 1) : Int) ∧ pl i < pl (i + 1) ∧ pl (i + 1) ≤ n
  no : md = false → n = 1
  kn : kn ≤ n

theorem kidT {x : Nat → It} {n : Nat} (ht : treeV x n = true) : ∃ kn md pl, KidT x n kn md pl := by
  have hg := tree_good ht
  have hb : hasB x n 0 = true := by unfold hasB; rw [ht]; simp; omega
  obtain ⟨pl, h0, hk, ha, hl⟩ := kids_all ht
  have hle : (x 0).kid.toNat ≤ n := by
    have : ∀ i, i ≤ (x 0).kid.toNat → i ≤ pl i := fun i => by
      induction i with
      | zero => intro _; exact Nat.zero_le _
      | succ i ih => intro h; have := ih (by omega); have := (ha i (by omega)).2.2.1; omega
    have := this _ (Nat.le_refl _)
    omega
  by_cases hm : (x 0).tag / 32 % 2 = 1
  · have hmb : mdB x n 0 = true := by unfold mdB; rw [hb]; simpa using hm
    refine ⟨(x 0).kid.toNat, true, pl, ⟨?_, hmb, h0, hk, ha, fun h => (by cases h), hle⟩⟩
    unfold mdL
    rw [hmb, if_pos rfl]
    show (kpF _ (x 0).kid.toNat (0 + 1)).map Int.ofNat = _
    rw [Nat.zero_add, hl, List.map_map]
    rfl
  · have hmb : mdB x n 0 = false := by unfold mdB; rw [hb]; simpa using hm
    have hk0 : (x 0).kid = 0 := (hg.2.2 0 (by omega)).2.2.2.2.2.2 hm
    rw [hk0] at hk
    have hk' : pl 0 = n := hk
    refine ⟨0, false, pl, ⟨?_, hmb, h0, hk', fun i hi => absurd hi (Nat.not_lt_zero _), fun _ => by omega, Nat.zero_le _⟩⟩
    unfold mdL
    rw [hmb]
    rfl

theorem iys_cell {w : World} {B : Nat} {v : Value} {L : List Int} (h : w.ownsRow B 3 1 v L.length (iys L)) : ∃ g c, (v = .slice g L.length c) ∧ ∀ i, i < L.length → ∃ b, g = some ⟨b, 0, none⟩ ∧ b < w.heap.size ∧ w.cell? ⟨b, i, none⟩ = some (.int .i64 (L.getD i 0)) := by
  rcases h.2 with ⟨rfl, h0⟩ | ⟨b, cap, cur, rfl, hb, hg, hc, hm, hs, ht⟩
  · rw [h0]
    exact ⟨none, 0, rfl, fun i hi => absurd hi (Nat.not_lt_zero _)⟩
  · refine ⟨_, _, rfl, fun i hi => ⟨b, rfl, (Array.getElem?_eq_some_iff.1 hg).1, ?_⟩⟩
    have := World.ownsRow.cellAt h i (by omega)
    rw [this]
    simp [iys, hi]

set_option maxHeartbeats 12800000 in
set_option maxRecDepth 100000 in
theorem lawTrees_any (a : Option Addr) (b off n cap : Nat) (f : Nat → Int) (w : World) (hs : BSeg w a b off n f) (hB : ∀ i, i < n → 0 ≤ f i ∧ f i ≤ 255) (hn : n ≤ 1048576) (hg : Hdl w) :
    Calls Tryd.prog 4 #[.slice a n cap] w fun e w' => e = .returned (.bool true) ∧ Ext w w' := by
  have Hg := hide hg
  have HD := hide (drawTree_any a b off n cap f w hs hB hn)
  clear hg hs hB
  go_enter Tryd.func4, Tryd.ntmps4
  go_wp2_with fail
  refine (big_any a n cap w hn).mono ?_
  rintro e w1 ⟨rfl, hw⟩
  subst hw
  go_wp2_with fail
  refine HD.out.mono ?_
  rintro e w2 ⟨v, L, rfl, hA, h0, h40, hDr, hT, hE⟩
  have HA := hide hA
  have HE := hide hE
  have hL4 : ∀ t ∈ L, t.len ≤ 4000 := fun t ht => (hDr t ht).len
  obtain ⟨va, S, vcap, rfl, hI⟩ := hA.iow (fun t ht => by have := hL4 t ht; omega)
  obtain ⟨ht, h256⟩ := isT_tree hT (by decide) h0 (by omega)
  obtain ⟨x, hx⟩ : ∃ x, x = fun i => L.getD i dI := ⟨_, rfl⟩
  have hmem : ∀ i, i < L.length → x i ∈ L := fun i hi => by
    rw [hx]
    show L.getD i dI ∈ L
    rw [List.getD_eq_getElem?_getD, List.getElem?_eq_getElem hi]
    exact List.getElem_mem _
  have hlen : ∀ i, i < L.length → (x i).len ≤ 256 := fun i hi => h256 _ (hmem i hi)
  have hkid : ∀ i, i < L.length → (x i).kid ≤ 9223372036854775807 := fun i hi => by have := (hDr _ (hmem i hi)).kid; omega
  have hrng : ∀ i, i < L.length → ∀ j, j < (x i).len → 0 ≤ (x i).f j ∧ (x i).f j < 256 := fun i hi => (hDr _ (hmem i hi)).rng
  rw [← hx] at hI ht
  obtain ⟨N, hN⟩ : ∃ N, L.length = N := ⟨_, rfl⟩
  rw [hN] at hI ht hlen hkid hrng h0 h40 ⊢
  have HS := hide hI.toISeg
  have HT := hide ht
  have HN := hide (show 0 < N ∧ N ≤ 40 from ⟨h0, h40⟩)
  have HTr : Hid (∀ W, Ext w2 W → Calls Tryd.prog 17 #[.slice va N vcap] W fun e w' => e = .returned (.bool true) ∧ Ext W w') := hide (fun W h => by
    have := implTree_any va S 0 N vcap x W (hI.toISeg.of_all h) (by omega) hkid
    rw [ht] at this
    exact this)
  have HWr := hide (implWriteDer_any va S 0 N vcap x w2 hI.toISeg (by omega) (fun i hi => by have := hlen i hi; omega) hkid)
  have HPt : Hid (∀ (z : Int) W, Ext w2 W → Calls Tryd.prog 20 #[.slice va N vcap, .int .i64 z] W fun e w' => GivesP W x z.toNat (ptM x N z) (hasB x N z) e w') := hide (fun z W h => implPart_any va S 0 N vcap x z W (hI.toISeg.of_all h) (by omega) hkid (fun i hi => by have := hlen i hi; omega))
  have HCh : Hid (∀ W, Ext w2 W → Calls Tryd.prog 19 #[.slice va N vcap, .int .i64 0] W fun e w' => GivesC W (mdL x N 0) (mdB x N 0) e w') := hide (fun W h => implChildren_any va S 0 N vcap x 0 W (hI.toISeg.of_all h) (by omega) hkid)
  have HL := hide hlen
  have HK := hide hkid
  have HR := hide hrng
  have HX := hide hx
  have HLN := hide hN
  have HNf := hide hA.bods.nf
  clear hA hE hL4 hI ht h256 hmem hlen hkid hrng h0 h40 hDr hT hN HD hx
  go_wp2_with fail
  refine HWr.out.mono ?_
  rintro e w3 ⟨v4, rfl, hO4, hE3⟩
  have HO4 := hide hO4
  have HE3 := hide hE3
  clear hO4 hE3 HWr
  cases hw : wdB x N
  · have h3 : (3 : Int) < (N : Int) := by have := few_bytes HT.out HL.out hw; omega
    clear hw HO4
    go_wp2_with fail
    refine (HTr.out _ HE3.out).mono ?_
    rintro e w4 ⟨rfl, hE4⟩
    have HE4 := hide (HE3.out.trans hE4)
    clear hE4 HE3
    go_wp2
    go_ret
    exact ⟨rfl, HE.out.trans HE4.out⟩
  · have hrdA := tree_fwd x N (byG (wdL x N)) hw (byF_byG _).symm
    obtain ⟨hl4, hr4⟩ := wdL_rng x N HR.out
    have hb4 := byG_rng hr4
    obtain ⟨B, hB⟩ : ∃ B, wdL x N = B := ⟨_, rfl⟩
    rw [hB] at hrdA hl4 hb4 HO4
    obtain ⟨F, hF⟩ : ∃ F, byG B = F := ⟨_, rfl⟩
    have hO5 := HO4.out
    rw [bl_byG, hF] at hO5
    rw [hF] at hrdA hb4
    obtain ⟨bn, hbn⟩ : ∃ bn, B.length = bn := ⟨_, rfl⟩
    rw [hbn] at hO5 hrdA hl4 hb4
    try rw [hbn]
    obtain ⟨xa, xg, xc, rfl, -, hnc, hxc, hxB⟩ := owns_seg hO5
    have HRd := hide (implReadDer_any xa xg 0 bn xc F w3 hxB.toBSeg hb4 hnc hxc (Hg.out.of_ext (HE.out.trans HE3.out)))
    rw [hrdA] at HRd
    clear hrdA hl4 hr4 hb4 hB hF hO5 hbn hxB HO4 hnc hxc hw
    go_wp2_with fail
    refine HRd.out.mono ?_
    rintro e w4 ⟨v4, M, rfl, hM, hct, hE4⟩
    have hct' : M.map ct = sgI x 0 N := hct
    rw [HX.out] at hct'
    obtain ⟨hMl, hSm⟩ := same_of_ct HNf.out hM.bods.nf HLN.out hct'
    rw [← HX.out] at hSm
    obtain ⟨ma, mS, mcap, rfl, hMI⟩ := hM.iow (same_len hMl hSm HL.out)
    rw [hMl] at hMI ⊢
    have HST := hide (sameTree_same ma mS 0 N mcap _ va S 0 vcap x w4 hMI.toISeg ((HS.out.of_all HE3.out).of_all hE4) (by have := HN.out.2; omega) hSm)
    have HE4 := hide (Ext.trans HE3.out hE4)
    clear hct hct' hMl hSm hMI hM hE4 HE3 HRd
    go_wp2_with fail
    refine HST.out.mono ?_
    rintro e w5 ⟨rfl, hE5⟩
    have HE5 := hide (HE4.out.trans hE5)
    clear hE5 HE4 HST
    go_wp2_with fail
    refine (HTr.out _ HE5.out).mono ?_
    rintro e w6 ⟨rfl, hE6⟩
    have HE6 := hide (HE5.out.trans hE6)
    clear hE6 HE5
    go_wp2_with fail
    refine (HCh.out _ HE6.out).mono ?_
    rintro e w7 ⟨v7, rfl, hO7, hE7⟩
    have HE7 := hide (HE6.out.trans hE7)
    obtain ⟨kn, md, pl, hKT⟩ := kidT HT.out
    rw [hKT.l0] at hO7
    rw [hKT.md0]
    obtain ⟨kg, kc, rfl, hkc⟩ := iys_cell hO7
    have hkl : ((List.range kn).map (fun i => (pl i : Int))).length = kn := by simp
    have hkd : ∀ i, i < kn → ((List.range kn).map (fun i => (pl i : Int))).getD i 0 = (pl i : Int) := fun i hi => by simp [hi]
    rw [hkl] at hkc ⊢
    have HKc : Hid (∀ i, i < kn → ∃ b, kg = some ⟨b, 0, none⟩ ∧ b < w7.heap.size ∧ w7.cell? ⟨b, i, none⟩ = some (.int .i64 (pl i))) := hide (fun i hi => by
      obtain ⟨b, h1, h2, h3⟩ := hkc i hi
      rw [hkd i hi] at h3
      exact ⟨b, h1, h2, h3⟩)
    have HKT := hide hKT
    clear hO7 hE7 HE6 hkc hkl hkd hKT HCh
    go_wp2
    go_loopw [11, 12, 13, 14] (fun al i pv fv wr => ∃ k : Nat, i = .int .i64 (k : Int) ∧ k ≤ kn ∧ al = .int .i64 (pl k : Int) ∧ Ext w7 wr) (fun _ i _ _ _ => kn - (intOf i).toNat)
    case atStart => exact ⟨0, rfl, Nat.zero_le _, by rw [HKT.out.p0]; rfl, Ext.refl _⟩
    case round =>
      obtain ⟨k, rfl, hk, rfl, hEr⟩ := hrel
      have HEr := hide hEr
      clear hEr
      by_cases hkn : k < kn
      · obtain ⟨b1, g1, g2, g3⟩ := HKc.out k hkn
        subst g1
        obtain ⟨p1, p2, p3, p4⟩ := HKT.out.at' k hkn
        have hki : (k : Int) < (kn : Int) := by omega
        have hN4 := HN.out.2
        obtain ⟨m, hm⟩ : ∃ m, pl (k + 1) = pl k + m := ⟨pl (k + 1) - pl k, by omega⟩
        have hhb : hasB x N (pl k : Int) = true := by unfold hasB; rw [HT.out]; simp; omega
        have hpm : ptM x N (pl k : Int) = m := by rw [ptM_of hhb p2 p3]; omega
        have HP := hide (HPt.out (pl k : Int) wr (HE7.out.trans HEr.out))
        rw [hhb, hpm] at HP
        have hpt : ∀ y, SameI y x (pl k) m → treeV y m = true := fun y hy => by
          have := part_tree HT.out p1 p2 (y := y) (by rw [hm, Nat.add_sub_cancel_left]; exact hy)
          rwa [hm, Nat.add_sub_cancel_left] at this
        have hpl : ∀ y, SameI y x (pl k) m → ∀ j, j < m → (y j).len ≤ 256 ∧ (y j).kid ≤ 9223372036854775807 := fun y hy j hj => by
          have := hy j hj
          rw [this.2.1, this.2.2.1]
          exact ⟨HL.out _ (by omega), HK.out _ (by omega)⟩
        have hmN : m ≤ 40 := by omega
        have hpN : pl k ≤ 40 := by omega
        have hsum : ((pl k : Int) + (m : Int)) = ((pl (k + 1) : Nat) : Int) := by rw [hm]; rfl
        have Hsum := hide hsum
        have HmN := hide (show m ≤ 40 ∧ pl k ≤ 40 from ⟨hmN, hpN⟩)
        have hcell := (HEr.out.cell (p := ⟨b1, k, none⟩) g2).trans g3
        clear p1 p2 p3 p4 hm hhb hpm hsum hN4
        go_wp2_with fail
        refine HP.out.mono ?_
        rintro e w8 ⟨pv, y, rfl, hA8, hS8, hE8⟩
        obtain ⟨pa, pS, pcap, rfl, hI8⟩ := hA8.iow (fun j hj => by have := hpl y hS8 j hj; omega)
        have HT8 := hide (implTree_any pa pS 0 m pcap y w8 hI8.toISeg (by omega) (fun j hj => (hpl y hS8 j hj).2))
        rw [hpt y hS8] at HT8
        have HE8 := hide (HEr.out.trans hE8)
        have Hg3 := hide (And.intro g2 g3)
        clear hA8 hS8 hE8 hI8 hpt hpl HP hcell g2 g3 HEr hmN hpN
        go_wp2_with fail
        refine HT8.out.mono ?_
        rintro e w9 ⟨rfl, hE9⟩
        have HE9 := hide (HE8.out.trans hE9)
        have hcell := (HE9.out.cell (p := ⟨b1, k, none⟩) Hg3.out.1).trans Hg3.out.2
        have HWs : Hid (wrap64 ((pl k : Int) + (m : Int)) = (pl k : Int) + (m : Int)) := hide (by have := HmN.out; unfold wrap64; omega)
        have HWk : Hid (wrap64 ((k : Int) + 1) = ((k + 1 : Nat) : Int)) := hide (by have := HKT.out.kn; have := HN.out.2; unfold wrap64; omega)
        clear hE9 HE8 HT8
        go_wp2
        go_roundw
        case rel => exact ⟨k + 1, by rw [HWk.out], hkn, by rw [HWs.out, Hsum.out], HE9.out⟩
        case measure => rw [HWk.out]; simp only [intOf]; omega
      · obtain rfl : k = kn := by omega
        have hE := HE7.out.trans HEr.out
        have hhb : hasB x N ((0 : Nat) : Int) = true := by have := HN.out.1; unfold hasB; rw [HT.out]; simp; omega
        have hpm : ptM x N ((0 : Nat) : Int) = N := by
          have := HT.out
          unfold treeV at this
          rw [decide_eq_true_eq] at this
          rw [ptM_of hhb this.2.2.2 HN.out.1, Nat.sub_zero]
        have HP := hide (HPt.out ((0 : Nat) : Int) wr hE)
        rw [hhb, hpm] at HP
        have HE := hide (HE.out.trans hE)
        have hpk := HKT.out.pk
        have hno := HKT.out.no
        rw [hpk]
        clear hhb hpm hE hpk
        go_wp2_with fail
        refine HP.out.mono ?_
        rintro e w8 ⟨pv, y, rfl, hA8, hS8, hE8⟩
        have hS9 : SameI y x 0 N := hS8
        obtain ⟨pa, pS, pcap, rfl, hI8⟩ := hA8.iow (fun j hj => by
          have := (hS9 j hj).2.2.1
          rw [Nat.zero_add] at this
          have := HL.out j hj
          omega)
        have HST := hide (sameTree_same pa pS 0 N pcap y va S 0 vcap x w8 hI8.toISeg (((HS.out.of_all (HE7.out.trans HEr.out)).of_all hE8)) (by have := HN.out.2; omega) hS9.symm0)
        have HE8 := hide (HE.out.trans hE8)
        clear hA8 hS8 hS9 hI8 hE8 HP
        go_wp2_with fail
        refine HST.out.mono ?_
        rintro e w9 ⟨rfl, hE9⟩
        have HE9 := hide (HE8.out.trans hE9)
        clear hE9 HE8 HST
        cases md
        · obtain rfl := hno rfl
          go_wp2
          go_ret
          exact ⟨rfl, HE9.out⟩
        · clear hno
          go_wp2
          go_ret
          exact ⟨rfl, HE9.out⟩
end

end Go.Proofs.YtmcdikbcmikihaaDoor
