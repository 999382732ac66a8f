/- Walk: the law FnAddresses. -/
import Derived.Test.YtjidlahgfkdipacDoorAdL
import Derived.Test.YtjidlahgfkdipacDoorDrQ
import Derived.Test.YtjidlahgfkdipacDoorSame
namespace Go.Proofs.YtjidlahgfkdipacDoor
set_option linter.unusedVariables false
set_option linter.unusedSimpArgs false
open Go.RowKit Go.Sort

/-- What the law asks of a text that is read. -/
theorem rd_again {s : ByteArray} (h : rdB s = true) : (adrB (rdL s).length (fun i => (rdL s).getD i 0)).toList = s.toList := by
  unfold rdB at h
  simp only [Bool.and_eq_true, beq_iff_eq] at h
  exact h.2.2
theorem rd_back {n : Nat} {f : Nat → Int} (h : fourB n f = true) : rdB (adrB n f) = true ∧ rdL (adrB n f) = [f 0, f 1, f 2, f 3] := by
  obtain ⟨rfl, hf⟩ := four_is h
  have e : adrB 4 f = adr f := by unfold adrB; rw [h]; rfl
  obtain ⟨k1, k2⟩ := read_back hf
  obtain ⟨r1, r2⟩ := read_same (adr f)
  rw [e]
  exact ⟨r1.trans k1, (r2 k1).trans k2⟩
theorem rdL_len {s : ByteArray} (h : rdB s = true) : (rdL s).length = 4 := by
  unfold rdB at h
  simp only [Bool.and_eq_true] at h
  exact (four_is h.2.1).1

set_option maxHeartbeats 6400000 in
set_option maxRecDepth 100000 in
theorem lawAddresses_any (a : Option Addr) (b off n cap : Nat) (f : Nat → Int) (w : World) (hs : BSeg w a b off n f) (hB : ∀ i, i < n → 0 ≤ f i ∧ f i ≤ 255) (hT : Tab w ∧ Err w) :
    Calls Tryd.prog 3 #[.slice a n cap] w fun e w' => e = .returned (.bool true) ∧ Below w.heap.size w w' := by
  by_cases hn : n ≤ 1048576
  · have HAt : Hid (∀ (i : Nat) W, Ext w W → i ≤ 1000 → Calls Tryd.prog 17 #[.slice a n cap, .int .i64 i] W fun e w' => ∃ x, e = .returned (.int .i64 x) ∧ 0 ≤ x ∧ x ≤ 255 ∧ w' = W) := fun i W h hi => at_any a b off n cap f i W (hs.of_all h) hB hn hi
    have HWr : Hid (∀ (a : Option Addr) (b off n cap : Nat) (f : Nat → Int) W, Seg W a b off n f → n ≤ 1048576 → Ext w W → Calls Tryd.prog 11 #[.slice a n cap] W fun e w' => e = .returned (.tuple #[.string (adrB n f), .bool (fourB n f)]) ∧ Ext W w') := fun a b off n cap f W h1 h2 h3 => implWrite_any a b off n cap f W h1 h2 (hT.1.ext h3)
    have HRd : Hid (∀ s W, s.size ≤ 1048576 → Ext w W → Calls Tryd.prog 12 #[.string s] W fun e w' => GivesN W (if rdB s then rdL s else []) (rdB s) e w') := fun s W h1 h3 => implRead_any s W h1 (hT.1.ext h3) (hT.2.ext h3)
    have HDw := hide (drawWrite_any a b off n cap f w hs hB hn)
    have HDn : Hid (∀ W, Ext w W → Calls Tryd.prog 15 #[.slice a n cap] W fun e w' => GivesNet W e w') := fun W h => drawInNet_any a b off n cap f W (hs.of_all h) hB hn
    have HDr : Hid (∀ W, Ext w W → Calls Tryd.prog 18 #[.slice a n cap] W fun e w' => GivesStr W e w') := fun W h => drawRead_any a b off n cap f W (hs.of_all h) hB hn
    have HBg := hide (big_any a n cap w hn)
    clear hs hB hT
    go_enter Tryd.func3, Tryd.ntmps3
    go_wp2_with fail
    refine HBg.out.mono ?_
    rintro e w1 ⟨rfl, hw⟩
    obtain rfl := hw.symm
    go_wp2_with fail
    refine HDw.out.mono ?_
    rintro e w2 ⟨g, k, sc, F, rfl, k5, hS, E2⟩
    have HE := hide E2
    have HS := hide hS
    clear E2 hS HDw HBg
    go_wp2_with fail
    refine (HWr.out _ g 0 k sc F _ HS.out (by omega) HE.out).mono ?_
    rintro e w3 ⟨rfl, E3⟩
    replace HE := hide (HE.out.trans E3)
    replace HS := hide (HS.out.of_all E3)
    have hsz : (adrB k F).size ≤ 1048576 := by
      unfold adrB
      cases h : fourB k F with
      | false => show (⟨#[]⟩ : ByteArray).size ≤ _; decide
      | true => have := adr_size (four_is h).2; show (adr F).size ≤ _; omega
    clear E3
    go_wp2_with fail
    refine (HRd.out _ _ hsz HE.out).mono ?_
    rintro e w4 ⟨v, rfl, hO, E4⟩
    replace HE := hide (HE.out.trans E4)
    replace HS := hide (HS.out.of_all E4)
    obtain ⟨ba, bg, bc, rfl, -, hOw⟩ := own_of_ys hO
    have HBk := hide hOw.toSeg
    have HSp : Hid (∀ W, Seg W (some ⟨g, 0, none⟩) g 0 k F → Calls Tryd.prog 13 #[.slice (some ⟨g, 0, none⟩) k sc] W fun e w' => e = .returned (.tuple #[.string (adrB k F), .bool (fourB k F)]) ∧ Ext W w') := fun W h => specWrite_any _ g 0 k sc F W h (by omega)
    have Hb2 := hide (fun h : fourB k F = true => rd_back h)
    have H4 := hide (fun h : fourB k F = true => (four_is h).1)
    have He := hide (fun h : fourB k F = false => (show adrB k F = ⟨#[]⟩ by unfold adrB; rw [h]; rfl))
    have Hns : Hid (fourB k F = true → ∀ bb : Int, 0 ≤ bb → bb ≤ 32 → netB k F bb k F = true) := fun h bb h0 h1 => net_self h h0 h1
    have HI0 : Hid (∀ (bb : Int) W, Seg W (some ⟨g, 0, none⟩) g 0 k F → Calls Tryd.prog 16 #[.slice (some ⟨g, 0, none⟩) k sc, .int .i64 bb, .slice (some ⟨g, 0, none⟩) k sc] W fun e w' => e = .returned (.bool (netB k F bb k F)) ∧ ∃ q, w' = W.drewN q) := fun bb W h => implInNet_any _ g 0 k sc F bb _ g 0 k sc F W h (by omega) h (by omega)
    clear E4 hO hOw hsz
    cases hb : fourB k F
    · have e0 := He.out hb
      rw [hb, e0] at HSp
      rw [e0] at HBk ⊢
      have hz0 : ((⟨#[]⟩ : ByteArray).toList == (⟨#[]⟩ : ByteArray).toList) = true := by simp
      clear Hb2 H4 He Hns HI0 hb e0
      generalize hLL : (if rdB ⟨#[]⟩ then rdL ⟨#[]⟩ else []) = LL at *
      generalize rdB ⟨#[]⟩ = R0 at *
      clear hLL HBk
      go_wp2_with fail
      refine (HSp.out _ HS.out).mono ?_
      rintro e w5 ⟨rfl, E5⟩
      replace HE := hide (HE.out.trans E5)
      clear E5 HS HSp
      go_wp2_with fail
      refine (HDn.out _ HE.out).mono ?_
      rintro e w20 ⟨g1, k1, sc1, g2, k2, sc2, F1, F2, bits, rfl, l1, l2, t0, t1, hS1, hS2, E20⟩
      have HS1 := hide hS1
      have HS2 := hide hS2
      replace HE := hide (HE.out.trans E20)
      clear E20 hS1 hS2
      have HIn : Hid (∀ (bb : Int) W, Ext w20 W → Calls Tryd.prog 16 #[.slice (some ⟨g1, 0, none⟩) k1 sc1, .int .i64 bb, .slice (some ⟨g2, 0, none⟩) k2 sc2] W fun e w' => e = .returned (.bool (netB k1 F1 bb k2 F2)) ∧ ∃ q, w' = W.drewN q) := fun bb W h => implInNet_any _ g1 0 k1 sc1 F1 bb _ g2 0 k2 sc2 F2 W (HS1.out.of_all h) (by omega) (HS2.out.of_all h) (by omega)
      have HIs : Hid (∀ (bb : Int) W, Ext w20 W → Calls Tryd.prog 16 #[.slice (some ⟨g2, 0, none⟩) k2 sc2, .int .i64 bb, .slice (some ⟨g1, 0, none⟩) k1 sc1] W fun e w' => e = .returned (.bool (netB k2 F2 bb k1 F1)) ∧ ∃ q, w' = W.drewN q) := fun bb W h => implInNet_any _ g2 0 k2 sc2 F2 bb _ g1 0 k1 sc1 F1 W (HS2.out.of_all h) (by omega) (HS1.out.of_all h) (by omega)
      have HEn := hide (Ext.refl w20)
      go_wp2_with fail
      refine (HIn.out bits _ HEn.out).mono ?_
      rintro e w21 ⟨rfl, q21, rfl⟩
      replace HE := hide (HE.out.trans (ext_drewD _ q21))
      replace HEn := hide (HEn.out.trans (ext_drewD _ q21))
      generalize World.drewN _ q21 = w21 at *
      cases hnb : netB k1 F1 bits k2 F2
      · clear hnb
        go_wp2_with fail
        refine (HDr.out _ HE.out).mono ?_
        rintro e w30 ⟨t, rfl, ht, E30⟩
        replace HE := hide (HE.out.trans E30)
        clear E30
        have HRt := hide (fun W (h : Ext w W) => HRd.out t W ht h)
        have Ha := hide (fun h : rdB t = true => rd_again h)
        have Hl4 := hide (fun h : rdB t = true => rdL_len h)
        cases hr : rdB t
        · rw [hr] at HRt
          clear Ha Hl4 hr
          go_wp2_with fail
          refine (HRt.out _ HE.out).mono ?_
          rintro e w31 ⟨v, rfl, hO, E31⟩
          replace HE := hide (HE.out.trans E31)
          obtain ⟨va, vg, vc, rfl, -, -⟩ := own_of_ys hO
          clear hO E31
          go_wp2
          go_ret
          exact ⟨rfl, HE.out⟩
        · have ha := Ha.out hr
          have H4L := hide (Hl4.out hr)
          rw [hr] at HRt
          clear Ha Hl4 hr
          simp only [if_true] at HRt
          generalize rdL t = L at *
          go_wp2_with fail
          refine (HRt.out _ HE.out).mono ?_
          rintro e w31 ⟨v, rfl, hO, E31⟩
          replace HE := hide (HE.out.trans E31)
          obtain ⟨va, vg, vc, rfl, -, hOw⟩ := own_of_ys hO
          have HW2 := hide (HWr.out va vg 0 L.length vc _ _ hOw.toSeg (by have := H4L.out; omega) HE.out)
          clear hO E31 hOw
          generalize adrB L.length (fun i => L.getD i 0) = A at *
          generalize fourB L.length (fun i => L.getD i 0) = B9 at *
          have ha' : (A.toList == t.toList) = true := by simp [ha]
          clear ha
          go_wp2_with fail
          refine HW2.out.mono ?_
          rintro e w32 ⟨rfl, E32⟩
          replace HE := hide (HE.out.trans E32)
          clear E32
          go_wp2
          go_ret
          exact ⟨rfl, HE.out⟩
      · have hsy := net_symm hnb
        have Hle := hide (fun h : 0 < bits => net_less hnb h)
        clear hnb
        by_cases hb0 : 0 < bits
        · have hle := Hle.out hb0
          have hw1 : wrap64 (bits - 1) = bits - 1 := by unfold wrap64; omega
          go_wp2_with fail
          refine (HIn.out (bits - 1) _ HEn.out).mono ?_
          rintro e w22 ⟨rfl, q22, rfl⟩
          rw [hle]
          replace HE := hide (HE.out.trans (ext_drewD _ q22))
          replace HEn := hide (HEn.out.trans (ext_drewD _ q22))
          generalize World.drewN _ q22 = w22 at *
          go_wp2_with fail
          refine (HIs.out bits _ HEn.out).mono ?_
          rintro e w23 ⟨rfl, q23, rfl⟩
          rw [hsy]
          replace HE := hide (HE.out.trans (ext_drewD _ q23))
          generalize World.drewN _ q23 = w23 at *
          clear hw1
          go_wp2_with fail
          refine (HDr.out _ HE.out).mono ?_
          rintro e w30 ⟨t, rfl, ht, E30⟩
          replace HE := hide (HE.out.trans E30)
          clear E30
          have HRt := hide (fun W (h : Ext w W) => HRd.out t W ht h)
          have Ha := hide (fun h : rdB t = true => rd_again h)
          have Hl4 := hide (fun h : rdB t = true => rdL_len h)
          cases hr : rdB t
          · rw [hr] at HRt
            clear Ha Hl4 hr
            go_wp2_with fail
            refine (HRt.out _ HE.out).mono ?_
            rintro e w31 ⟨v, rfl, hO, E31⟩
            replace HE := hide (HE.out.trans E31)
            obtain ⟨va, vg, vc, rfl, -, -⟩ := own_of_ys hO
            clear hO E31
            go_wp2
            go_ret
            exact ⟨rfl, HE.out⟩
          · have ha := Ha.out hr
            have H4L := hide (Hl4.out hr)
            rw [hr] at HRt
            clear Ha Hl4 hr
            simp only [if_true] at HRt
            generalize rdL t = L at *
            go_wp2_with fail
            refine (HRt.out _ HE.out).mono ?_
            rintro e w31 ⟨v, rfl, hO, E31⟩
            replace HE := hide (HE.out.trans E31)
            obtain ⟨va, vg, vc, rfl, -, hOw⟩ := own_of_ys hO
            have HW2 := hide (HWr.out va vg 0 L.length vc _ _ hOw.toSeg (by have := H4L.out; omega) HE.out)
            clear hO E31 hOw
            generalize adrB L.length (fun i => L.getD i 0) = A at *
            generalize fourB L.length (fun i => L.getD i 0) = B9 at *
            have ha' : (A.toList == t.toList) = true := by simp [ha]
            clear ha
            go_wp2_with fail
            refine HW2.out.mono ?_
            rintro e w32 ⟨rfl, E32⟩
            replace HE := hide (HE.out.trans E32)
            clear E32
            go_wp2
            go_ret
            exact ⟨rfl, HE.out⟩
        · have hb0' : ¬ (0 : Int) < bits := hb0
          go_wp2_with fail
          refine (HIs.out bits _ HEn.out).mono ?_
          rintro e w23 ⟨rfl, q23, rfl⟩
          rw [hsy]
          replace HE := hide (HE.out.trans (ext_drewD _ q23))
          generalize World.drewN _ q23 = w23 at *
          go_wp2_with fail
          refine (HDr.out _ HE.out).mono ?_
          rintro e w30 ⟨t, rfl, ht, E30⟩
          replace HE := hide (HE.out.trans E30)
          clear E30
          have HRt := hide (fun W (h : Ext w W) => HRd.out t W ht h)
          have Ha := hide (fun h : rdB t = true => rd_again h)
          have Hl4 := hide (fun h : rdB t = true => rdL_len h)
          cases hr : rdB t
          · rw [hr] at HRt
            clear Ha Hl4 hr
            go_wp2_with fail
            refine (HRt.out _ HE.out).mono ?_
            rintro e w31 ⟨v, rfl, hO, E31⟩
            replace HE := hide (HE.out.trans E31)
            obtain ⟨va, vg, vc, rfl, -, -⟩ := own_of_ys hO
            clear hO E31
            go_wp2
            go_ret
            exact ⟨rfl, HE.out⟩
          · have ha := Ha.out hr
            have H4L := hide (Hl4.out hr)
            rw [hr] at HRt
            clear Ha Hl4 hr
            simp only [if_true] at HRt
            generalize rdL t = L at *
            go_wp2_with fail
            refine (HRt.out _ HE.out).mono ?_
            rintro e w31 ⟨v, rfl, hO, E31⟩
            replace HE := hide (HE.out.trans E31)
            obtain ⟨va, vg, vc, rfl, -, hOw⟩ := own_of_ys hO
            have HW2 := hide (HWr.out va vg 0 L.length vc _ _ hOw.toSeg (by have := H4L.out; omega) HE.out)
            clear hO E31 hOw
            generalize adrB L.length (fun i => L.getD i 0) = A at *
            generalize fourB L.length (fun i => L.getD i 0) = B9 at *
            have ha' : (A.toList == t.toList) = true := by simp [ha]
            clear ha
            go_wp2_with fail
            refine HW2.out.mono ?_
            rintro e w32 ⟨rfl, E32⟩
            replace HE := hide (HE.out.trans E32)
            clear E32
            go_wp2
            go_ret
            exact ⟨rfl, HE.out⟩
    · obtain ⟨r1, r2⟩ := Hb2.out hb
      have Hk4 := hide (H4.out hb)
      rw [hb] at HSp
      rw [r1, r2] at HBk ⊢
      replace HBk : Hid (Seg w4 ba bg 0 4 (fun i => ([F 0, F 1, F 2, F 3] : List Int).getD i 0)) := HBk.out
      have hns := Hns.out hb
      clear Hb2 He Hns hb r1 r2
      generalize adrB k F = A0 at *
      go_wp2_with fail
      refine (HSp.out _ HS.out).mono ?_
      rintro e w5 ⟨rfl, E5⟩
      replace HE := hide (HE.out.trans E5)
      replace HS := hide (HS.out.of_all E5)
      replace HBk := hide (HBk.out.of_all E5)
      clear E5 HSp
      have HSm := hide (sameInts_any _ bg 0 4 bc _ _ g 0 k sc F _ HBk.out HS.out (by omega))
      rw [show ((4 == k) && alike (fun i => ([F 0, F 1, F 2, F 3] : List Int).getD i 0) F 4) = true by
        rw [Hk4.out, (alike_iff _ _ 4).2 (fun i hi => by
          have : i = 0 ∨ i = 1 ∨ i = 2 ∨ i = 3 := by omega
          rcases this with rfl | rfl | rfl | rfl <;> rfl)]
        rfl] at HSm
      go_wp2_with fail
      refine HSm.out.mono ?_
      rintro e w6 ⟨rfl, q6, rfl⟩
      replace HE := hide (HE.out.trans (ext_drewD _ q6))
      replace HS := hide (HS.out.of_all (ext_drewD _ q6))
      generalize World.drewN _ q6 = w6 at *
      clear HSm HBk
      go_wp2_with fail
      refine (HDn.out _ HE.out).mono ?_
      rintro e w20 ⟨g1, k1, sc1, g2, k2, sc2, F1, F2, bits, rfl, l1, l2, t0, t1, hS1, hS2, E20⟩
      have HS1 := hide hS1
      have HS2 := hide hS2
      replace HE := hide (HE.out.trans E20)
      replace HS := hide (HS.out.of_all E20)
      clear E20 hS1 hS2
      go_wp2_with fail
      refine (HAt.out 0 _ HE.out (by omega)).mono ?_
      rintro e w7 ⟨x, rfl, x0, x1, hw⟩
      obtain rfl := hw.symm
      have hm0 : Int.tmod x 33 = x % 33 := by rw [Int.tmod_eq_emod_of_nonneg x0]
      have hm1 : 0 ≤ x % 33 := by omega
      have hm2 : x % 33 ≤ 32 := by omega
      generalize x % 33 = m at *
      have hm3 : wrap64 m = m := by unfold wrap64; omega
      have hm4 : IntKind.i64.wrap m = m := by rw [IntKind.wrap_i64]; omega
      have hv := hns m hm1 hm2
      clear x0 x1 hm1 hm2 hns
      have HIn : Hid (∀ (bb : Int) W, Ext w20 W → Calls Tryd.prog 16 #[.slice (some ⟨g1, 0, none⟩) k1 sc1, .int .i64 bb, .slice (some ⟨g2, 0, none⟩) k2 sc2] W fun e w' => e = .returned (.bool (netB k1 F1 bb k2 F2)) ∧ ∃ q, w' = W.drewN q) := fun bb W h => implInNet_any _ g1 0 k1 sc1 F1 bb _ g2 0 k2 sc2 F2 W (HS1.out.of_all h) (by omega) (HS2.out.of_all h) (by omega)
      have HIs : Hid (∀ (bb : Int) W, Ext w20 W → Calls Tryd.prog 16 #[.slice (some ⟨g2, 0, none⟩) k2 sc2, .int .i64 bb, .slice (some ⟨g1, 0, none⟩) k1 sc1] W fun e w' => e = .returned (.bool (netB k2 F2 bb k1 F1)) ∧ ∃ q, w' = W.drewN q) := fun bb W h => implInNet_any _ g2 0 k2 sc2 F2 bb _ g1 0 k1 sc1 F1 W (HS2.out.of_all h) (by omega) (HS1.out.of_all h) (by omega)
      have HEn := hide (Ext.refl w20)
      go_wp2_with fail
      refine (HI0.out m _ HS.out).mono ?_
      rintro e w8 ⟨rfl, q8, rfl⟩
      rw [hv]
      replace HE := hide (HE.out.trans (ext_drewD _ q8))
      replace HEn := hide (HEn.out.trans (ext_drewD _ q8))
      replace HS := hide (HS.out.of_all (ext_drewD _ q8))
      generalize World.drewN _ q8 = w8 at *
      go_wp2_with fail
      refine (HI0.out 33 _ HS.out).mono ?_
      rintro e w9 ⟨rfl, q9, rfl⟩
      rw [net_33]
      replace HE := hide (HE.out.trans (ext_drewD _ q9))
      replace HEn := hide (HEn.out.trans (ext_drewD _ q9))
      generalize World.drewN _ q9 = w9 at *
      clear HS HI0 hm0 hm3 hm4 hv
      go_wp2_with fail
      refine (HIn.out bits _ HEn.out).mono ?_
      rintro e w21 ⟨rfl, q21, rfl⟩
      replace HE := hide (HE.out.trans (ext_drewD _ q21))
      replace HEn := hide (HEn.out.trans (ext_drewD _ q21))
      generalize World.drewN _ q21 = w21 at *
      cases hnb : netB k1 F1 bits k2 F2
      · clear hnb
        go_wp2_with fail
        refine (HDr.out _ HE.out).mono ?_
        rintro e w30 ⟨t, rfl, ht, E30⟩
        replace HE := hide (HE.out.trans E30)
        clear E30
        have HRt := hide (fun W (h : Ext w W) => HRd.out t W ht h)
        have Ha := hide (fun h : rdB t = true => rd_again h)
        have Hl4 := hide (fun h : rdB t = true => rdL_len h)
        cases hr : rdB t
        · rw [hr] at HRt
          clear Ha Hl4 hr
          go_wp2_with fail
          refine (HRt.out _ HE.out).mono ?_
          rintro e w31 ⟨v, rfl, hO, E31⟩
          replace HE := hide (HE.out.trans E31)
          obtain ⟨va, vg, vc, rfl, -, -⟩ := own_of_ys hO
          clear hO E31
          go_wp2
          go_ret
          exact ⟨rfl, HE.out⟩
        · have ha := Ha.out hr
          have H4L := hide (Hl4.out hr)
          rw [hr] at HRt
          clear Ha Hl4 hr
          simp only [if_true] at HRt
          generalize rdL t = L at *
          go_wp2_with fail
          refine (HRt.out _ HE.out).mono ?_
          rintro e w31 ⟨v, rfl, hO, E31⟩
          replace HE := hide (HE.out.trans E31)
          obtain ⟨va, vg, vc, rfl, -, hOw⟩ := own_of_ys hO
          have HW2 := hide (HWr.out va vg 0 L.length vc _ _ hOw.toSeg (by have := H4L.out; omega) HE.out)
          clear hO E31 hOw
          generalize adrB L.length (fun i => L.getD i 0) = A at *
          generalize fourB L.length (fun i => L.getD i 0) = B9 at *
          have ha' : (A.toList == t.toList) = true := by simp [ha]
          clear ha
          go_wp2_with fail
          refine HW2.out.mono ?_
          rintro e w32 ⟨rfl, E32⟩
          replace HE := hide (HE.out.trans E32)
          clear E32
          go_wp2
          go_ret
          exact ⟨rfl, HE.out⟩
      · have hsy := net_symm hnb
        have Hle := hide (fun h : 0 < bits => net_less hnb h)
        clear hnb
        by_cases hb0 : 0 < bits
        · have hle := Hle.out hb0
          have hw1 : wrap64 (bits - 1) = bits - 1 := by unfold wrap64; omega
          go_wp2_with fail
          refine (HIn.out (bits - 1) _ HEn.out).mono ?_
          rintro e w22 ⟨rfl, q22, rfl⟩
          rw [hle]
          replace HE := hide (HE.out.trans (ext_drewD _ q22))
          replace HEn := hide (HEn.out.trans (ext_drewD _ q22))
          generalize World.drewN _ q22 = w22 at *
          go_wp2_with fail
          refine (HIs.out bits _ HEn.out).mono ?_
          rintro e w23 ⟨rfl, q23, rfl⟩
          rw [hsy]
          replace HE := hide (HE.out.trans (ext_drewD _ q23))
          generalize World.drewN _ q23 = w23 at *
          clear hw1
          go_wp2_with fail
          refine (HDr.out _ HE.out).mono ?_
          rintro e w30 ⟨t, rfl, ht, E30⟩
          replace HE := hide (HE.out.trans E30)
          clear E30
          have HRt := hide (fun W (h : Ext w W) => HRd.out t W ht h)
          have Ha := hide (fun h : rdB t = true => rd_again h)
          have Hl4 := hide (fun h : rdB t = true => rdL_len h)
          cases hr : rdB t
          · rw [hr] at HRt
            clear Ha Hl4 hr
            go_wp2_with fail
            refine (HRt.out _ HE.out).mono ?_
            rintro e w31 ⟨v, rfl, hO, E31⟩
            replace HE := hide (HE.out.trans E31)
            obtain ⟨va, vg, vc, rfl, -, -⟩ := own_of_ys hO
            clear hO E31
            go_wp2
            go_ret
            exact ⟨rfl, HE.out⟩
          · have ha := Ha.out hr
            have H4L := hide (Hl4.out hr)
            rw [hr] at HRt
            clear Ha Hl4 hr
            simp only [if_true] at HRt
            generalize rdL t = L at *
            go_wp2_with fail
            refine (HRt.out _ HE.out).mono ?_
            rintro e w31 ⟨v, rfl, hO, E31⟩
            replace HE := hide (HE.out.trans E31)
            obtain ⟨va, vg, vc, rfl, -, hOw⟩ := own_of_ys hO
            have HW2 := hide (HWr.out va vg 0 L.length vc _ _ hOw.toSeg (by have := H4L.out; omega) HE.out)
            clear hO E31 hOw
            generalize adrB L.length (fun i => L.getD i 0) = A at *
            generalize fourB L.length (fun i => L.getD i 0) = B9 at *
            have ha' : (A.toList == t.toList) = true := by simp [ha]
            clear ha
            go_wp2_with fail
            refine HW2.out.mono ?_
            rintro e w32 ⟨rfl, E32⟩
            replace HE := hide (HE.out.trans E32)
            clear E32
            go_wp2
            go_ret
            exact ⟨rfl, HE.out⟩
        · have hb0' : ¬ (0 : Int) < bits := hb0
          go_wp2_with fail
          refine (HIs.out bits _ HEn.out).mono ?_
          rintro e w23 ⟨rfl, q23, rfl⟩
          rw [hsy]
          replace HE := hide (HE.out.trans (ext_drewD _ q23))
          generalize World.drewN _ q23 = w23 at *
          go_wp2_with fail
          refine (HDr.out _ HE.out).mono ?_
          rintro e w30 ⟨t, rfl, ht, E30⟩
          replace HE := hide (HE.out.trans E30)
          clear E30
          have HRt := hide (fun W (h : Ext w W) => HRd.out t W ht h)
          have Ha := hide (fun h : rdB t = true => rd_again h)
          have Hl4 := hide (fun h : rdB t = true => rdL_len h)
          cases hr : rdB t
          · rw [hr] at HRt
            clear Ha Hl4 hr
            go_wp2_with fail
            refine (HRt.out _ HE.out).mono ?_
            rintro e w31 ⟨v, rfl, hO, E31⟩
            replace HE := hide (HE.out.trans E31)
            obtain ⟨va, vg, vc, rfl, -, -⟩ := own_of_ys hO
            clear hO E31
            go_wp2
            go_ret
            exact ⟨rfl, HE.out⟩
          · have ha := Ha.out hr
            have H4L := hide (Hl4.out hr)
            rw [hr] at HRt
            clear Ha Hl4 hr
            simp only [if_true] at HRt
            generalize rdL t = L at *
            go_wp2_with fail
            refine (HRt.out _ HE.out).mono ?_
            rintro e w31 ⟨v, rfl, hO, E31⟩
            replace HE := hide (HE.out.trans E31)
            obtain ⟨va, vg, vc, rfl, -, hOw⟩ := own_of_ys hO
            have HW2 := hide (HWr.out va vg 0 L.length vc _ _ hOw.toSeg (by have := H4L.out; omega) HE.out)
            clear hO E31 hOw
            generalize adrB L.length (fun i => L.getD i 0) = A at *
            generalize fourB L.length (fun i => L.getD i 0) = B9 at *
            have ha' : (A.toList == t.toList) = true := by simp [ha]
            clear ha
            go_wp2_with fail
            refine HW2.out.mono ?_
            rintro e w32 ⟨rfl, E32⟩
            replace HE := hide (HE.out.trans E32)
            clear E32
            go_wp2
            go_ret
            exact ⟨rfl, HE.out⟩
  · go_enter Tryd.func3, Tryd.ntmps3
    go_wp2_with fail
    refine (big_long a n cap w hn).mono ?_
    rintro e w1 ⟨rfl, hw⟩
    obtain rfl := hw.symm
    go_wp2
    go_ret
    exact ⟨rfl, Below.refl _ _⟩

end Go.Proofs.YtjidlahgfkdipacDoor
