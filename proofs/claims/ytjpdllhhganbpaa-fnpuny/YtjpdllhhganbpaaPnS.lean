/- Walks: the model's Puny (written by mkpny.py). -/
import Derived.Test.YtjpdllhhganbpaaPnz
namespace Go.Proofs.Ytjpdllhhganbpaa
set_option linter.unusedVariables false
set_option linter.unusedSimpArgs false
open Go.RowKit

theorem cntE_mono (f : Nat → Int) (n : Int) {j k : Nat} (h : j ≤ k) : cntE f n j ≤ cntE f n k := by
  induction k with
  | zero => rw [Nat.le_zero.1 h]; exact Nat.le_refl _
  | succ k ih =>
    by_cases e : j = k + 1
    · rw [e]; exact Nat.le_refl _
    · have := ih (by omega); rw [cntE]; omega

/-- Puny's answer. -/
def punyS (n : Nat) (f : Nat → Int) : ByteArray := if wordB n f then strOfNums (punyL f n) else ⟨#[]⟩

set_option maxHeartbeats 6400000 in
set_option maxRecDepth 100000 in
theorem specPuny_any (a : Option Addr) (b off n cap : Nat) (f : Nat → Int) (w : World) (hs : Seg w a b off n f) (hn : n ≤ 1048576) :
    Calls Try.prog 14 #[.slice a n cap] w fun e w' => e = .returned (.tuple #[.string (punyS n f), .bool (wordB n f)]) ∧ Ext w w' := by
  obtain ⟨i0, hi, hz0, hz1, hz2⟩ := info_parts Try.info5
  have HW := hide (l8WordOk_any a b off n cap f w hs hn)
  cases hwb : wordB n f
  · have hV : punyS n f = ⟨#[]⟩ := by unfold punyS; rw [hwb]; rfl
    rw [hwb] at HW
    rw [hV]
    go_enter Try.func14, Try.ntmps14
    go_wp2_with (go_at_call 34; refine HW.out.mono ?_; rintro e w3 ⟨rfl, hw⟩; obtain rfl := hw.symm)
    go_ret2
    exact ⟨rfl, Ext.refl _⟩
  · rw [hwb] at HW
    obtain ⟨hn1, hn20, hf⟩ := word_is hwb
    obtain rfl := hs.at' (by omega)
    have HF := hide hf
    have HK20 := hide hn20
    clear hf hwb
    obtain ⟨R, hRR⟩ : ∃ R, R = punyL f n := ⟨_, rfl⟩
    have HV0 : Hid (Ending.returned (.tuple #[.string (strOfNums R), .bool true]) = .returned (.tuple #[.string (punyS n f), .bool true])) := by
      show _ = _
      unfold punyS
      rw [hRR, show wordB n f = true from by unfold wordB; rw [(ltrs_iff f n).2 HF.out]; simp; omega]
      rfl
    have HRR := hide hRR
    clear hRR
    have HO := hide (World.ownsRow_made (base := w.heap.size) (e := 5) (size := 1) w #[] 0 (Nat.le_refl _) (by simp) rfl)
    go_enter Try.func14, Try.ntmps14
    go_wp2_with (go_at_call 34; refine HW.out.mono ?_; rintro e w3 ⟨rfl, hw⟩; obtain rfl := hw.symm)
    clear HW
    go_loopw [4, 5] (fun v i wr => ∃ k : Nat, k ≤ n ∧ i = .int .i64 k ∧ wr.ownsRow w.heap.size 5 1 v (nearL f k).length (bys (nearL f k)) ∧ Ext w wr) (fun _ i _ => n - (intOf i).toNat)
    case atStart => exact ⟨0, Nat.zero_le _, rfl, HO.out, Ext.alloc _ _⟩
    case round =>
      clear HO
      obtain ⟨k, hk, rfl, hO, hE⟩ := hrel
      have HO := hide hO
      have HE := hide hE
      clear hO hE
      by_cases hlt : k < n
      · have hkn : (k : Int) < (n : Int) := by omega
        have hc := (hs.of_all HE.out).cell k hlt
        obtain ⟨f0, f1⟩ := HF.out k hlt
        have HN : Hid (nearL f (k + 1) = if f k < 128 then nearL f k ++ [f k] else nearL f k) := rfl
        have HL : Hid ((nearL f k).length ≤ k) := by show _ ≤ _; rw [nearL_len]; exact cnt_le _ _ _
        generalize nearL f k = N at *
        by_cases c : f k < 128
        · have g : f k % 256 = f k := by omega
          have HQ : Hid (nearL f (k + 1) = N ++ [f k]) := by show _ = _; rw [HN.out, if_pos c]
          clear HN
          go_wp2_with (at_builtin; refine wpList_append_own _ rfl _ _ 28 rfl w.heap.size 5 i0 (.int .u8 0) 1 1 Try.underlying28 hi hz0 hz1 hz2 rfl (by decide) _ _ _ rfl (HO.out.alloc _) ⟨wr.heap.size, 0, none⟩ 1 1 [.int .u8 (f k)] rfl rfl (cell_one_new _ _ _) (bys_one _) (by have := HL.out; unfold maxLen; omega) (by have := HL.out; omega) (by have := Below.size HE.out; simp; omega) ?_; intro v' w1 hown' hgrow hnil)
          have HN := hide (bys_step HO.out HE.out hown' hgrow)
          clear hown' hgrow hnil
          go_wp2
          go_roundw
          case rel => exact ⟨k + 1, by omega, by go_num, by rw [HQ.out]; exact HN.out.1, HN.out.2⟩
          case measure => simp [intOf]; omega
        · have HQ : Hid (nearL f (k + 1) = N) := by show _ = _; rw [HN.out, if_neg c]
          clear HN
          go_wp2
          go_roundw
          case rel => exact ⟨k + 1, by omega, by go_num, by rw [HQ.out]; exact HO.out, HE.out⟩
          case measure => simp [intOf]; omega
      · obtain rfl : k = n := by omega
        have HNL := hide (nearL_len f k)
        have HN20 : Hid ((nearL f k).length ≤ 20) := by show _ ≤ _; rw [nearL_len]; have := cnt_le f 128 k; have := HK20.out; omega
        have HPN : Hid (R = pout (nearL f k).length k f k ⟨(nearL f k).length, 0, 72, markL (nearL f k)⟩ 128) := by show _ = _; rw [HRR.out, punyL, nearL_len]
        clear HRR
        generalize nearL f k = N at *
        obtain ⟨va, vg, vc, rfl, hvg, hvn, hvc, hvB⟩ := owns_seg (f := fun i => N.getD i 0) (by rw [← bys_byts]; exact HO.out)
        clear hvg hvn hvc hvB
        have HV := hide HV0.out
        by_cases hb0 : 0 < N.length
        · have hb1 : (0 : Int) < (N.length : Int) := by omega
          have HMK : Hid (markL N = N ++ [45]) := by show _ = _; unfold markL; rw [if_pos hb0]
          go_wp2_with (at_builtin; refine wpList_append_own _ rfl _ _ 28 rfl w.heap.size 5 i0 (.int .u8 0) 1 1 Try.underlying28 hi hz0 hz1 hz2 rfl (by decide) _ _ _ rfl (HO.out.alloc _) ⟨wr.heap.size, 0, none⟩ 1 1 [.int .u8 45] rfl rfl (cell_one_new _ _ _) (bys_one _) (by have := HN20.out; unfold maxLen; omega) (by have := HN20.out; omega) (by have := Below.size HE.out; simp; omega) ?_; intro v' w1 hown' hgrow hnil)
          have HNN := hide (bys_step HO.out HE.out hown' hgrow)
          clear hown' hgrow hnil HO HE
          have HOS := hide HNN.out.1
          have HES := hide HNN.out.2
          clear HNN
          obtain ⟨n, rfl⟩ : ∃ n, n = k := ⟨k, rfl⟩
          go_wp2
          go_loopw [4, 7, 8, 9, 10] (fun v c d b h wr => ∃ (F : Nat) (s : PS) (nn : Int), c = .int .i64 nn ∧ d = .int .i64 s.d ∧ b = .int .i64 s.b ∧ h = .int .i64 (s.h : Int) ∧ OutB f n nn s ∧ n - s.h ≤ F ∧ pout N.length n f F s nn = R ∧ wr.ownsRow w.heap.size 5 1 v s.o.length (bys s.o) ∧ Ext w wr) (fun _ _ _ _ h _ => n - (intOf h).toNat)
          case atStart => exact ⟨n, ⟨N.length, 0, 72, markL N⟩, 128, rfl, rfl, rfl, rfl, ⟨HNL.out, by decide, by decide, Int.le_refl _, by show (0 : Int) ≤ 21 * 128; omega, by show (0 : Int) ≤ 72; omega, by show (72 : Int) ≤ 2000000000; omega, by simp only [HMK.out, List.length_append, List.length_singleton]; have := HN20.out; omega⟩, by simp only []; omega, HPN.out.symm, by simp only [HMK.out]; exact HOS.out, HES.out⟩
          case round =>
            clear HOS HES HPN HMK
            obtain ⟨F, s, nn, rfl, rfl, rfl, rfl, hOB, hFF, hP, hO, hE⟩ := hrel
            obtain ⟨sh, sd, sb, so⟩ := s
            simp only at hOB hFF hP hO
            have HOB := hide hOB
            have HFF := hide hFF
            have HP := hide hP
            have HO := hide hO
            have HE := hide hE
            clear hOB hFF hP hO hE
            have sh20 : sh ≤ 20 := by have := HOB.out.h; have := cnt_le f nn n; simp only at *; omega
            by_cases hlt : sh < n
            · have hln : (sh : Int) < (n : Int) := by omega
              have HX : Hid (∃ i, i < n ∧ nn ≤ f i) := cnt_some (by rw [← HOB.out.h]; exact hlt)
              have hsw := hs.of_all HE.out
              go_wp2
              go_loop [11, 12] (fun v i => ∃ k : Nat, k ≤ n ∧ i = .int .i64 k ∧ v = .int .i64 (lst f nn 1114112 k)) (fun _ i => n - (intOf i).toNat)
              case atStart => exact ⟨0, Nat.zero_le _, rfl, rfl⟩
              case round =>
                obtain ⟨k, hk, rfl, rfl⟩ := hrel
                by_cases hkl : k < n
                · have hkn : (k : Int) < (n : Int) := by omega
                  have hc := hsw.cell k hkl
                  have HN : Hid (lst f nn 1114112 (k + 1) = if nn ≤ f k then min (lst f nn 1114112 k) (f k) else lst f nn 1114112 k) := rfl
                  generalize lst f nn 1114112 k = x at *
                  by_cases c : nn ≤ f k
                  · have HQ : Hid (lst f nn 1114112 (k + 1) = min x (f k)) := by show _ = _; rw [HN.out, if_pos c]
                    clear HN
                    go_wp2_with (go_at_call 35; refine (l1Min2_any _ _ _).mono ?_; rintro e w' ⟨rfl, hw⟩; obtain rfl := hw.symm)
                    go_round
                    case rel => exact ⟨k + 1, by omega, by go_num, by rw [HQ.out]⟩
                    case measure => simp [intOf]; omega
                  · have HQ : Hid (lst f nn 1114112 (k + 1) = x) := by show _ = _; rw [HN.out, if_neg c]
                    clear HN
                    go_wp2
                    go_round
                    case rel => exact ⟨k + 1, by omega, by go_num, by rw [HQ.out]⟩
                    case measure => simp [intOf]; omega
                · obtain rfl : k = n := by omega
                  have HM := hide (lst_spec (n := nn) (m := 1114112) (fun i hi => (HF.out i hi).2) (by omega) HX.out)
                  generalize lst f nn 1114112 k = m at *
                  obtain ⟨m0, m1, m2, p0, p1, hIB⟩ := HOB.out.into HK20.out hlt (fun i hi => (HF.out i hi).2) HM.out
                  have HIB := hide hIB
                  have d0 := HOB.out.d0
                  have d1 := HOB.out.d1
                  have HST : Hid (∀ (s2 : PS), s2 = pinF N.length m f k ⟨sh, sd + (m - nn) * ((sh : Int) + 1), sb, so⟩ → InB f k m k s2 → ∃ G, k - s2.h ≤ G ∧ R = pout N.length k f G ⟨s2.h, s2.d + 1, s2.b, s2.o⟩ (m + 1)) := by
                    intro s2 h2 B2
                    obtain ⟨G, h3, h4⟩ := pout_step HK20.out HFF.out HOB.out hlt (fun i hi => (HF.out i hi).2) HM.out h2 B2
                    exact ⟨G, h3, by rw [← HP.out, h4]⟩
                  have HSM : Hid (∀ s2 : PS, InB f k m k s2 → sh < s2.h) := by
                    intro s2 B2
                    obtain ⟨i, i1, i2⟩ := HM.out.at'
                    have := B2.h
                    have := cntE_pos i1 i2
                    have := cnt_gap HM.out.ge HM.out.gap
                    have := HOB.out.h
                    simp only at *
                    omega
                  clear hIB HX HOB HFF HP HM
                  simp only at d0 d1
                  generalize hPP : (m - nn) * ((sh : Int) + 1) = P at *
                  have w1 : wrap64 P = P := by unfold wrap64; omega
                  have w2 : wrap64 (sd + P) = sd + P := by unfold wrap64; omega
                  go_wp2
                  go_loopw [4, 8, 9, 10, 13] (fun v d b h i wr => ∃ (j : Nat) (s : PS), j ≤ k ∧ i = .int .i64 j ∧ d = .int .i64 s.d ∧ b = .int .i64 s.b ∧ h = .int .i64 (s.h : Int) ∧ s = pinF N.length m f j ⟨sh, sd + P, sb, so⟩ ∧ InB f k m j s ∧ wr.ownsRow w.heap.size 5 1 v s.o.length (bys s.o) ∧ Ext w wr) (fun _ _ _ _ i _ => k - (intOf i).toNat)
                  case atStart => exact ⟨0, ⟨sh, sd + P, sb, so⟩, Nat.zero_le _, rfl, rfl, rfl, rfl, rfl, HIB.out, HO.out, HE.out⟩
                  case round =>
                    clear HIB HO HE hsw w1 w2 hPP
                    obtain ⟨j, s, hj, rfl, rfl, rfl, rfl, hpin, hIB, hO, hE⟩ := hrel
                    have HIB := hide hIB
                    have HO := hide hO
                    have HE := hide hE
                    have Hpin := hide hpin
                    clear hIB hO hE hpin
                    have e0 := HIB.out.d0
                    have e1 := HIB.out.d1
                    have eb0 := HIB.out.b0
                    have eb1 := HIB.out.b1
                    have el := HIB.out.l1
                    have eh : s.h ≤ 20 := by have := HIB.out.h; have := cnt_cntE_le f m k; have : cntE f m j ≤ cntE f m k := cntE_mono f m hj; omega
                    by_cases hjl : j < k
                    · have hjn : (j : Int) < (k : Int) := by omega
                      have hc := (hs.of_all HE.out).cell j hjl
                      have HNB := hide (HIB.out.step (basic := N.length) m0 m1 HK20.out hjl)
                      have HNP : Hid (pin N.length m (f j) s = pinF N.length m f (j + 1) ⟨sh, sd + P, sb, so⟩) := by show _ = _; rw [pinF, ← Hpin.out]
                      obtain ⟨q, hq⟩ : ∃ q, q = pin N.length m (f j) s := ⟨_, rfl⟩
                      rw [← hq] at HNB HNP
                      clear HIB Hpin
                      by_cases c0 : f j = m
                      · have hqq : q = ⟨s.h + 1, 0, pbias s.d (s.h + 1) (s.h == N.length), s.o ++ dgs s.b s.d⟩ := by rw [hq, pin, if_pos c0]
                        have HQ := hide hqq
                        have x1 : ¬ f j < m := by omega
                        have x2 : (f j != m) = false := by simp [c0]
                        have hbq : ((s.h : Int) == (N.length : Int)) = (s.h == N.length) := by
                          cases e : (s.h == N.length)
                          · simp at e ⊢; omega
                          · simp at e ⊢; omega
                        have HBi : Hid (∀ w, Calls Try.prog 21 #[.int .i64 s.d, .int .i64 ((s.h : Int) + 1), .bool (s.h == N.length)] w fun e w' => e = .returned (.int .i64 (pbias s.d ((s.h : Int) + 1) (s.h == N.length))) ∧ w' = w) := fun w => l8Bias_any s.d ((s.h : Int) + 1) (s.h == N.length) e0 (by omega) (by omega) (by omega) w
                        have HTh : Hid (∀ c, 0 ≤ c → c ≤ 4000000000 → ∀ w, Calls Try.prog 20 #[.int .i64 c, .int .i64 s.b] w fun e w' => e = .returned (.int .i64 (thr c s.b)) ∧ w' = w) := fun c h0 h1 w => l8Threshold_any c s.b h0 h1 eb0 (by omega) w
                        generalize (s.h == N.length) = bq at *
                        clear hqq hq
                        have Hc0 := hide c0
                        clear c0
                        obtain ⟨sh', sd', sb', so'⟩ := s
                        simp only at e0 e1 eb0 eb1 el eh HQ hbq HBi HTh HO
                        generalize pbias sd' ((sh' : Int) + 1) bq = PB at *
                        go_wp2
                        go_loopw [4, 14, 15] (fun v z c wr => ∃ (F : Nat) (x y : Int) (L : List Int), z = .int .i64 x ∧ c = .int .i64 y ∧ x.toNat < F ∧ 0 ≤ x ∧ 36 ≤ y ∧ y + 36 * x ≤ 36 + 36 * sd' ∧ (L.length : Int) + x ≤ so'.length + sd' ∧ L ++ pdig sb' F y x = so' ++ dgs sb' sd' ∧ wr.ownsRow w.heap.size 5 1 v L.length (bys L) ∧ Ext w wr) (fun _ z _ _ => (intOf z).toNat)
                        case atStart => exact ⟨sd'.toNat + 1, sd', 36, so', rfl, rfl, Nat.lt_succ_self _, e0, by omega, by omega, by omega, rfl, HO.out, HE.out⟩
                        case round =>
                          clear HO HE
                          obtain ⟨F2, x, y, L, rfl, rfl, hF2, xx0, y0, y1, hL, hA, hO, hE⟩ := hrel
                          have HO := hide hO
                          have HE := hide hE
                          have HA := hide hA
                          have HM2 : Hid (x < thr y sb' → pdig sb' F2 y x = [pd x]) := fun h => pdig_last hF2 h
                          have HR2 : Hid (¬ x < thr y sb' → ∃ G, ((x - thr y sb') / (36 - thr y sb')).toNat < G ∧ pdig sb' F2 y x = pd (thr y sb' + (x - thr y sb') % (36 - thr y sb')) :: pdig sb' G (y + 36) ((x - thr y sb') / (36 - thr y sb'))) := fun h => pdig_more hF2 h
                          have t1 := thr_ge y sb'
                          have t2 := thr_le y sb'
                          have HT2 := hide (HTh.out y (by omega) (by omega))
                          have Hel := hide el
                          clear hO hE hA hF2 el
                          generalize thr y sb' = T at *
                          have hLL : L.length ≤ 900000000 := by have := Hel.out; omega
                          by_cases hz : x < T
                          · have HX2 : Hid (L ++ [pd x] = so' ++ dgs sb' sd') := by show _ = _; rw [← HA.out, HM2.out hz]
                            clear HM2 HR2 HA
                            go_wp2_with (first | (go_at_call 20; refine (HT2.out _).mono ?_; rintro e w3 ⟨rfl, hw⟩; obtain rfl := hw.symm) | (go_at_call 36; refine (l8PunyDigit_any x xx0 (by omega) _).mono ?_; rintro e w3 ⟨rfl, hw⟩; obtain rfl := hw.symm) | (at_builtin; refine wpList_append_own _ rfl _ _ 28 rfl w.heap.size 5 i0 (.int .u8 0) 1 1 Try.underlying28 hi hz0 hz1 hz2 rfl (by decide) _ _ _ rfl (HO.out.alloc _) ⟨wr.heap.size, 0, none⟩ 1 1 [.int .u8 (pd x)] rfl rfl (cell_one_new _ _ _) (bys_one _) (by unfold maxLen; omega) (by omega) (by have := Below.size HE.out; simp; omega) ?_; intro v' w4 hown' hgrow hnil))
                            have HN2 := hide (bys_step HO.out HE.out hown' hgrow)
                            clear hown' hgrow hnil
                            rw [HX2.out] at HN2
                            go_wp2_with (go_at_call 21; refine (HBi.out _).mono ?_; rintro e w3 ⟨rfl, hw⟩; obtain rfl := hw.symm)
                            go_roundw
                            case rel =>
                              have hqx := HQ.out
                              exact ⟨j + 1, q, by omega, by go_num, by rw [hqx], by rw [hqx], by rw [hqx]; go_num, HNP.out, HNB.out, by rw [hqx]; exact HN2.out.1, HN2.out.2⟩
                            case measure => simp [intOf]; omega
                          · obtain ⟨G, hG, he⟩ := HR2.out hz
                            obtain ⟨r0, r1⟩ := rem_dig t1 t2 hz
                            obtain ⟨q1', q2'⟩ := quo_less t1 t2 (Int.not_lt.1 hz)
                            have HX2 : Hid ((L ++ [pd (T + (x - T) % (36 - T))]) ++ pdig sb' G (y + 36) ((x - T) / (36 - T)) = so' ++ dgs sb' sd') := by
                              show _ = _
                              rw [← HA.out, he, List.append_assoc]
                              rfl
                            have HG := hide hG
                            have mm1 : (x - T).tmod (36 - T) = (x - T) % (36 - T) := Int.tmod_eq_emod_of_nonneg (by omega)
                            have mm2 : (x - T).tdiv (36 - T) = (x - T) / (36 - T) := Int.tdiv_eq_ediv_of_nonneg (by omega)
                            have mm3 : (36 - T == 0) = false := by simp; omega
                            clear HM2 HR2 HA he hG
                            generalize (x - T) % (36 - T) = r at *
                            generalize (x - T) / (36 - T) = z at *
                            have mm4 : wrap64 r = r := by unfold wrap64; omega
                            have mm5 : wrap64 z = z := by unfold wrap64; omega
                            have mm6 : wrap64 (T + r) = T + r := by unfold wrap64; omega
                            go_wp2_with (first | (go_at_call 20; refine (HT2.out _).mono ?_; rintro e w3 ⟨rfl, hw⟩; obtain rfl := hw.symm) | (go_at_call 36; refine (l8PunyDigit_any (T + r) (by omega) r1 _).mono ?_; rintro e w3 ⟨rfl, hw⟩; obtain rfl := hw.symm) | (at_builtin; refine wpList_append_own _ rfl _ _ 28 rfl w.heap.size 5 i0 (.int .u8 0) 1 1 Try.underlying28 hi hz0 hz1 hz2 rfl (by decide) _ _ _ rfl (HO.out.alloc _) ⟨wr.heap.size, 0, none⟩ 1 1 [.int .u8 (pd (T + r))] rfl rfl (cell_one_new _ _ _) (bys_one _) (by unfold maxLen; omega) (by omega) (by have := Below.size HE.out; simp; omega) ?_; intro v' w4 hown' hgrow hnil))
                            have HN2 := hide (bys_step HO.out HE.out hown' hgrow)
                            clear hown' hgrow hnil
                            go_wp2
                            go_roundw
                            case rel => exact ⟨G, z, y + 36, L ++ [pd (T + r)], rfl, by go_num, HG.out, q1', by omega, by omega, by simp only [List.length_append, List.length_singleton]; omega, HX2.out, HN2.out.1, HN2.out.2⟩
                            case measure => simp [intOf]; omega
                      · by_cases c1 : f j < m
                        · have hqq : q = ⟨s.h, s.d + 1, s.b, s.o⟩ := by rw [hq, pin, if_neg c0, if_pos c1]
                          have x2 : (f j != m) = true := by simp [c0]
                          have HQ := hide hqq
                          clear hqq hq
                          obtain ⟨sh', sd', sb', so'⟩ := s
                          simp only at e0 e1 HQ HO
                          have w9 : wrap64 (sd' + 1) = sd' + 1 := by unfold wrap64; omega
                          go_wp2
                          go_roundw
                          case rel =>
                            have hqx := HQ.out
                            exact ⟨j + 1, q, by omega, by go_num, by rw [hqx], by rw [hqx], by rw [hqx], HNP.out, HNB.out, by rw [hqx]; exact HO.out, HE.out⟩
                          case measure => simp [intOf]; omega
                        · have hqq : q = s := by rw [hq, pin, if_neg c0, if_neg c1]
                          have x2 : (f j != m) = true := by simp [c0]
                          subst hqq
                          clear hq
                          go_wp2
                          go_roundw
                          case rel => exact ⟨j + 1, q, by omega, by go_num, rfl, rfl, rfl, HNP.out, HNB.out, HO.out, HE.out⟩
                          case measure => simp [intOf]; omega
                    · obtain rfl : j = k := by omega
                      obtain ⟨G, hG, hR⟩ := HST.out s Hpin.out HIB.out
                      have HG := hide hG
                      have HR := hide hR
                      have HOB2 := hide (HIB.out.out HK20.out m0 m1)
                      have HS2 := hide (HSM.out s HIB.out)
                      clear hG hR HST HSM HIB Hpin
                      obtain ⟨sh', sd', sb', so'⟩ := s
                      simp only at HG HR HOB2 HO HS2 e0 e1
                      have w9 : wrap64 (sd' + 1) = sd' + 1 := by unfold wrap64; omega
                      go_wp2
                      go_roundw
                      case rel => exact ⟨G, ⟨sh', sd' + 1, sb', so'⟩, m + 1, by go_num, rfl, rfl, rfl, HOB2.out, HG.out, HR.out.symm, HO.out, HE.out⟩
                      case measure => simp [intOf]; have := HS2.out; omega
            · have hln : ¬ (sh : Int) < (n : Int) := by omega
              have hend : so = R := by have h := HP.out; rw [pout_end (by simpa using hlt)] at h; exact h
              subst hend
              obtain ⟨va, vg, vc, rfl, hvg, hvn, hvc, hvB⟩ := owns_seg (f := fun i => so.getD i 0) (by rw [← bys_byts]; exact HO.out)
              have hcv := conv_seg (cap := vc) hvB.toBSeg
              rw [nums_list] at hcv
              clear hvg hvn hvc hvB HO
              go_wp2
              go_ret2
              exact ⟨HV.out, HE.out⟩
        · have hb1 : ¬ (0 : Int) < (N.length : Int) := by omega
          have HMK : Hid (markL N = N) := by show _ = _; unfold markL; rw [if_neg hb0]
          have HOS := hide HO.out
          have HES := hide HE.out
          clear HO HE
          obtain ⟨n, rfl⟩ : ∃ n, n = k := ⟨k, rfl⟩
          go_wp2
          go_loopw [4, 7, 8, 9, 10] (fun v c d b h wr => ∃ (F : Nat) (s : PS) (nn : Int), c = .int .i64 nn ∧ d = .int .i64 s.d ∧ b = .int .i64 s.b ∧ h = .int .i64 (s.h : Int) ∧ OutB f n nn s ∧ n - s.h ≤ F ∧ pout N.length n f F s nn = R ∧ wr.ownsRow w.heap.size 5 1 v s.o.length (bys s.o) ∧ Ext w wr) (fun _ _ _ _ h _ => n - (intOf h).toNat)
          case atStart => exact ⟨n, ⟨N.length, 0, 72, markL N⟩, 128, rfl, rfl, rfl, rfl, ⟨HNL.out, by decide, by decide, Int.le_refl _, by show (0 : Int) ≤ 21 * 128; omega, by show (0 : Int) ≤ 72; omega, by show (72 : Int) ≤ 2000000000; omega, by simp only [HMK.out]; have := HN20.out; omega⟩, by simp only []; omega, HPN.out.symm, by simp only [HMK.out]; exact HOS.out, HES.out⟩
          case round =>
            clear HOS HES HPN HMK
            obtain ⟨F, s, nn, rfl, rfl, rfl, rfl, hOB, hFF, hP, hO, hE⟩ := hrel
            obtain ⟨sh, sd, sb, so⟩ := s
            simp only at hOB hFF hP hO
            have HOB := hide hOB
            have HFF := hide hFF
            have HP := hide hP
            have HO := hide hO
            have HE := hide hE
            clear hOB hFF hP hO hE
            have sh20 : sh ≤ 20 := by have := HOB.out.h; have := cnt_le f nn n; simp only at *; omega
            by_cases hlt : sh < n
            · have hln : (sh : Int) < (n : Int) := by omega
              have HX : Hid (∃ i, i < n ∧ nn ≤ f i) := cnt_some (by rw [← HOB.out.h]; exact hlt)
              have hsw := hs.of_all HE.out
              go_wp2
              go_loop [11, 12] (fun v i => ∃ k : Nat, k ≤ n ∧ i = .int .i64 k ∧ v = .int .i64 (lst f nn 1114112 k)) (fun _ i => n - (intOf i).toNat)
              case atStart => exact ⟨0, Nat.zero_le _, rfl, rfl⟩
              case round =>
                obtain ⟨k, hk, rfl, rfl⟩ := hrel
                by_cases hkl : k < n
                · have hkn : (k : Int) < (n : Int) := by omega
                  have hc := hsw.cell k hkl
                  have HN : Hid (lst f nn 1114112 (k + 1) = if nn ≤ f k then min (lst f nn 1114112 k) (f k) else lst f nn 1114112 k) := rfl
                  generalize lst f nn 1114112 k = x at *
                  by_cases c : nn ≤ f k
                  · have HQ : Hid (lst f nn 1114112 (k + 1) = min x (f k)) := by show _ = _; rw [HN.out, if_pos c]
                    clear HN
                    go_wp2_with (go_at_call 35; refine (l1Min2_any _ _ _).mono ?_; rintro e w' ⟨rfl, hw⟩; obtain rfl := hw.symm)
                    go_round
                    case rel => exact ⟨k + 1, by omega, by go_num, by rw [HQ.out]⟩
                    case measure => simp [intOf]; omega
                  · have HQ : Hid (lst f nn 1114112 (k + 1) = x) := by show _ = _; rw [HN.out, if_neg c]
                    clear HN
                    go_wp2
                    go_round
                    case rel => exact ⟨k + 1, by omega, by go_num, by rw [HQ.out]⟩
                    case measure => simp [intOf]; omega
                · obtain rfl : k = n := by omega
                  have HM := hide (lst_spec (n := nn) (m := 1114112) (fun i hi => (HF.out i hi).2) (by omega) HX.out)
                  generalize lst f nn 1114112 k = m at *
                  obtain ⟨m0, m1, m2, p0, p1, hIB⟩ := HOB.out.into HK20.out hlt (fun i hi => (HF.out i hi).2) HM.out
                  have HIB := hide hIB
                  have d0 := HOB.out.d0
                  have d1 := HOB.out.d1
                  have HST : Hid (∀ (s2 : PS), s2 = pinF N.length m f k ⟨sh, sd + (m - nn) * ((sh : Int) + 1), sb, so⟩ → InB f k m k s2 → ∃ G, k - s2.h ≤ G ∧ R = pout N.length k f G ⟨s2.h, s2.d + 1, s2.b, s2.o⟩ (m + 1)) := by
                    intro s2 h2 B2
                    obtain ⟨G, h3, h4⟩ := pout_step HK20.out HFF.out HOB.out hlt (fun i hi => (HF.out i hi).2) HM.out h2 B2
                    exact ⟨G, h3, by rw [← HP.out, h4]⟩
                  have HSM : Hid (∀ s2 : PS, InB f k m k s2 → sh < s2.h) := by
                    intro s2 B2
                    obtain ⟨i, i1, i2⟩ := HM.out.at'
                    have := B2.h
                    have := cntE_pos i1 i2
                    have := cnt_gap HM.out.ge HM.out.gap
                    have := HOB.out.h
                    simp only at *
                    omega
                  clear hIB HX HOB HFF HP HM
                  simp only at d0 d1
                  generalize hPP : (m - nn) * ((sh : Int) + 1) = P at *
                  have w1 : wrap64 P = P := by unfold wrap64; omega
                  have w2 : wrap64 (sd + P) = sd + P := by unfold wrap64; omega
                  go_wp2
                  go_loopw [4, 8, 9, 10, 13] (fun v d b h i wr => ∃ (j : Nat) (s : PS), j ≤ k ∧ i = .int .i64 j ∧ d = .int .i64 s.d ∧ b = .int .i64 s.b ∧ h = .int .i64 (s.h : Int) ∧ s = pinF N.length m f j ⟨sh, sd + P, sb, so⟩ ∧ InB f k m j s ∧ wr.ownsRow w.heap.size 5 1 v s.o.length (bys s.o) ∧ Ext w wr) (fun _ _ _ _ i _ => k - (intOf i).toNat)
                  case atStart => exact ⟨0, ⟨sh, sd + P, sb, so⟩, Nat.zero_le _, rfl, rfl, rfl, rfl, rfl, HIB.out, HO.out, HE.out⟩
                  case round =>
                    clear HIB HO HE hsw w1 w2 hPP
                    obtain ⟨j, s, hj, rfl, rfl, rfl, rfl, hpin, hIB, hO, hE⟩ := hrel
                    have HIB := hide hIB
                    have HO := hide hO
                    have HE := hide hE
                    have Hpin := hide hpin
                    clear hIB hO hE hpin
                    have e0 := HIB.out.d0
                    have e1 := HIB.out.d1
                    have eb0 := HIB.out.b0
                    have eb1 := HIB.out.b1
                    have el := HIB.out.l1
                    have eh : s.h ≤ 20 := by have := HIB.out.h; have := cnt_cntE_le f m k; have : cntE f m j ≤ cntE f m k := cntE_mono f m hj; omega
                    by_cases hjl : j < k
                    · have hjn : (j : Int) < (k : Int) := by omega
                      have hc := (hs.of_all HE.out).cell j hjl
                      have HNB := hide (HIB.out.step (basic := N.length) m0 m1 HK20.out hjl)
                      have HNP : Hid (pin N.length m (f j) s = pinF N.length m f (j + 1) ⟨sh, sd + P, sb, so⟩) := by show _ = _; rw [pinF, ← Hpin.out]
                      obtain ⟨q, hq⟩ : ∃ q, q = pin N.length m (f j) s := ⟨_, rfl⟩
                      rw [← hq] at HNB HNP
                      clear HIB Hpin
                      by_cases c0 : f j = m
                      · have hqq : q = ⟨s.h + 1, 0, pbias s.d (s.h + 1) (s.h == N.length), s.o ++ dgs s.b s.d⟩ := by rw [hq, pin, if_pos c0]
                        have HQ := hide hqq
                        have x1 : ¬ f j < m := by omega
                        have x2 : (f j != m) = false := by simp [c0]
                        have hbq : ((s.h : Int) == (N.length : Int)) = (s.h == N.length) := by
                          cases e : (s.h == N.length)
                          · simp at e ⊢; omega
                          · simp at e ⊢; omega
                        have HBi : Hid (∀ w, Calls Try.prog 21 #[.int .i64 s.d, .int .i64 ((s.h : Int) + 1), .bool (s.h == N.length)] w fun e w' => e = .returned (.int .i64 (pbias s.d ((s.h : Int) + 1) (s.h == N.length))) ∧ w' = w) := fun w => l8Bias_any s.d ((s.h : Int) + 1) (s.h == N.length) e0 (by omega) (by omega) (by omega) w
                        have HTh : Hid (∀ c, 0 ≤ c → c ≤ 4000000000 → ∀ w, Calls Try.prog 20 #[.int .i64 c, .int .i64 s.b] w fun e w' => e = .returned (.int .i64 (thr c s.b)) ∧ w' = w) := fun c h0 h1 w => l8Threshold_any c s.b h0 h1 eb0 (by omega) w
                        generalize (s.h == N.length) = bq at *
                        clear hqq hq
                        have Hc0 := hide c0
                        clear c0
                        obtain ⟨sh', sd', sb', so'⟩ := s
                        simp only at e0 e1 eb0 eb1 el eh HQ hbq HBi HTh HO
                        generalize pbias sd' ((sh' : Int) + 1) bq = PB at *
                        go_wp2
                        go_loopw [4, 14, 15] (fun v z c wr => ∃ (F : Nat) (x y : Int) (L : List Int), z = .int .i64 x ∧ c = .int .i64 y ∧ x.toNat < F ∧ 0 ≤ x ∧ 36 ≤ y ∧ y + 36 * x ≤ 36 + 36 * sd' ∧ (L.length : Int) + x ≤ so'.length + sd' ∧ L ++ pdig sb' F y x = so' ++ dgs sb' sd' ∧ wr.ownsRow w.heap.size 5 1 v L.length (bys L) ∧ Ext w wr) (fun _ z _ _ => (intOf z).toNat)
                        case atStart => exact ⟨sd'.toNat + 1, sd', 36, so', rfl, rfl, Nat.lt_succ_self _, e0, by omega, by omega, by omega, rfl, HO.out, HE.out⟩
                        case round =>
                          clear HO HE
                          obtain ⟨F2, x, y, L, rfl, rfl, hF2, xx0, y0, y1, hL, hA, hO, hE⟩ := hrel
                          have HO := hide hO
                          have HE := hide hE
                          have HA := hide hA
                          have HM2 : Hid (x < thr y sb' → pdig sb' F2 y x = [pd x]) := fun h => pdig_last hF2 h
                          have HR2 : Hid (¬ x < thr y sb' → ∃ G, ((x - thr y sb') / (36 - thr y sb')).toNat < G ∧ pdig sb' F2 y x = pd (thr y sb' + (x - thr y sb') % (36 - thr y sb')) :: pdig sb' G (y + 36) ((x - thr y sb') / (36 - thr y sb'))) := fun h => pdig_more hF2 h
                          have t1 := thr_ge y sb'
                          have t2 := thr_le y sb'
                          have HT2 := hide (HTh.out y (by omega) (by omega))
                          have Hel := hide el
                          clear hO hE hA hF2 el
                          generalize thr y sb' = T at *
                          have hLL : L.length ≤ 900000000 := by have := Hel.out; omega
                          by_cases hz : x < T
                          · have HX2 : Hid (L ++ [pd x] = so' ++ dgs sb' sd') := by show _ = _; rw [← HA.out, HM2.out hz]
                            clear HM2 HR2 HA
                            go_wp2_with (first | (go_at_call 20; refine (HT2.out _).mono ?_; rintro e w3 ⟨rfl, hw⟩; obtain rfl := hw.symm) | (go_at_call 36; refine (l8PunyDigit_any x xx0 (by omega) _).mono ?_; rintro e w3 ⟨rfl, hw⟩; obtain rfl := hw.symm) | (at_builtin; refine wpList_append_own _ rfl _ _ 28 rfl w.heap.size 5 i0 (.int .u8 0) 1 1 Try.underlying28 hi hz0 hz1 hz2 rfl (by decide) _ _ _ rfl (HO.out.alloc _) ⟨wr.heap.size, 0, none⟩ 1 1 [.int .u8 (pd x)] rfl rfl (cell_one_new _ _ _) (bys_one _) (by unfold maxLen; omega) (by omega) (by have := Below.size HE.out; simp; omega) ?_; intro v' w4 hown' hgrow hnil))
                            have HN2 := hide (bys_step HO.out HE.out hown' hgrow)
                            clear hown' hgrow hnil
                            rw [HX2.out] at HN2
                            go_wp2_with (go_at_call 21; refine (HBi.out _).mono ?_; rintro e w3 ⟨rfl, hw⟩; obtain rfl := hw.symm)
                            go_roundw
                            case rel =>
                              have hqx := HQ.out
                              exact ⟨j + 1, q, by omega, by go_num, by rw [hqx], by rw [hqx], by rw [hqx]; go_num, HNP.out, HNB.out, by rw [hqx]; exact HN2.out.1, HN2.out.2⟩
                            case measure => simp [intOf]; omega
                          · obtain ⟨G, hG, he⟩ := HR2.out hz
                            obtain ⟨r0, r1⟩ := rem_dig t1 t2 hz
                            obtain ⟨q1', q2'⟩ := quo_less t1 t2 (Int.not_lt.1 hz)
                            have HX2 : Hid ((L ++ [pd (T + (x - T) % (36 - T))]) ++ pdig sb' G (y + 36) ((x - T) / (36 - T)) = so' ++ dgs sb' sd') := by
                              show _ = _
                              rw [← HA.out, he, List.append_assoc]
                              rfl
                            have HG := hide hG
                            have mm1 : (x - T).tmod (36 - T) = (x - T) % (36 - T) := Int.tmod_eq_emod_of_nonneg (by omega)
                            have mm2 : (x - T).tdiv (36 - T) = (x - T) / (36 - T) := Int.tdiv_eq_ediv_of_nonneg (by omega)
                            have mm3 : (36 - T == 0) = false := by simp; omega
                            clear HM2 HR2 HA he hG
                            generalize (x - T) % (36 - T) = r at *
                            generalize (x - T) / (36 - T) = z at *
                            have mm4 : wrap64 r = r := by unfold wrap64; omega
                            have mm5 : wrap64 z = z := by unfold wrap64; omega
                            have mm6 : wrap64 (T + r) = T + r := by unfold wrap64; omega
                            go_wp2_with (first | (go_at_call 20; refine (HT2.out _).mono ?_; rintro e w3 ⟨rfl, hw⟩; obtain rfl := hw.symm) | (go_at_call 36; refine (l8PunyDigit_any (T + r) (by omega) r1 _).mono ?_; rintro e w3 ⟨rfl, hw⟩; obtain rfl := hw.symm) | (at_builtin; refine wpList_append_own _ rfl _ _ 28 rfl w.heap.size 5 i0 (.int .u8 0) 1 1 Try.underlying28 hi hz0 hz1 hz2 rfl (by decide) _ _ _ rfl (HO.out.alloc _) ⟨wr.heap.size, 0, none⟩ 1 1 [.int .u8 (pd (T + r))] rfl rfl (cell_one_new _ _ _) (bys_one _) (by unfold maxLen; omega) (by omega) (by have := Below.size HE.out; simp; omega) ?_; intro v' w4 hown' hgrow hnil))
                            have HN2 := hide (bys_step HO.out HE.out hown' hgrow)
                            clear hown' hgrow hnil
                            go_wp2
                            go_roundw
                            case rel => exact ⟨G, z, y + 36, L ++ [pd (T + r)], rfl, by go_num, HG.out, q1', by omega, by omega, by simp only [List.length_append, List.length_singleton]; omega, HX2.out, HN2.out.1, HN2.out.2⟩
                            case measure => simp [intOf]; omega
                      · by_cases c1 : f j < m
                        · have hqq : q = ⟨s.h, s.d + 1, s.b, s.o⟩ := by rw [hq, pin, if_neg c0, if_pos c1]
                          have x2 : (f j != m) = true := by simp [c0]
                          have HQ := hide hqq
                          clear hqq hq
                          obtain ⟨sh', sd', sb', so'⟩ := s
                          simp only at e0 e1 HQ HO
                          have w9 : wrap64 (sd' + 1) = sd' + 1 := by unfold wrap64; omega
                          go_wp2
                          go_roundw
                          case rel =>
                            have hqx := HQ.out
                            exact ⟨j + 1, q, by omega, by go_num, by rw [hqx], by rw [hqx], by rw [hqx], HNP.out, HNB.out, by rw [hqx]; exact HO.out, HE.out⟩
                          case measure => simp [intOf]; omega
                        · have hqq : q = s := by rw [hq, pin, if_neg c0, if_neg c1]
                          have x2 : (f j != m) = true := by simp [c0]
                          subst hqq
                          clear hq
                          go_wp2
                          go_roundw
                          case rel => exact ⟨j + 1, q, by omega, by go_num, rfl, rfl, rfl, HNP.out, HNB.out, HO.out, HE.out⟩
                          case measure => simp [intOf]; omega
                    · obtain rfl : j = k := by omega
                      obtain ⟨G, hG, hR⟩ := HST.out s Hpin.out HIB.out
                      have HG := hide hG
                      have HR := hide hR
                      have HOB2 := hide (HIB.out.out HK20.out m0 m1)
                      have HS2 := hide (HSM.out s HIB.out)
                      clear hG hR HST HSM HIB Hpin
                      obtain ⟨sh', sd', sb', so'⟩ := s
                      simp only at HG HR HOB2 HO HS2 e0 e1
                      have w9 : wrap64 (sd' + 1) = sd' + 1 := by unfold wrap64; omega
                      go_wp2
                      go_roundw
                      case rel => exact ⟨G, ⟨sh', sd' + 1, sb', so'⟩, m + 1, by go_num, rfl, rfl, rfl, HOB2.out, HG.out, HR.out.symm, HO.out, HE.out⟩
                      case measure => simp [intOf]; have := HS2.out; omega
            · have hln : ¬ (sh : Int) < (n : Int) := by omega
              have hend : so = R := by have h := HP.out; rw [pout_end (by simpa using hlt)] at h; exact h
              subst hend
              obtain ⟨va, vg, vc, rfl, hvg, hvn, hvc, hvB⟩ := owns_seg (f := fun i => so.getD i 0) (by rw [← bys_byts]; exact HO.out)
              have hcv := conv_seg (cap := vc) hvB.toBSeg
              rw [nums_list] at hcv
              clear hvg hvn hvc hvB HO
              go_wp2
              go_ret2
              exact ⟨HV.out, HE.out⟩

end Go.Proofs.Ytjpdllhhganbpaa
