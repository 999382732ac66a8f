/- Walks: near numbers, a delta read. -/
import Derived.Test.YtjpdllhhganbpaaRpa
import Derived.Test.YtjpdllhhganbpaaPnI
namespace Go.Proofs.Ytjpdllhhganbpaa
set_option linter.unusedVariables false
set_option linter.unusedSimpArgs false
open Go.RowKit Go.Sort

theorem wl_step {L : List Int} {B : Nat} {w wr w1 : World} {v v' : Value} {o : Obj} {x : Int} (hO : wr.ownsRow B 3 1 v L.length (wl L)) (hE : Ext w wr) (hB : w.heap.size ≤ B)
    (hown : w1.ownsRow B 3 1 v' (L.length + 1) (wl L ++ [.int .i64 x])) (hg : (wr.alloc o).grownBy w1 v.ownBlock) : w1.ownsRow B 3 1 v' (L ++ [x]).length (wl (L ++ [x])) ∧ Ext w w1 := by
  refine ⟨?_, (Below.alloc hE (Below.size hE) o).grown hg (by have := Below.size hE; simp; omega) (fun j hj => by have := (hO.lt j hj).1; omega)⟩
  simpa [wl] using hown

def NearG (w : World) (t : ByteArray) (e : Ending) (w' : World) : Prop := ∃ (L : List Int) (v : Value), e = .returned v ∧ L.length ≤ t.size ∧ ((∀ j, j < t.size → bt t j < 128) → L = btl t t.size) ∧ w'.ownsRow w.heap.size 3 1 v L.length (wl L) ∧ Ext w w'

set_option maxHeartbeats 1600000 in
set_option maxRecDepth 100000 in
theorem nearNumbers_any (s : ByteArray) (hs : s.size ≤ 60) (w : World) :
    Calls Try.prog 23 #[.string s] w fun e w' => NearG w s e w' := by
  obtain ⟨i0, hi, hz0, hz1, hz2⟩ := info_parts Try.info3
  have hO0 := World.ownsRow_made (base := w.heap.size) (e := 3) (size := 1) w #[] 0 (Nat.le_refl _) (by simp) rfl
  have HO := hide (hO0.alloc (.stringIter s 0))
  have HI := hide (Itr.start (Ext.alloc w (.cells #[] 3)) s)
  clear hO0
  go_enter Try.func23, Try.ntmps23
  go_wp2
  go_loopw [3] (fun v wr => ∃ p : Nat, p ≤ s.size ∧ Itr w wr (w.heap.size + 1) s p ∧ ∃ L : List Int, L.length ≤ p ∧ wr.ownsRow w.heap.size 3 1 v L.length (wl L) ∧ ((∀ j, j < p → bt s j < 128) → L = btl s p)) (fun _ wr => s.size - wr.iterPos (w.heap.size + 1))
  case atStart =>
    have hI := HI.out
    rw [show (w.alloc (.cells #[] 3)).heap.size = w.heap.size + 1 by simp] at hI
    exact ⟨0, Nat.zero_le _, hI, [], Nat.le_refl _, HO.out, fun _ => rfl⟩
  case round =>
    clear HO HI
    obtain ⟨p, hp, hI, L, hal, hO, hP⟩ := hrel
    have HP := hide hP
    have Hal := hide hal
    clear hP hal
    by_cases hlt : p < s.size
    · obtain ⟨r, q, hR⟩ := rn_at s p hlt
      have hnx : ∀ ty, (Instr.next (.pointer (some ⟨w.heap.size + 1, 0, none⟩)) true ty).run Try.prog wr = _ := fun ty => hR.next hI.blk hlt ty
      have HM : Hid (wr.iterPos (w.heap.size + 1) = p) := hI.pos
      have HR := hide hR
      have h2 := hR.le
      have HI := hide (hI.step (p + q))
      have HO := hide (own_iterAt hO hI.blk (p + q))
      clear hI hR hO
      generalize wr.iterAt (w.heap.size + 1) s (p + q) = w2 at *
      have HX : Hid ((∀ j, j < p + q → bt s j < 128) → L ++ [(r : Int)] = btl s (p + q)) := by
        intro hj
        have hL := HP.out (fun j h => hj j (by omega))
        by_cases h6 : r < 128
        · obtain ⟨rfl, h7⟩ := HR.out.low h6
          rw [btl_succ, hL, h7]
        · have h8 := HR.out.high (by omega) p (Nat.le_refl _) (by have := HR.out.pos; omega)
          have h9 := hj p (by have := HR.out.pos; omega)
          omega
      go_wp2_with (at_builtin; refine wpList_append_own _ rfl _ _ 22 rfl w.heap.size 3 i0 (.int .i64 0) 1 8 Try.underlying22 hi hz0 hz1 hz2 rfl (by decide) _ _ _ rfl (HO.out.alloc _) ⟨w2.heap.size, 0, none⟩ 1 1 [.int .i64 (r : Int)] rfl rfl (cell_one_new _ _ _) (wl_one [(r : Int)]) (by have := Hal.out; unfold maxLen; omega) (by have := Hal.out; omega) (by have := Below.size HI.out.ext; simp; omega) ?_; intro v' w1 hown' hgrow hnil)
      have HN := hide (wl_step HO.out HI.out.ext (Nat.le_refl _) hown' hgrow)
      have HI2 := hide (HI.out.grown HO.out (Nat.le_refl _) hgrow)
      clear hown' hgrow hnil
      go_wp2
      go_roundw
      case rel => exact ⟨p + q, HR.out.fits, HI2.out, L ++ [(r : Int)], by have := Hal.out; have := HR.out.pos; simp; omega, HN.out.1, HX.out⟩
      case measure => rw [HM.out, HI2.out.pos]; have := HR.out.pos; omega
    · obtain rfl : p = s.size := by omega
      have hnx : ∀ ty, (Instr.next (.pointer (some ⟨w.heap.size + 1, 0, none⟩)) true ty).run Try.prog wr = _ := fun ty => Lib.run_next_end_at wr (w.heap.size + 1) s s.size ty hI.blk hlt
      have HE := hide hI.ext
      have HO := hide hO
      clear hI hO
      go_wp2
      go_ret
      exact ⟨L, _, rfl, Hal.out, HP.out, HO.out, HE.out⟩

theorem dg_yes {x : Int} (h : ¬ pv x < 0) : dgV x = pv x ∧ dgO x = true := by
  unfold dgV dgO
  rw [if_neg h]
  exact ⟨rfl, decide_eq_true (by omega)⟩
theorem dg_no {x : Int} (h : pv x < 0) : dgV x = 0 ∧ dgO x = false := by
  unfold dgV dgO
  rw [if_pos h]
  exact ⟨rfl, decide_eq_false (by omega)⟩

theorem psP_iter {w : World} {K k : Nat} {a b c : Int} {s : ByteArray} {p : Nat} (h : psP w K a b c) (hne : K ≠ k) : psP (w.iterAt k s p) K a b c := by
  show _ = _
  rw [Lib.iterAt_other _ _ _ _ _ hne]
  exact h

set_option maxHeartbeats 3200000 in
set_option maxRecDepth 100000 in
theorem readDelta_any (near told bias : Int) (hb0 : 0 ≤ bias) (hb1 : bias ≤ 4000000000) (r : ByteArray) (g : Nat → Int) (N p0 : Nat) (hrs : p0 + r.size = N) (hN : N ≤ 60) (hg : ∀ i, i < r.size → (bt r i : Int) = g (p0 + i)) (w : World) :
    Calls Try.prog 25 #[psV near told bias, .string r] w fun e w' => e = .returned (.tuple #[.int .i64 (rdD (rdP g N bias (N - p0 + 1) p0 36 0 1)), .int .i64 (rdZ p0 (rdP g N bias (N - p0 + 1) p0 36 0 1))]) ∧ Ext w w' := by
  have HG := hide hg
  have HR0 : Hid (rdP g N bias (N - p0 + 1) p0 36 0 1 = rdP g N bias (N - p0 + 1) p0 36 0 1) := rfl
  generalize hR : rdP g N bias (N - p0 + 1) p0 36 0 1 = R at *
  have HR := hide hR
  clear hR HR0 hg
  have HT : Hid (∀ (j : Nat), j ≤ 100000000 → ∀ w, Calls Try.prog 45 #[.agg #[.int .i64 near, .int .i64 told, .int .i64 bias], .int .i64 (j : Int)] w fun e w' => e = .returned (.int .i64 (thr (36 * (j + 1)) bias)) ∧ Ext w w') := fun j hj w => threshold_any near told bias j hb0 hb1 hj w
  unfold psV
  have HP0 : Hid (psP ((w.alloc (.cells #[.int .i64 near, .int .i64 told, .int .i64 bias] 42)).alloc (.stringIter r 0)) w.heap.size near told bias) := psP_ext (heap_alloc_new _ _) (Ext.alloc _ _)
  have HI := hide (Itr.start (Ext.alloc w (.cells #[.int .i64 near, .int .i64 told, .int .i64 bias] 42)) r)
  go_enter Try.func25, Try.ntmps25
  go_wp2
  go_loopw [6, 7] (fun dv wv wr => ∃ (F j : Nat) (D W : Int), j ≤ r.size ∧ dv = .int .i64 D ∧ wv = .int .i64 W ∧ N - (p0 + j) < F ∧ PW D W ∧ D ≤ 22282220 ∧ rdP g N bias F (p0 + j) (36 * ((j : Int) + 1)) D W = R ∧ Itr w wr (w.heap.size + 1) r j ∧ psP wr w.heap.size near told bias) (fun _ _ wr => r.size - wr.iterPos (w.heap.size + 1))
  case atStart =>
    have hI := HI.out
    rw [show (w.alloc (.cells #[.int .i64 near, .int .i64 told, .int .i64 bias] 42)).heap.size = w.heap.size + 1 by simp] at hI
    exact ⟨N - p0 + 1, 0, 0, 1, Nat.zero_le _, rfl, rfl, by omega, PW.start, by omega, HR.out, hI, HP0.out⟩
  case round =>
    clear HI HP0 HR
    obtain ⟨F, j, D, W, hj, rfl, rfl, hF, hPW, hD, hR, hI, hP⟩ := hrel
    have HR := hide hR
    have HF := hide hF
    have HPW := hide hPW
    have d0 := hPW.d0
    have w1 := hPW.w1
    have w2 : W ≤ 800000000 := by have := hPW.le; omega
    clear hR hF hPW
    by_cases hlt : j < r.size
    · obtain ⟨c, q, hRn⟩ := rn_at r j hlt
      have hnx : ∀ ty, (Instr.next (.pointer (some ⟨w.heap.size + 1, 0, none⟩)) true ty).run Try.prog wr = _ := fun ty => hRn.next hI.blk hlt ty
      have HM : Hid (wr.iterPos (w.heap.size + 1) = j) := hI.pos
      have h2 := hRn.le
      have HRn := hide hRn
      have HI := hide (hI.step (j + q))
      have HP := hide (psP_iter (s := r) (p := j + q) hP (show w.heap.size ≠ w.heap.size + 1 by omega))
      have HDg : Hid (∀ w, Calls Try.prog 44 #[.int .i32 (c : Int)] w fun e w' => e = .returned (.tuple #[.int .i64 (dgV c), .bool (dgO c)]) ∧ w' = w) := fun w => digitOf_any c h2 w
      have HX : Hid (g (p0 + j) = (bt r j : Int)) := (HG.out j hlt).symm
      clear hI hRn hP
      generalize wr.iterAt (w.heap.size + 1) r (j + q) = w2 at *
      by_cases hneg : pv (c : Int) < 0
      · obtain ⟨v1, v2⟩ := dg_no hneg
        have HN : Hid (R = none) := by
          show _ = _
          rw [← HR.out]
          refine rdP_no (.inl ?_)
          rw [HX.out]
          by_cases h6 : c < 128
          · rw [← (HRn.out.low h6).2]; exact hneg
          · exact pv_high (by have := HRn.out.high (by omega) j (Nat.le_refl _) (by have := HRn.out.pos; omega); omega)
        rw [v1, v2] at HDg
        have HA : Hid (Ending.returned (.tuple #[.int .i64 0, .int .i64 0]) = .returned (.tuple #[.int .i64 (rdD R), .int .i64 (rdZ p0 R)])) := by show _ = _; rw [HN.out]; rfl
        clear HR HN v1 v2
        have e1 : wrap64 D = D := by unfold wrap64; omega
        go_wp2_with (go_at_call 44; refine (HDg.out _).mono ?_; rintro e w3 ⟨rfl, hw⟩; obtain rfl := hw.symm)
        go_ret2
        exact ⟨HA.out, HI.out.ext⟩
      · obtain ⟨v1, v2⟩ := dg_yes hneg
        have hc : c < 128 := by
          by_cases h6 : c < 128
          · exact h6
          · have := pv_high (x := (c : Int)) (by omega); omega
        obtain ⟨hq, hcb⟩ := HRn.out.low hc
        subst hq
        have HV : Hid (pv (g (p0 + j)) = pv (c : Int)) := by show _ = _; rw [HX.out, hcb]
        rw [v1, v2] at HDg
        have hlt36 := pv_lt (c : Int)
        clear v1 v2 hcb HX HRn
        generalize pv (c : Int) = d at *
        have hmm := HPW.out.mul (d := d) (by omega) (by omega)
        have e1 : wrap64 (d * W) = d * W := by unfold wrap64; omega
        have e2 : wrap64 (D + d * W) = D + d * W := by unfold wrap64; omega
        by_cases hbig : 22282220 < D + d * W
        · have HN : Hid (R = none) := by
            show _ = _
            rw [← HR.out]
            exact rdP_no (.inr (by rw [HV.out]; exact hbig))
          have HA : Hid (Ending.returned (.tuple #[.int .i64 0, .int .i64 0]) = .returned (.tuple #[.int .i64 (rdD R), .int .i64 (rdZ p0 R)])) := by show _ = _; rw [HN.out]; rfl
          clear HR HN
          go_wp2_with (go_at_call 44; refine (HDg.out _).mono ?_; rintro e w3 ⟨rfl, hw⟩; obtain rfl := hw.symm)
          go_ret2
          exact ⟨HA.out, HI.out.ext⟩
        · have HT1 := hide (HT.out j (by omega))
          have t1 := thr_ge (36 * ((j : Int) + 1)) bias
          have t2 := thr_le (36 * ((j : Int) + 1)) bias
          have HL : Hid (d < thr (36 * ((j : Int) + 1)) bias → R = some (D + d * W, p0 + j + 1)) := by
            intro ht
            rw [← HR.out, rdP_last HF.out (by omega) (by rw [HV.out]; omega) (by rw [HV.out]; exact ht), HV.out]
          have HMo : Hid (¬ d < thr (36 * ((j : Int) + 1)) bias → ∃ G, N - (p0 + j + 1) < G ∧ R = rdP g N bias G (p0 + j + 1) (36 * ((j : Int) + 1) + 36) (D + d * W) (W * (36 - thr (36 * ((j : Int) + 1)) bias)) ∧ PW (D + d * W) (W * (36 - thr (36 * ((j : Int) + 1)) bias))) := by
            intro ht
            obtain ⟨G, hG, he⟩ := rdP_more (g := g) (b := bias) (k := 36 * ((j : Int) + 1)) (D := D) (W := W) HF.out (by omega) (by rw [HV.out]; omega) (by rw [HV.out]; exact ht)
            rw [HV.out] at he
            exact ⟨G, hG, by rw [← HR.out]; exact he, HPW.out.next (by omega) t1 t2 ht⟩
          generalize thr (36 * ((j : Int) + 1)) bias = T at *
          clear HR HPW HF
          have HE0 := hide HI.out.ext
          obtain ⟨cc0, cc1, cc2, cf0, cf1, cf2⟩ := psP_cells HP.out
          by_cases ht : d < T
          · have HA : Hid (Ending.returned (.tuple #[.int .i64 (D + d * W), .int .i64 ((j : Int) + 1)]) = .returned (.tuple #[.int .i64 (rdD R), .int .i64 (rdZ p0 R)])) := by
              show _ = _
              rw [HL.out ht]
              have e : (((p0 + j + 1 : Nat) : Int) - p0) = (j : Int) + 1 := by omega
              simp only [rdD, rdZ, e]
            clear HL HMo
            go_wp2_with (first | (go_at_call 44; refine (HDg.out _).mono ?_; rintro e w3 ⟨rfl, hw⟩; obtain rfl := hw.symm) | (go_at_call 45; refine (HT1.out _).mono ?_; rintro e w4 ⟨rfl, hE⟩; have HE := hide hE; clear hE))
            go_ret2
            exact ⟨HA.out, Ext.trans HE0.out HE.out⟩
          · obtain ⟨G, hG, he, hpw⟩ := HMo.out ht
            have HGG := hide hG
            have Hee := hide he
            have Hpw := hide hpw
            have m1 : 0 ≤ W * (36 - T) := by have := hpw.w1; omega
            have m2 : W * (36 - T) ≤ W * 35 := Int.mul_le_mul_of_nonneg_left (by omega) (by omega)
            have e3 : wrap64 (W * (36 - T)) = W * (36 - T) := by unfold wrap64; omega
            clear HL HMo hG he hpw m1 m2
            go_wp2_with (first | (go_at_call 44; refine (HDg.out _).mono ?_; rintro e w3 ⟨rfl, hw⟩; obtain rfl := hw.symm) | (go_at_call 45; refine (HT1.out _).mono ?_; rintro e w4 ⟨rfl, hE⟩; have HE := hide hE; clear hE))
            have HI4 : Hid (Itr w w4 (w.heap.size + 1) r (j + 1)) := ⟨(Below.block HE.out _ (Array.getElem?_eq_some_iff.1 HI.out.blk).1).trans HI.out.blk, HI.out.ge, Ext.trans HI.out.ext HE.out⟩
            go_roundw
            case rel => exact ⟨G, j + 1, D + d * W, W * (36 - T), by omega, rfl, by rw [e3], by rw [show p0 + (j + 1) = p0 + j + 1 by omega]; exact HGG.out, Hpw.out, by omega, by rw [show p0 + (j + 1) = p0 + j + 1 by omega, show 36 * (((j + 1 : Nat) : Int) + 1) = 36 * ((j : Int) + 1) + 36 by omega]; exact Hee.out.symm, HI4.out, psP_ext HP.out HE.out⟩
            case measure => rw [HM.out, HI4.out.pos]; omega
    · obtain rfl : j = r.size := by omega
      have hnx : ∀ ty, (Instr.next (.pointer (some ⟨w.heap.size + 1, 0, none⟩)) true ty).run Try.prog wr = _ := fun ty => Lib.run_next_end_at wr (w.heap.size + 1) r r.size ty hI.blk hlt
      have HN : Hid (R = none) := by show _ = _; rw [← HR.out]; exact rdP_end (by omega)
      have HA : Hid (Ending.returned (.tuple #[.int .i64 0, .int .i64 0]) = .returned (.tuple #[.int .i64 (rdD R), .int .i64 (rdZ p0 R)])) := by show _ = _; rw [HN.out]; rfl
      have HE := hide hI.ext
      clear hI hP HR HN
      go_wp2
      go_ret2
      exact ⟨HA.out, HE.out⟩

end Go.Proofs.Ytjpdllhhganbpaa
