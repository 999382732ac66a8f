/- Walks: ReadPuny of the program. -/
import Derived.Test.YtjpdllhhganbpaaRpb
namespace Go.Proofs.Ytjpdllhhganbpaa
set_option linter.unusedVariables false
set_option linter.unusedSimpArgs false
open Go.RowKit Go.Sort

theorem bt_ex (s : ByteArray) (a b i : Nat) (hb : b ≤ s.size) (hi : a + i < b) : bt (s.extract a b) i = bt s (a + i) := by
  have h1 : i < (s.extract a b).size := by rw [ByteArray.size_extract]; omega
  rw [← bt_get _ i h1, ← bt_get s (a + i) (by omega)]
  congr 1
  exact ByteArray.getElem_extract ..
theorem ex_ex (s : ByteArray) (p q : Nat) (h : p ≤ q) (hq : q ≤ s.size) : (s.extract p s.size).extract (q - p) (s.size - p) = s.extract q s.size := by
  rw [ByteArray.extract_extract]
  congr 1
  · omega
  · omega

/-- What ReadPuny tells. -/
def rpS (s : ByteArray) : Nat := (mkL s s.size + 1).toNat
def rpR (s : ByteArray) : Option (List Int) := if s.size ≤ 60 then finO s (outM (fun i => (bt s i : Int)) s.size (mkL s s.size).toNat (s.size - rpS s + 1) (btl s (mkL s s.size).toNat) 128 0 72 (rpS s)) else none
def GivesRp (w : World) (R : Option (List Int)) (e : Ending) (w' : World) : Prop := ∃ v, e = .returned (.tuple #[v, .bool R.isSome]) ∧ w'.ownsRow w.heap.size 3 1 v (R.getD []).length (wl (R.getD [])) ∧ Ext w w'

theorem own_of_wl {w : World} {B : Nat} {v : Value} {L : List Int} (h : w.ownsRow B 3 1 v L.length (wl L)) : ∃ a g cap, v = .slice a L.length cap ∧ B ≤ g ∧ L.length ≤ cap ∧ cap ≤ 9223372036854775807 ∧ Own w a g 0 L.length (fun i => L.getD i 0) := by
  rw [wl_ints] at h
  exact iowns_seg h
theorem psP_neI {w : World} {K : Nat} {a b c : Int} {B n : Nat} {v : Value} {xs : List Value} (h : psP w K a b c) (ho : w.ownsRow B 3 1 v n xs) : some K ≠ v.ownBlock := by
  rcases ho.2 with ⟨rfl, _⟩ | ⟨g, cap, cur, rfl, hb, hg, rest⟩
  · simp [Value.ownBlock]
  · intro e
    simp only [Value.ownBlock, Option.some.injEq] at e
    subst e
    rw [h] at hg
    simp at hg
theorem ownsI_setK {w : World} {K o : Nat} {B n : Nat} {v : Value} {xs : List Value} (u : Value) (ho : w.ownsRow B 3 1 v n xs) (hK : some K ≠ v.ownBlock) : (w.setCell ⟨K, o, none⟩ u).ownsRow B 3 1 v n xs := by
  refine ⟨ho.1, ?_⟩
  rcases ho.2 with h0 | ⟨g, cap, cur, rfl, hb, hg, rest⟩
  · exact .inl h0
  · refine .inr ⟨g, cap, cur, rfl, hb, ?_, rest⟩
    rw [heap_setCell_other _ _ _ _ (fun e => hK (by rw [e]; rfl))]
    exact hg
theorem ownsI_put {w : World} {K : Nat} {a b c : Int} (u0 u1 u2 : Value) {B n : Nat} {v : Value} {xs : List Value} (ho : w.ownsRow B 3 1 v n xs) (h : psP w K a b c) : (((w.setCell ⟨K, 0, none⟩ u0).setCell ⟨K, 1, none⟩ u1).setCell ⟨K, 2, none⟩ u2).ownsRow B 3 1 v n xs :=
  ownsI_setK u2 (ownsI_setK u1 (ownsI_setK u0 ho (psP_neI h ho)) (psP_neI h ho)) (psP_neI h ho)
theorem wr64 {x : Int} (h0 : 0 ≤ x) (h1 : x ≤ 1000000000000000) : wrap64 x = x := by unfold wrap64; omega
def szS : Value → Nat
  | .string s => s.size
  | _ => 0

theorem emptyI (w w' : World) (h : Ext w w') : (w'.alloc (.cells #[] 3)).ownsRow w.heap.size 3 1 (.slice (some ⟨w'.heap.size, 0, none⟩) 0 0) 0 (wl []) :=
  World.ownsRow_made (base := w.heap.size) (e := 3) (size := 1) w' #[] 0 (Below.size h) (by simp) rfl

set_option maxHeartbeats 6400000 in
set_option maxRecDepth 100000 in
theorem implReadPuny_any (s : ByteArray) (hs : s.size ≤ 1048576) (w : World) :
    Calls Try.prog 7 #[.string s] w fun e w' => GivesRp w (rpR s) e w' := by
  by_cases h60 : s.size ≤ 60
  · have g60 : ¬ (60 : Int) < (s.size : Int) := by omega
    have HLi := hide (lastIndexByte_any s hs w)
    obtain ⟨mk0, mk1⟩ := mkL_ge s s.size
    have HRR : Hid (∀ L : List Int, ((∀ j, j < (mkL s s.size).toNat → bt s j < 128) → L = btl s (mkL s s.size).toNat) → finO s (outP (fun i => (bt s i : Int)) s.size L.length (s.size - rpS s + 1) L 128 0 72 (rpS s)) = rpR s) := by
      intro L hL
      unfold rpR
      rw [if_pos h60]
      by_cases hb : ∀ j, j < (mkL s s.size).toNat → bt s j < 128
      · rw [hL hb, btl_len]
        exact out_same _ _ _ _ _ _ (by omega) (by omega) (by omega)
      · obtain ⟨j, hj⟩ := Classical.not_forall.1 hb
        obtain ⟨hj1, hj2⟩ := Classical.not_imp.1 hj
        rw [fin_high (j := j) (by omega), fin_high (j := j) (by omega)]
    have hst : ((rpS s : Nat) : Int) = mkL s s.size + 1 := by unfold rpS; omega
    generalize rpR s = R at *
    generalize rpS s = st at *
    generalize mkL s s.size = mk at *
    obtain ⟨m, hm⟩ : ∃ m : Nat, mk.toNat = m := ⟨_, rfl⟩
    rw [hm] at HRR
    have hmn : max mk 0 = (m : Int) := by omega
    have hms : m ≤ s.size := by omega
    have hss : st ≤ s.size := by omega
    have hmst : m ≤ st := by omega
    have hmk : wrap64 (mk + 1) = (st : Int) := by unfold wrap64; omega
    have hmk2 : IntKind.i64.wrap (mk + 1) = (st : Int) := by rw [IntKind.wrap_i64]; omega
    have hc1 : (0 : Int) ≤ (m : Int) := by omega
    have hc2 : (m : Int) ≤ (s.size : Int) := by omega
    have hc3 : (0 : Int) ≤ (st : Int) := by omega
    have hc4 : (st : Int) ≤ (s.size : Int) := by omega
    have HNe := hide (fun W => nearNumbers_any (s.extract 0 m) (by rw [ByteArray.size_extract]; omega) W)
    have HNs : Hid ((s.extract 0 m).size = m) := by show _ = _; rw [ByteArray.size_extract]; omega
    have HNb : Hid (∀ j, j < m → bt (s.extract 0 m) j = bt s j) := fun j hj => by rw [bt_ex s 0 m j hms (by omega), Nat.zero_add]
    clear hst mk0 mk1 hm
    go_enter Try.func7, Try.ntmps7
    go_wp2_with (go_at_call 22; refine HLi.out.mono ?_; rintro e w1 ⟨rfl, hw⟩; obtain rfl := hw.symm)
    refine anyK_begin (fun _ => False) 11 rfl (by kernel_rfl) ?_
    refine anyK_take 0 4 7 rfl (by decide) (by kernel_rfl) (fun _ _ d _ _ h => by cases d <;> exact h) ?_
    repeat (refine headC_step (fun K hK => ?_); go_simp; first | (refine hK _ ?_; clear hK K) | (apply Exists.intro; refine ⟨fun _ => ?_, hK _ ?_⟩; (fail); clear hK K))
    refine headC_nil ?_
    refine anyK_take 5 4 3 rfl (by decide) (by kernel_rfl) (fun _ _ d _ _ h => by cases d <;> exact h) ?_
    repeat (refine headC_step (fun K hK => ?_); go_simp; first | (refine hK _ ?_; clear hK K) | (apply Exists.intro; refine ⟨fun _ => ?_, hK _ ?_⟩; (fail); clear hK K))
    refine headC_nil ?_
    refine anyK_one 4 (by kernel_rfl) ?_
    refine stepK_run rfl ?_
    intro w2 h2 K2 hK2
    go_simp
    refine (HNe.out w2).mono ?_
    rintro e w3 ⟨L0, v0, rfl, hl0, hL0, hO0, hE3⟩
    go_simp
    refine hK2 _ _ (Grw.of_ext (Ext.trans h2 hE3)) ?_
    clear hK2 K2
    have HR1 : Hid (finO s (outP (fun i => (bt s i : Int)) s.size L0.length (s.size - st + 1) L0 128 0 72 st) = R) := HRR.out L0 (fun hb => by
      have := hL0 (fun j hj => by rw [HNs.out] at hj; rw [HNb.out j hj]; exact hb j hj)
      rw [this, HNs.out]
      unfold btl
      refine List.map_congr_left (fun j hj => ?_)
      rw [HNb.out j (List.mem_range.1 hj)])
    have hl1 : L0.length ≤ st := by rw [HNs.out] at hl0; omega
    have HO3 := hide (iowns_mono hO0 (Below.size h2))
    have HE3 : Hid (Ext w w3) := Ext.trans h2 hE3
    clear hl0 hL0 hO0 hE3 h2 HNe HNs HNb HRR
    refine anyK_take 9 2 0 rfl (by decide) (by kernel_rfl) (fun _ _ d _ _ h => by cases d <;> exact h) ?_
    repeat (refine headC_step (fun K hK => ?_); go_simp; first | (refine hK _ ?_; clear hK K) | (apply Exists.intro; refine ⟨fun _ => ?_, hK _ ?_⟩; (fail); clear hK K))
    refine headC_nil ?_
    refine anyK_done (by kernel_rfl) ?_ 0
    intro w4 h4
    have HO4 := hide (iowns_ext' HO3.out h4)
    have HE4 : Hid (Ext w w4) := Ext.trans HE3.out h4
    clear h4 HO3 HE3 hmk hmk2 hmn
    obtain ⟨a0, g0, cap0, rfl, -, hcap0, hcap1, -⟩ := own_of_wl HO4.out
    clear hcap0 hcap1
    go_wp2_with fail
    refine (newPunyState_any (L0.length : Int) w4).mono ?_
    rintro e w5 ⟨rfl, hE5⟩
    unfold psV
    have HO5 := hide (World.ownsRow.alloc (iowns_ext' HO4.out hE5) (.cells #[.int .i64 (L0.length : Int), .int .i64 (L0.length : Int), .int .i64 72] 42))
    have HE5 := hide (Ext.trans (Ext.trans HE4.out hE5) (Ext.alloc w5 (.cells #[.int .i64 (L0.length : Int), .int .i64 (L0.length : Int), .int .i64 72] 42)))
    have HP5 : Hid (psP (w5.alloc (.cells #[.int .i64 (L0.length : Int), .int .i64 (L0.length : Int), .int .i64 72] 42)) w5.heap.size L0.length L0.length 72) := heap_alloc_new _ _
    have HKw : Hid (w.heap.size ≤ w5.heap.size) := Nat.le_trans (Below.size HE4.out) (Below.size hE5)
    clear hE5 HO4 HE4
    generalize hrest : s.extract st s.size = rest at *
    have Hrest := hide hrest
    clear hrest
    go_wp2
    generalize w5.heap.size = K at *
    go_loopw [5, 6, 8, 9] (fun v r nv pv' wr => ∃ (F : Nat) (L : List Int) (nn pl b : Int) (p : Nat) (x : ByteArray), st ≤ p ∧ p ≤ s.size ∧ r = .string x ∧ x = s.extract p s.size ∧ nv = .int .i64 nn ∧ pv' = .int .i64 pl ∧ 128 ≤ nn ∧ nn ≤ 128 + 30000000 * (p : Int) ∧ 0 ≤ pl ∧ pl ≤ (L.length : Int) ∧ 0 ≤ b ∧ b ≤ 2000000000 ∧ L.length ≤ p ∧ s.size - p < F ∧ finO s (outP (fun i => (bt s i : Int)) s.size L0.length F L nn pl b p) = R ∧ wr.ownsRow w.heap.size 3 1 v L.length (wl L) ∧ psP wr K L0.length L.length b ∧ Ext w wr) (fun _ r _ _ _ => szS r)
    case atStart => exact ⟨s.size - st + 1, L0, 128, 0, 72, st, rest, Nat.le_refl _, hss, rfl, Hrest.out.symm, rfl, rfl, by omega, by omega, by omega, by omega, by omega, by omega, hl1, by omega, HR1.out, HO5.out, HP5.out, HE5.out⟩
    case round =>
      clear HO5 HP5 HE5 HR1 Hrest
      obtain ⟨F, L, nn, pl, b, p, x, hp0, hp1, rfl, hx, rfl, rfl, n0, n1, pl0, pl1, b0, b1, hLp, hF, hR, hO, hP, hE⟩ := hrel
      have Hx := hide hx
      have Hxs : Hid (x.size = s.size - p) := by show _ = _; rw [hx, ByteArray.size_extract]; omega
      have HF := hide hF
      have HR := hide hR
      have HO := hide hO
      have HP := hide hP
      have HE := hide hE
      clear hx hF hR hO hP hE
      obtain ⟨va, vg, vc, rfl, hvg, hvc, hvc2, hOwn⟩ := own_of_wl HO.out
      have HOwn := hide hOwn
      clear hvg hvc hvc2 hOwn
      by_cases hlt : p < s.size
      · have hxs : (0 : Int) < (x.size : Int) := by have := Hxs.out; omega
        have HRd := hide (fun W => readDelta_any L0.length L.length b b0 (by omega) x (fun i => (bt s i : Int)) s.size p (by have := Hxs.out; omega) h60 (fun i hi => by rw [Hx.out, bt_ex s p s.size i (Nat.le_refl _) (by have := Hxs.out; omega)]) W)
        unfold psV at HRd
        obtain ⟨cc0, cc1, cc2, cf0, cf1, cf2⟩ := psP_cells HP.out
        cases hrd : rdP (fun i => (bt s i : Int)) s.size b (s.size - p + 1) p 36 0 1 with
        | none =>
          have HN : Hid (R = none) := by show _ = _; rw [← HR.out, outP_none HF.out hlt hrd]; rfl
          rw [hrd] at HRd
          simp only [rdD, rdZ] at HRd
          clear hrd HR
          go_wp2_with (go_at_call 25; refine (HRd.out _).mono ?_; rintro e w6 ⟨rfl, hE6⟩; have HE6 := hide (Ext.trans HE.out hE6); clear hE6)
          go_ret2
          refine ⟨_, by rw [HN.out]; rfl, ?_, Ext.trans HE6.out (Ext.alloc _ _)⟩
          rw [HN.out]
          exact emptyI w w6 HE6.out
        | some r =>
          obtain ⟨D, q⟩ := r
          obtain ⟨d0, d1, q0, q1⟩ := rdP_le _ _ _ _ _ PW.start hrd
          simp only at d0 d1 q0 q1
          obtain ⟨G, hG, hO2⟩ := outP_some (L := L) (n := nn) (pl := pl) (basic := L0.length) HF.out hlt hrd
          have HR2 : Hid (finO s (outP (fun i => (bt s i : Int)) s.size L0.length G (insL L ((pl + D) % ((L.length : Int) + 1)).toNat (nn + (pl + D) / ((L.length : Int) + 1))) (nn + (pl + D) / ((L.length : Int) + 1)) ((pl + D) % ((L.length : Int) + 1) + 1) (pbias D ((L.length : Int) + 1) ((L.length : Int) == (L0.length : Int))) q) = R) := by show _ = _; rw [← hO2]; exact HR.out
          have HG := hide hG
          rw [hrd] at HRd
          simp only [rdD, rdZ] at HRd
          have HBh := hide (fun W => behind_any (L0.length : Int) (L.length : Int) b D (by omega) (by omega) d0 (by omega) W)
          unfold psV at HBh
          obtain ⟨pb0, pb1⟩ := pbias_bound (d := D) (m := (L.length : Int) + 1) (b := ((L.length : Int) == (L0.length : Int))) d0 (by omega) (by omega)
          generalize pbias D ((L.length : Int) + 1) ((L.length : Int) == (L0.length : Int)) = b' at *
          clear hrd HR hO2 hG
          have m0 := Int.emod_nonneg (pl + D) (show (L.length : Int) + 1 ≠ 0 by omega)
          have m1 := Int.emod_lt_of_pos (pl + D) (show 0 < (L.length : Int) + 1 by omega)
          have k0 := Int.ediv_nonneg (show 0 ≤ pl + D by omega) (show 0 ≤ (L.length : Int) + 1 by omega)
          have k1 := Int.ediv_le_self ((L.length : Int) + 1) (show 0 ≤ pl + D by omega)
          have t1 : (pl + D).tmod ((L.length : Int) + 1) = (pl + D) % ((L.length : Int) + 1) := Int.tmod_eq_emod_of_nonneg (by omega)
          have t2 : (pl + D).tdiv ((L.length : Int) + 1) = (pl + D) / ((L.length : Int) + 1) := Int.tdiv_eq_ediv_of_nonneg (by omega)
          have t3 : ((L.length : Int) + 1 == 0) = false := by simp; omega
          obtain ⟨i, hi⟩ := Int.eq_ofNat_of_zero_le m0
          rw [hi] at m0 m1 t1 HR2
          rw [Int.toNat_natCast] at HR2
          have hiL : i ≤ L.length := by omega
          generalize hkk : (pl + D) / ((L.length : Int) + 1) = kk at *
          have HA : Hid (st ≤ q ∧ q ≤ s.size ∧ 128 ≤ nn + kk ∧ nn + kk ≤ 128 + 30000000 * (q : Int) ∧ 0 ≤ (i : Int) + 1 ∧ (i : Int) + 1 ≤ ((L.length + 1 : Nat) : Int) ∧ L.length + 1 ≤ q ∧ 0 ≤ b' ∧ b' ≤ 2000000000 ∧ (q - p) ≤ x.size ∧ 0 < q - p) := by have := Hxs.out; exact ⟨by omega, q1, by omega, by omega, by omega, by omega, by omega, pb0, pb1, by omega, by omega⟩
          obtain ⟨f1, f2, f3, f4, f5⟩ : (0 ≤ pl + D ∧ pl + D ≤ 1000000000000000) ∧ (0 ≤ nn + kk ∧ nn + kk ≤ 1000000000000000) ∧ (0 ≤ kk ∧ kk ≤ 1000000000000000) ∧ (0 ≤ (i : Int) ∧ (i : Int) ≤ 1000000000000000) ∧ (0 ≤ (i : Int) + 1 ∧ (i : Int) + 1 ≤ 1000000000000000) := by
            clear t1 t2 t3
            refine ⟨⟨by omega, by omega⟩, ⟨by omega, by omega⟩, ⟨by omega, by omega⟩, ⟨by omega, by omega⟩, ⟨by omega, by omega⟩⟩
          have hI1 : L.length ≤ 1000 := by clear t1 t2 t3; omega
          have hqp : ¬ ((q : Int) - (p : Int) = 0) := by clear t1 t2 t3; omega
          have hq1 : (q : Int) - (p : Int) = ((q - p : Nat) : Int) := by clear t1 t2 t3; omega
          have hq2 : ((q - p : Nat) : Int) ≤ (x.size : Int) := by clear t1 t2 t3; have := Hxs.out; omega
          have hz0 : 0 < q - p := by clear t1 t2 t3; omega
          have hz1 : (((q - p : Nat) : Int) == 0) = false := by clear t1 t2 t3; simp; omega
          have e5 := wr64 f5.1 f5.2
          have e1 := wr64 f1.1 f1.2
          have e2 := wr64 f2.1 f2.2
          have e3 := wr64 f3.1 f3.2
          have e4 := wr64 f4.1 f4.2
          clear f1 f2 f3 f4 f5
          have HI := hide (fun (W : World) (hO : W.ownsRow w.heap.size 3 1 (.slice va L.length vc) L.length (wl L)) (hB : w.heap.size ≤ W.heap.size) => insert_any w.heap.size L i (nn + kk) (.slice va L.length vc) W hO hB hiL hI1)
          rw [hq1] at HRd hqp
          have Hex : Hid (x.extract (q - p) x.size = s.extract q s.size) := by show _ = _; rw [Hxs.out, Hx.out]; exact ex_ex s p q (Nat.le_of_lt q0) q1
          clear hi hkk m0 m1 k0 hq1
          generalize hqq : q - p = z at *
          have Hqq := hide hqq
          clear hqq
          go_wp2_with (go_at_call 25; refine (HRd.out _).mono ?_; rintro e w6 ⟨rfl, hE6⟩; have HE6 := hide (Ext.trans HE.out hE6); have HO6 := hide (iowns_ext' HO.out hE6); have HP6 := hide (psP_ext HP.out hE6); clear hE6; obtain ⟨dc0, dc1, dc2, df0, df1, df2⟩ := psP_cells HP6.out)
          refine (HBh.out w6).mono ?_
          rintro e w7 ⟨rfl, hE7⟩
          have HE7 := hide (Ext.trans HE6.out hE7)
          have HO7 := hide (iowns_ext' HO6.out hE7)
          have HP7 := hide (psP_ext HP6.out hE7)
          clear hE7 HE6 HO6 HP6 dc0 dc1 dc2 df0 df1 df2 cc0 cc1 cc2 cf0 cf1 cf2 HE HO HP HOwn HRd HBh
          obtain ⟨dc0, dc1, dc2, df0, df1, df2⟩ := psP_cells HP7.out
          have HO8 := hide (ownsI_put (.int .i64 (L0.length : Int)) (.int .i64 ((L.length : Int) + 1)) (.int .i64 b') HO7.out HP7.out)
          have HE8 := hide (ext_put (.int .i64 (L0.length : Int)) (.int .i64 ((L.length : Int) + 1)) (.int .i64 b') HE7.out HKw.out)
          have HP8 := hide (psP_put (L0.length : Int) ((L.length : Int) + 1) b' HP7.out)
          clear HO7 HE7 HP7
          go_wp2_with fail
          have hI2 := HI.out _ HO8.out (Below.size HE8.out)
          rw [show (((w7.setCell ⟨K, 0, none⟩ (.int .i64 (L0.length : Int))).setCell ⟨K, 1, none⟩ (.int .i64 ((L.length : Int) + 1))).setCell ⟨K, 2, none⟩ (.int .i64 b')).heap.size = w7.heap.size by simp [World.setCell]] at hI2
          refine hI2.mono ?_
          rintro e w9 ⟨v', rfl, hO9, hg9⟩
          have HO9 := hide hO9
          have HP9 : Hid (psP w9 K L0.length ((L.length : Int) + 1) b') := (hg9.block K (psP_lt HP8.out) (psP_neI HP8.out HO8.out)).trans HP8.out
          have HE9 : Hid (Ext w w9) := Below.grown HE8.out hg9 (Below.size HE8.out) (fun j hj => (HO8.out.lt j hj).1)
          clear hI2 hO9 hg9 HO8 HP8 HE8 HI dc0 dc1 dc2 df0 df1 df2
          have HLn : Hid ((insL L i (nn + kk)).length = L.length + 1) := insL_len hiL _
          have hz2 : (0 : Int) ≤ (z : Int) := Int.natCast_nonneg z
          have HE2 := hide e2
          clear e1 e2 e3 e4 t1 t2 t3 k1 n0 n1 pl0 pl1 b0 b1 d0 d1 pb0 pb1 q0 q1 hLp hp0 hp1 hz1 hqp hz0 hiL hc1 hc2 hc3 hc4 hms hss hmst hl1 hs h60 g60 hxs hlt
          go_wp2
          go_roundw
          case rel =>
            obtain ⟨x1, x2, x3, x4, x5, x6, x7, x8, x9, -, -⟩ := HA.out
            refine ⟨G, insL L i (nn + kk), nn + kk, (i : Int) + 1, b', q, x.extract z x.size, x1, x2, rfl, Hex.out, by rw [HE2.out], by rw [e5], x3, x4, x5, ?_, x8, x9, ?_, HG.out, HR2.out, ?_, ?_, HE9.out⟩
            · rw [HLn.out]; exact x6
            · rw [HLn.out]; exact x7
            · rw [HLn.out]; exact HO9.out
            · rw [HLn.out]; exact HP9.out
          case measure =>
            clear e5
            simp only [szS]
            rw [ByteArray.size_extract]
            have h1 := HA.out.2.2.2.2.2.2.2.2.2
            have h2 := Hqq.out
            clear hq2 hz2
            omega
      · obtain rfl : p = s.size := by omega
        have hxs : ¬ (0 : Int) < (x.size : Int) := by have := Hxs.out; omega
        have HN : Hid (R = if (wordB L.length (fun i => L.getD i 0) && eqS (punyS L.length (fun i => L.getD i 0)) s) = true then some L else none) := by show _ = _; rw [← HR.out, outP_end HF.out hlt, finO_some]
        have HPu := hide (implPuny_any va vg 0 L.length vc (fun i => L.getD i 0) wr HOwn.out.toSeg (by omega))
        clear HR HP HF Hx
        generalize wordB L.length (fun i => L.getD i 0) = wb at *
        generalize punyS L.length (fun i => L.getD i 0) = S at *
        cases wb
        · have HN2 : Hid (R = none) := HN.out
          clear HN
          go_wp2_with (go_at_call 13; refine HPu.out.mono ?_; rintro e w6 ⟨rfl, hE6⟩; have HE6 := hide (Ext.trans HE.out hE6); clear hE6)
          go_ret2
          refine ⟨_, by rw [HN2.out]; rfl, ?_, Ext.trans HE6.out (Ext.alloc _ _)⟩
          rw [HN2.out]
          exact emptyI w w6 HE6.out
        · cases hq : eqS S s
          · have HN2 : Hid (R = none) := by show _ = _; rw [HN.out, hq]; rfl
            have hq2 : (S.toList == s.toList) = false := hq
            clear HN hq
            go_wp2_with (go_at_call 13; refine HPu.out.mono ?_; rintro e w6 ⟨rfl, hE6⟩; have HE6 := hide (Ext.trans HE.out hE6); clear hE6)
            go_ret2
            refine ⟨_, by rw [HN2.out]; rfl, ?_, Ext.trans HE6.out (Ext.alloc _ _)⟩
            rw [HN2.out]
            exact emptyI w w6 HE6.out
          · have HN2 : Hid (R = some L) := by show _ = _; rw [HN.out, hq]; rfl
            have hq2 : (S.toList == s.toList) = true := hq
            clear HN hq
            go_wp2_with (go_at_call 13; refine HPu.out.mono ?_; rintro e w6 ⟨rfl, hE6⟩; have HE6 := hide (Ext.trans HE.out hE6); have HO6 := hide (iowns_ext' HO.out hE6); clear hE6)
            go_ret2
            refine ⟨_, by rw [HN2.out]; rfl, ?_, HE6.out⟩
            rw [HN2.out]
            exact HO6.out
  · have g60 : (60 : Int) < (s.size : Int) := by omega
    have HN : Hid (rpR s = none) := by show _ = _; unfold rpR; rw [if_neg h60]
    go_enter Try.func7, Try.ntmps7
    go_wp2
    go_ret2
    refine ⟨_, by rw [HN.out]; rfl, ?_, Ext.alloc _ _⟩
    rw [HN.out]
    exact emptyI w w (Ext.refl _)

end Go.Proofs.Ytjpdllhhganbpaa
