/- Walks: the model draws a tree with a fault (l7DrawAny). -/
import Derived.Test.YtmcdikbcmikihaaDoorSq10
namespace Go.Proofs.YtmcdikbcmikihaaDoor

section
set_option linter.unusedVariables false
set_option linter.unusedSimpArgs false

open Go.RowKit

/-- An item of a drawn list. -/
structure Drj (t : It) : Prop where
  len : t.len ≤ 4001
  rng : ∀ i, i < t.len → 0 ≤ t.f i ∧ t.f i < 256

theorem Dri.drj {t : It} (h : Dri t) : Drj t := ⟨Nat.le_trans h.len (by decide), h.rng⟩

theorem drj_bare (tag kid : Int) : Drj (bare tag kid) := ⟨Nat.zero_le _, fun i hi => absurd hi (Nat.not_lt_zero _)⟩

/-- A drawn list. -/
def GivesAny (C : Nat) (a : Option Addr) (n cap : Nat) (w : World) (e : Ending) (w' : World) : Prop :=
  ∃ v L, e = .returned v ∧ LAcc (C + 1) w' v L ∧ L.length ≤ 1000 ∧ (∀ t ∈ L, Drj t) ∧ Cur w' C a n cap ∧ Below C w w'

theorem drj_at {A D : List It} {t t' : It} (h : ∀ s ∈ A ++ t :: D, Drj s) (k : Drj t') : ∀ s ∈ A ++ t' :: D, Drj s := fun s hs => by
  rcases List.mem_append.1 hs with hs | hs
  · exact h s (List.mem_append.2 (.inl hs))
  · rcases List.mem_cons.1 hs with rfl | hs
    · exact k
    · exact h s (List.mem_append.2 (.inr (List.mem_cons.2 (.inr hs))))

theorem drj_grow (tag kid : Int) (a : Option Addr) (b c : Nat) (t : It) (h : Drj t) (hl : t.len ≤ 4000) : Drj ⟨tag, kid, a, b, 0, t.len + 1, c, nfF (t.len + 1) (catF t.f t.len (fun _ => 1))⟩ :=
  ⟨by show t.len + 1 ≤ 4001; omega, fun i hi => by
    have hi' : i < t.len + 1 := hi
    show 0 ≤ nfF (t.len + 1) _ i ∧ nfF (t.len + 1) _ i < 256
    unfold nfF
    rw [getD_map hi']
    unfold catF
    split
    · exact h.rng i (by assumption)
    · show (0 : Int) ≤ 1 ∧ (1 : Int) < 256; decide⟩

theorem grw_gb {X : Nat → Prop} {C : Nat} {w w' : World} (h : w.grownBy w' (some C)) (hX : X C) : Grw X w w' := ⟨h.os, h.tape, h.output, h.size, fun k hk hn => h.block k hk (fun e => by
  have e2 : k = C := by simpa using e
  rw [e2] at hn
  exact hn hX)⟩

/-- A list without items. -/
theorem lacc_none (B : Nat) (W : World) : LAcc B W (.slice none 0 0) [] := ⟨⟨rfl, .inl ⟨rfl, rfl⟩⟩, Bods.nil _ _, fun t h => absurd h List.not_mem_nil⟩

set_option maxHeartbeats 12800000 in
set_option maxRecDepth 100000 in
theorem l7DrawAny_any (C : Nat) (a : Option Addr) (b off n cap : Nat) (f : Nat → Int) (hn : n ≤ 1048576) (w : World) (hC : Cur w C a n cap) (hK : Code w C a b off n f) (hb : 0 < n → b < C) :
    Calls Tryd.prog 38 #[.pointer (some ⟨C, 0, none⟩)] w (GivesAny C a n cap w) := by
  have HKK : Hid (∀ W, Below C w W → Code W C a b off n f) := hide (fun W h => ⟨⟨hK.seg.at', fun i hi => (World.cell?_of_block (a := ⟨b, off + i, none⟩) (h.block b (hb (by omega)))).trans (hK.seg.cell i hi)⟩, hK.byts, hK.ne⟩)
  have Hw : Hid (C ≤ w.heap.size) := hide (Nat.le_of_lt (cur_lt hC))
  have HT := hide (l7DrawTree_any C a b off n cap f hn 3 3 (.slice none 0 0) [] w rfl (by decide) ⟨lacc_none _ _, fun t h => absurd h List.not_mem_nil⟩ (by decide) hC hK hb)
  clear hC hK hb
  go_enter Tryd.func38, Tryd.ntmps38
  go_wp2_with fail
  refine HT.out.mono ?_
  rintro e w1 ⟨v, M, rfl, hA, h0, h1, hD, -, hC1, hB1⟩
  rw [List.nil_append] at hA
  have h40 : M.length ≤ 40 := h1
  obtain ⟨g, cp, rfl, hg, hgl⟩ := slc_at hA.row h0
  have HA1 := hide hA
  have HC1 := hide hC1
  have HB1 := hide hB1
  have HD4 : Hid (∀ t ∈ M, t.len ≤ 4000) := hide (fun t ht => (hD t ht).len)
  have HD := hide (fun t ht => (hD t ht).drj)
  have Hg := hide hg
  obtain ⟨N, hN⟩ : ∃ N, M.length = N := ⟨_, rfl⟩
  rw [hN] at h0 h40 HA1 ⊢
  have HN := hide hN
  have H40 := hide (And.intro h0 h40)
  clear hA hC1 hB1 hD hg h1 HT hgl hN
  go_wp2_with fail
  refine (l1Below_any C a b off n cap f (N : Int) _ HC1.out (HKK.out _ HB1.out) hn (by omega) (by omega)).mono ?_
  rintro e w2 ⟨x, rfl, x0, x1, hC2, T2⟩
  obtain ⟨k, rfl⟩ := Int.eq_ofNat_of_zero_le x0
  have HA2 := hide (HA1.out.gb (gb_touch T2))
  have HC2 := hide hC2
  have HB2 := hide (bl_gb HB1.out (gb_touch T2) Hw.out)
  clear hC2 T2 HA1 HC1 HB1 x0 h0 h40
  go_wp2_with fail
  refine (l1Below_any C a b off n cap f 25 _ HC2.out (HKK.out _ HB2.out) hn (by omega) (by omega)).mono ?_
  rintro e w3 ⟨y, rfl, y0, y1, hC3, T3⟩
  have HA3 := hide (HA2.out.gb (gb_touch T3))
  have HC3 := hide hC3
  have HB3 := hide (bl_gb HB2.out (gb_touch T3) Hw.out)
  clear hC3 T3 HA2 HC2 HB2
  obtain ⟨A, t, D, rfl, hAk⟩ : ∃ A t D, M = A ++ t :: D ∧ A.length = k := by
    have hk : k < M.length := by rw [HN.out]; omega
    exact ⟨M.take k, M[k], M.drop (k + 1), by rw [List.getElem_cons_drop, List.take_append_drop], by rw [List.length_take]; omega⟩
  have HAk := hide hAk
  clear hAk
  by_cases c0 : y = 0
  · subst c0
    clear y0 y1
    go_wp2_with fail
    refine (pick_of C a b off n cap f [-1, 31, 256, 48, 2, 63] _ _ rfl _ HC3.out (HKK.out _ HB3.out) hn (by decide) (by decide)).mono ?_
    rintro e w4 ⟨tag, -, rfl, hC4, hG4⟩
    have hA4 := HA3.out.gb hG4
    have hB4 := bl_gb HB3.out hG4 Hw.out
    have h3 := hA4.toLAcc.at3
    have ks := set_keeps (o := A.length * 3) (.int .i64 tag) hC4 hB4 Hg.out
    have hA5 := hA4.toLAcc.setTag tag
    rw [HAk.out] at h3 ks hA5
    obtain ⟨c1, -, -, f1⟩ := h3
    have fz := f1 (k * 3)
    have HR : Hid (GivesAny C a n cap w (.returned (.slice (some ⟨g, 0, none⟩) N cp)) (w4.setCell ⟨g, k * 3, none⟩ (.int .i64 tag))) := hide ⟨_, _, rfl, hA5, by have := HN.out; have := H40.out.2; simp at *; omega, drj_at HD.out ⟨(HD.out t (List.mem_append.2 (.inr (List.mem_cons.2 (.inl rfl))))).len, (HD.out t (List.mem_append.2 (.inr (List.mem_cons.2 (.inl rfl))))).rng⟩, ks.1, ks.2⟩
    clear f1 hA4 hB4 ks hA5 hC4 hG4 HA3 HC3 HB3 HD
    go_wp2
    go_ret
    exact HR.out
  by_cases c1 : y = 1
  · subst c1
    clear y0 y1 c0
    have h3 := HA3.out.toLAcc.at3
    rw [HAk.out] at h3
    obtain ⟨-, -, e2, f1⟩ := h3
    have i1 : (k : Int) < (N : Int) := by omega
    have He2 := hide (show g < w3.heap.size ∧ w3.cell? ⟨g, k * 3 + 2, none⟩ = some (.int .i64 t.kid) ∧ w3.frozen? ⟨g, k * 3 + 2, none⟩ = false from ⟨World.block_lt_of_cell? _ _ e2, e2, f1 _⟩)
    have HG3 : Hid (w3.grownBy w3 (some C)) := hide (gb_refl w3)
    clear e2 f1
    go_wp2_with fail
    refine anyK_begin (fun q => q = C ∨ q = g) 14 rfl (by kernel_rfl) ?_
    refine anyK_take 0 6 8 rfl (by decide) (by kernel_rfl) (fun _ _ d _ _ h => by cases d <;> exact h) ?_
    repeat (refine headC_step (fun K hK => ?_); go_simp; first | (refine hK _ ?_; clear hK K) | (apply Exists.intro; refine ⟨fun p => ?_, hK _ ?_⟩; (fail); clear hK K))
    refine headC_nil ?_
    refine anyK_take 7 1 7 rfl (by decide) (by kernel_rfl) (fun _ _ d _ _ h => by cases d <;> exact h) ?_
    repeat (refine headC_step (fun K hK => ?_); go_simp; first | (refine hK _ ?_; clear hK K) | (apply Exists.intro; refine ⟨fun p => ?_, hK _ ?_⟩; (fail); clear hK K))
    refine headC_nil ?_
    refine anyK_two 6 8 (by kernel_rfl) ?_ ?_
    · refine stepK_run rfl ?_
      intro w4 h4 K hKK
      have HG4 := hide (gb_trans HG3.out (gb_below h4 (Nat.le_refl _)))
      have HC4 := hide (HC3.out.of_block (h4.block C (cur_lt HC3.out)))
      have HB4 := hide (bl_gb HB3.out (gb_below h4 (Nat.le_refl _)) Hw.out)
      have cl := (World.cell?_of_block (a := ⟨g, k * 3 + 2, none⟩) (HG4.out.block g He2.out.1 (by have := Hg.out; simp; omega))).trans He2.out.2.1
      go_simp
      refine hKK _ _ (grw_gb HG4.out (.inl rfl)) ?_
      clear hKK K cl
      refine anyK_one 8 (by kernel_rfl) ?_
      refine stepK_run rfl ?_
      intro w5 h5 K hKK
      have HG5 := hide (gb_trans HG4.out (gb_below h5 (Nat.le_refl _)))
      have HC5 := hide (HC4.out.of_block (h5.block C (cur_lt HC4.out)))
      have HB5 := hide (bl_gb HB4.out (gb_below h5 (Nat.le_refl _)) Hw.out)
      go_simp
      have S5 := seg_list w5 [1, -1, 300]
      have E5 := Ext.alloc w5 (.cells #[.int .i64 1, .int .i64 (-1), .int .i64 300] 3)
      have HZ := hide (Nat.lt_of_lt_of_le (cur_lt HC4.out) (Below.size h5))
      refine hKK _ _ (grw_gb (gb_trans HG5.out (gb_below E5 (Nat.le_refl _))) (.inl rfl)) ?_
      clear hKK K
      obtain ⟨u5, hu5⟩ : ∃ z, w5.alloc (.cells #[.int .i64 1, .int .i64 (-1), .int .i64 300] 3) = z := ⟨_, rfl⟩
      have HGu5 := hide (gb_trans HG5.out (gb_below E5 (Nat.le_refl _)))
      have HCu5 := hide (HC5.out.of_block (E5.block C (cur_lt HC5.out)))
      have HBu5 := hide (bl_gb HB5.out (gb_below E5 (Nat.le_refl _)) Hw.out)
      have HS := hide S5
      have hq : (w5.alloc (.cells (([1, -1, 300] : List Int).map (Value.int .i64)).toArray 3)) = u5 := hu5
      rw [hu5] at HGu5 HCu5 HBu5
      rw [hq] at HS
      clear S5 E5 hq
      try rw [hu5]
      clear hu5
      refine anyK_one 9 (by kernel_rfl) ?_
      refine stepK_run rfl ?_
      intro w6 h6 K hKK
      have HG6 := hide (gb_trans HGu5.out (gb_below h6 (Nat.le_refl _)))
      have HC6 := hide (HCu5.out.of_block (h6.block C (cur_lt HCu5.out)))
      have HB6 := hide (bl_gb HBu5.out (gb_below h6 (Nat.le_refl _)) Hw.out)
      go_simp
      have HS2 := hide (HS.out.of_all h6)
      refine (l1PickInt_of C a b off n cap f _ _ _ _ 3 _ _ HC6.out (HKK.out _ HB6.out) hn HS2.out (by decide) (by decide) (by have := HZ.out; omega)).mono ?_
      rintro e x6 ⟨iz, -, rfl, hCx, Tx⟩
      simp only [List.getD_eq_getElem?_getD]
      generalize ([1, -1, 300] : List Int)[iz]?.getD 0 = z
      have HGx6 := hide (gb_trans HG6.out (gb_touch Tx))
      have HCx6 := hide hCx
      have HBx6 := hide (bl_gb HB6.out (gb_touch Tx) Hw.out)
      clear hCx Tx
      try go_simp
      refine hKK _ _ (grw_gb HGx6.out (.inl rfl)) ?_
      clear hKK K
      refine anyK_take 10 3 1 rfl (by decide) (by kernel_rfl) (fun _ _ d _ _ h => by cases d <;> exact h) ?_
      repeat (refine headC_step (fun K hK => ?_); go_simp; first | (refine hK _ ?_; clear hK K) | (apply Exists.intro; refine ⟨fun p => ?_, hK _ ?_⟩; (fail); clear hK K))
      refine headC_nil ?_
      refine anyK_one 13 (by kernel_rfl) ?_
      refine stepK_run rfl ?_
      intro wq hq K hKK
      have HGq := hide (gb_trans HGx6.out (gb_below hq (Nat.le_refl _)))
      have HCq := hide (HCx6.out.of_block (hq.block C (cur_lt HCx6.out)))
      have HBq := hide (bl_gb HBx6.out (gb_below hq (Nat.le_refl _)) Hw.out)
      have gsq := HGq.out.block g He2.out.1 (by have := Hg.out; simp; omega)
      have cl := (World.cell?_of_block (a := ⟨g, k * 3 + 2, none⟩) gsq).trans He2.out.2.1
      have cf := (World.frozen?_of_block (a := ⟨g, k * 3 + 2, none⟩) gsq).trans He2.out.2.2
      obtain ⟨zz, hzz⟩ : ∃ q, IntKind.i64.wrap (t.kid + z) = q := ⟨_, rfl⟩
      have hA5 := (HA3.out.toLAcc.gb HGq.out).setKid zz
      have ks := set_keeps (o := k * 3 + 2) (.int .i64 zz) HCq.out HBq.out Hg.out
      rw [HAk.out, show 3 * k = k * 3 by omega] at hA5
      have HR : Hid (GivesAny C a n cap w (.returned (.slice (some ⟨g, 0, none⟩) N cp)) (wq.setCell ⟨g, k * 3 + 2, none⟩ (.int .i64 zz))) := hide ⟨_, _, rfl, hA5, by have := HN.out; have := H40.out.2; simp at *; omega, drj_at HD.out ⟨(HD.out t (List.mem_append.2 (.inr (List.mem_cons.2 (.inl rfl))))).len, (HD.out t (List.mem_append.2 (.inr (List.mem_cons.2 (.inl rfl))))).rng⟩, ks.1, ks.2⟩
      clear hA5 ks
      try rw [hzz]
      go_simp
      try rw [hzz]
      refine hKK _ _ ((grw_gb HGq.out (.inl rfl)).trans (Grw.of_touch ((Touch.refl g wq).set _ _) (.inr rfl))) ?_
      clear hKK K cl cf gsq hzz
      refine anyK_done (by kernel_rfl) ?_ 0
      intro w9 E9
      obtain ⟨va, L5, hv5, hA5, hl5, hD5, hC5, hB5⟩ := HR.out
      have HR9 : Hid (GivesAny C a n cap w (.returned (.slice (some ⟨g, 0, none⟩) N cp)) w9) := hide ⟨va, L5, hv5, hA5.ext E9, hl5, hD5, hC5.of_block (E9.block C (cur_lt hC5)), Below.trans hB5 (E9.mono (Nat.le_of_lt (cur_lt hC5)))⟩
      clear hA5 hl5 hD5 hC5 hB5 hv5 HR E9
      go_wp2
      go_ret
      exact HR9.out
    · refine stepK_run rfl ?_
      intro w5 h5 K hKK
      have HG5 := hide (gb_trans HG3.out (gb_below h5 (Nat.le_refl _)))
      have HC5 := hide (HC3.out.of_block (h5.block C (cur_lt HC3.out)))
      have HB5 := hide (bl_gb HB3.out (gb_below h5 (Nat.le_refl _)) Hw.out)
      go_simp
      have S5 := seg_list w5 [1, -1, 300]
      have E5 := Ext.alloc w5 (.cells #[.int .i64 1, .int .i64 (-1), .int .i64 300] 3)
      have HZ := hide (Nat.lt_of_lt_of_le (cur_lt HC3.out) (Below.size h5))
      refine hKK _ _ (grw_gb (gb_trans HG5.out (gb_below E5 (Nat.le_refl _))) (.inl rfl)) ?_
      clear hKK K
      obtain ⟨u5, hu5⟩ : ∃ z, w5.alloc (.cells #[.int .i64 1, .int .i64 (-1), .int .i64 300] 3) = z := ⟨_, rfl⟩
      have HGu5 := hide (gb_trans HG5.out (gb_below E5 (Nat.le_refl _)))
      have HCu5 := hide (HC5.out.of_block (E5.block C (cur_lt HC5.out)))
      have HBu5 := hide (bl_gb HB5.out (gb_below E5 (Nat.le_refl _)) Hw.out)
      have HS := hide S5
      have hq : (w5.alloc (.cells (([1, -1, 300] : List Int).map (Value.int .i64)).toArray 3)) = u5 := hu5
      rw [hu5] at HGu5 HCu5 HBu5
      rw [hq] at HS
      clear S5 E5 hq
      try rw [hu5]
      clear hu5
      refine anyK_two 6 9 (by kernel_rfl) ?_ ?_
      · refine stepK_run rfl ?_
        intro w4 h4 K hKK
        have HG4 := hide (gb_trans HGu5.out (gb_below h4 (Nat.le_refl _)))
        have HC4 := hide (HCu5.out.of_block (h4.block C (cur_lt HCu5.out)))
        have HB4 := hide (bl_gb HBu5.out (gb_below h4 (Nat.le_refl _)) Hw.out)
        have cl := (World.cell?_of_block (a := ⟨g, k * 3 + 2, none⟩) (HG4.out.block g He2.out.1 (by have := Hg.out; simp; omega))).trans He2.out.2.1
        go_simp
        refine hKK _ _ (grw_gb HG4.out (.inl rfl)) ?_
        clear hKK K cl
        replace HS := hide (HS.out.of_all h4)
        refine anyK_one 9 (by kernel_rfl) ?_
        refine stepK_run rfl ?_
        intro w6 h6 K hKK
        have HG6 := hide (gb_trans HG4.out (gb_below h6 (Nat.le_refl _)))
        have HC6 := hide (HC4.out.of_block (h6.block C (cur_lt HC4.out)))
        have HB6 := hide (bl_gb HB4.out (gb_below h6 (Nat.le_refl _)) Hw.out)
        go_simp
        have HS2 := hide (HS.out.of_all h6)
        refine (l1PickInt_of C a b off n cap f _ _ _ _ 3 _ _ HC6.out (HKK.out _ HB6.out) hn HS2.out (by decide) (by decide) (by have := HZ.out; omega)).mono ?_
        rintro e x6 ⟨iz, -, rfl, hCx, Tx⟩
        simp only [List.getD_eq_getElem?_getD]
        generalize ([1, -1, 300] : List Int)[iz]?.getD 0 = z
        have HGx6 := hide (gb_trans HG6.out (gb_touch Tx))
        have HCx6 := hide hCx
        have HBx6 := hide (bl_gb HB6.out (gb_touch Tx) Hw.out)
        clear hCx Tx
        try go_simp
        refine hKK _ _ (grw_gb HGx6.out (.inl rfl)) ?_
        clear hKK K
        refine anyK_take 10 3 1 rfl (by decide) (by kernel_rfl) (fun _ _ d _ _ h => by cases d <;> exact h) ?_
        repeat (refine headC_step (fun K hK => ?_); go_simp; first | (refine hK _ ?_; clear hK K) | (apply Exists.intro; refine ⟨fun p => ?_, hK _ ?_⟩; (fail); clear hK K))
        refine headC_nil ?_
        refine anyK_one 13 (by kernel_rfl) ?_
        refine stepK_run rfl ?_
        intro wq hq K hKK
        have HGq := hide (gb_trans HGx6.out (gb_below hq (Nat.le_refl _)))
        have HCq := hide (HCx6.out.of_block (hq.block C (cur_lt HCx6.out)))
        have HBq := hide (bl_gb HBx6.out (gb_below hq (Nat.le_refl _)) Hw.out)
        have gsq := HGq.out.block g He2.out.1 (by have := Hg.out; simp; omega)
        have cl := (World.cell?_of_block (a := ⟨g, k * 3 + 2, none⟩) gsq).trans He2.out.2.1
        have cf := (World.frozen?_of_block (a := ⟨g, k * 3 + 2, none⟩) gsq).trans He2.out.2.2
        obtain ⟨zz, hzz⟩ : ∃ q, IntKind.i64.wrap (t.kid + z) = q := ⟨_, rfl⟩
        have hA5 := (HA3.out.toLAcc.gb HGq.out).setKid zz
        have ks := set_keeps (o := k * 3 + 2) (.int .i64 zz) HCq.out HBq.out Hg.out
        rw [HAk.out, show 3 * k = k * 3 by omega] at hA5
        have HR : Hid (GivesAny C a n cap w (.returned (.slice (some ⟨g, 0, none⟩) N cp)) (wq.setCell ⟨g, k * 3 + 2, none⟩ (.int .i64 zz))) := hide ⟨_, _, rfl, hA5, by have := HN.out; have := H40.out.2; simp at *; omega, drj_at HD.out ⟨(HD.out t (List.mem_append.2 (.inr (List.mem_cons.2 (.inl rfl))))).len, (HD.out t (List.mem_append.2 (.inr (List.mem_cons.2 (.inl rfl))))).rng⟩, ks.1, ks.2⟩
        clear hA5 ks
        try rw [hzz]
        go_simp
        try rw [hzz]
        refine hKK _ _ ((grw_gb HGq.out (.inl rfl)).trans (Grw.of_touch ((Touch.refl g wq).set _ _) (.inr rfl))) ?_
        clear hKK K cl cf gsq hzz
        refine anyK_done (by kernel_rfl) ?_ 0
        intro w9 E9
        obtain ⟨va, L5, hv5, hA5, hl5, hD5, hC5, hB5⟩ := HR.out
        have HR9 : Hid (GivesAny C a n cap w (.returned (.slice (some ⟨g, 0, none⟩) N cp)) w9) := hide ⟨va, L5, hv5, hA5.ext E9, hl5, hD5, hC5.of_block (E9.block C (cur_lt hC5)), Below.trans hB5 (E9.mono (Nat.le_of_lt (cur_lt hC5)))⟩
        clear hA5 hl5 hD5 hC5 hB5 hv5 HR E9
        go_wp2
        go_ret
        exact HR9.out
      · refine stepK_run rfl ?_
        intro w6 h6 K hKK
        have HG6 := hide (gb_trans HGu5.out (gb_below h6 (Nat.le_refl _)))
        have HC6 := hide (HCu5.out.of_block (h6.block C (cur_lt HCu5.out)))
        have HB6 := hide (bl_gb HBu5.out (gb_below h6 (Nat.le_refl _)) Hw.out)
        go_simp
        have HS2 := hide (HS.out.of_all h6)
        refine (l1PickInt_of C a b off n cap f _ _ _ _ 3 _ _ HC6.out (HKK.out _ HB6.out) hn HS2.out (by decide) (by decide) (by have := HZ.out; omega)).mono ?_
        rintro e x6 ⟨iz, -, rfl, hCx, Tx⟩
        simp only [List.getD_eq_getElem?_getD]
        generalize ([1, -1, 300] : List Int)[iz]?.getD 0 = z
        have HGx6 := hide (gb_trans HG6.out (gb_touch Tx))
        have HCx6 := hide hCx
        have HBx6 := hide (bl_gb HB6.out (gb_touch Tx) Hw.out)
        clear hCx Tx
        try go_simp
        refine hKK _ _ (grw_gb HGx6.out (.inl rfl)) ?_
        clear hKK K
        refine anyK_one 6 (by kernel_rfl) ?_
        refine stepK_run rfl ?_
        intro w4 h4 K hKK
        have HG4 := hide (gb_trans HGx6.out (gb_below h4 (Nat.le_refl _)))
        have HC4 := hide (HCx6.out.of_block (h4.block C (cur_lt HCx6.out)))
        have HB4 := hide (bl_gb HBx6.out (gb_below h4 (Nat.le_refl _)) Hw.out)
        have cl := (World.cell?_of_block (a := ⟨g, k * 3 + 2, none⟩) (HG4.out.block g He2.out.1 (by have := Hg.out; simp; omega))).trans He2.out.2.1
        go_simp
        refine hKK _ _ (grw_gb HG4.out (.inl rfl)) ?_
        clear hKK K cl
        refine anyK_take 10 3 1 rfl (by decide) (by kernel_rfl) (fun _ _ d _ _ h => by cases d <;> exact h) ?_
        repeat (refine headC_step (fun K hK => ?_); go_simp; first | (refine hK _ ?_; clear hK K) | (apply Exists.intro; refine ⟨fun p => ?_, hK _ ?_⟩; (fail); clear hK K))
        refine headC_nil ?_
        refine anyK_one 13 (by kernel_rfl) ?_
        refine stepK_run rfl ?_
        intro wq hq K hKK
        have HGq := hide (gb_trans HG4.out (gb_below hq (Nat.le_refl _)))
        have HCq := hide (HC4.out.of_block (hq.block C (cur_lt HC4.out)))
        have HBq := hide (bl_gb HB4.out (gb_below hq (Nat.le_refl _)) Hw.out)
        have gsq := HGq.out.block g He2.out.1 (by have := Hg.out; simp; omega)
        have cl := (World.cell?_of_block (a := ⟨g, k * 3 + 2, none⟩) gsq).trans He2.out.2.1
        have cf := (World.frozen?_of_block (a := ⟨g, k * 3 + 2, none⟩) gsq).trans He2.out.2.2
        obtain ⟨zz, hzz⟩ : ∃ q, IntKind.i64.wrap (t.kid + z) = q := ⟨_, rfl⟩
        have hA5 := (HA3.out.toLAcc.gb HGq.out).setKid zz
        have ks := set_keeps (o := k * 3 + 2) (.int .i64 zz) HCq.out HBq.out Hg.out
        rw [HAk.out, show 3 * k = k * 3 by omega] at hA5
        have HR : Hid (GivesAny C a n cap w (.returned (.slice (some ⟨g, 0, none⟩) N cp)) (wq.setCell ⟨g, k * 3 + 2, none⟩ (.int .i64 zz))) := hide ⟨_, _, rfl, hA5, by have := HN.out; have := H40.out.2; simp at *; omega, drj_at HD.out ⟨(HD.out t (List.mem_append.2 (.inr (List.mem_cons.2 (.inl rfl))))).len, (HD.out t (List.mem_append.2 (.inr (List.mem_cons.2 (.inl rfl))))).rng⟩, ks.1, ks.2⟩
        clear hA5 ks
        try rw [hzz]
        go_simp
        try rw [hzz]
        refine hKK _ _ ((grw_gb HGq.out (.inl rfl)).trans (Grw.of_touch ((Touch.refl g wq).set _ _) (.inr rfl))) ?_
        clear hKK K cl cf gsq hzz
        refine anyK_done (by kernel_rfl) ?_ 0
        intro w9 E9
        obtain ⟨va, L5, hv5, hA5, hl5, hD5, hC5, hB5⟩ := HR.out
        have HR9 : Hid (GivesAny C a n cap w (.returned (.slice (some ⟨g, 0, none⟩) N cp)) w9) := hide ⟨va, L5, hv5, hA5.ext E9, hl5, hD5, hC5.of_block (E9.block C (cur_lt hC5)), Below.trans hB5 (E9.mono (Nat.le_of_lt (cur_lt hC5)))⟩
        clear hA5 hl5 hD5 hC5 hB5 hv5 HR E9
        go_wp2
        go_ret
        exact HR9.out
  by_cases c2 : y = 2
  · subst c2
    clear y0 y1 c0 c1
    have h3 := HA3.out.toLAcc.at3
    have hrm := HA3.out.rm t (List.mem_append.2 (.inr (List.mem_cons.2 (.inl rfl))))
    rw [HAk.out] at h3
    obtain ⟨-, e1, -, f1⟩ := h3
    have i1 : (k : Int) < (N : Int) := by omega
    have E4 := Ext.alloc w3 (.cells #[.int .u8 1] 5)
    have hgl := World.block_lt_of_cell? _ _ e1
    have HE4 := hide E4
    have Hrm := hide hrm
    have Hgl := hide (And.intro hgl (And.intro e1 (f1 (k * 3 + 1))))
    have HX := hide (bseg_one8 w3 1)
    have Htl := hide (HD4.out t (List.mem_append.2 (.inr (List.mem_cons.2 (.inl rfl)))))
    have Hng : Hid ((Value.slice t.ad t.len t.cap).ownBlock ≠ some g) := hide (fun e => hrm.away HA3.out.row e rfl)
    clear f1 hrm hgl E4
    go_wp2_with (at_builtin; refine stop_app rfl ?_)
    refine hide ?_
    refine wpList_appB rfl _ _ rfl (C + 1) _ t.len t.f rfl (owns_ext' Hrm.out.row HE4.out) _ 1 1 (fun _ => 1) (by rfl) HX.out (by have := Htl.out; omega) (Nat.le_trans (cur_lt HC3.out) (Below.size HE4.out)) ?_
    intro v4 w4 hO4 hG4 h5
    clear e1
    obtain ⟨a4, cp4, rfl⟩ := ownsRow_slc hO4
    have hgs : w4.heap[g]? = w3.heap[g]? := (hG4.block g (Nat.lt_of_lt_of_le Hgl.out.1 (Below.size HE4.out)) (fun e => Hng.out e.symm)).trans (Below.block HE4.out g Hgl.out.1)
    have e1 := (World.cell?_of_block (a := ⟨g, k * 3 + 1, none⟩) hgs).trans Hgl.out.2.1
    have f1 := (World.frozen?_of_block (a := ⟨g, k * 3 + 1, none⟩) hgs).trans Hgl.out.2.2
    obtain ⟨bq, hA5⟩ := HA3.out.growBody (Nat.le_of_lt_succ (Nat.lt_succ_of_le (cur_lt HC3.out))) hO4 (Nat.succ_pos _) hG4 h5
    have hX : ∀ q, (Value.slice t.ad t.len t.cap).ownBlock = some q → C + 1 ≤ q := fun q hq => (Hrm.out.row.lt q hq).1
    have ka := app_keeps HC3.out HB3.out Hw.out hX hG4
    have ks := set_keeps (o := k * 3 + 1) (.slice a4 (t.len + 1) cp4) ka.1 ka.2 Hg.out
    rw [HAk.out] at hA5
    have HR : Hid (GivesAny C a n cap w (.returned (.slice (some ⟨g, 0, none⟩) N cp)) (w4.setCell ⟨g, k * 3 + 1, none⟩ (.slice a4 (t.len + 1) cp4))) := hide ⟨_, _, rfl, hA5, by have := HN.out; have := H40.out.2; simp at *; omega, drj_at HD.out (drj_grow _ _ _ _ _ _ (HD.out t (List.mem_append.2 (.inr (List.mem_cons.2 (.inl rfl))))) Htl.out), ks.1, ks.2⟩
    clear hO4 hG4 h5 hgs hA5 hX ka ks HA3 HC3 HB3 HD Hrm Hgl HX Htl Hng HE4
    go_wp2
    go_ret
    exact HR.out
  by_cases c3 : y = 3
  · subst c3
    clear y0 y1 c0 c1 c2
    have HA8 := hide HA3.out.toLAcc
    go_wp2_with (at_builtin; refine stop_app rfl ?_)
    refine hide ?_
    have lat := HA8.out.later (Ext.alloc w3 (.cells #[.int .i64 2, .slice none 0 0, .int .i64 0] 55)) ((Bods.nil w3.heap.size (w3.alloc (.cells #[.int .i64 2, .slice none 0 0, .int .i64 0] 55))).bare 2 0) (cur_lt HC3.out)
    refine wpList_appG rfl _ _ rfl (C + 1) w3.heap.size w3 _ _ (A ++ t :: D) [bare 2 0] rfl HA8.out (Ext.alloc w3 _) rfl (ownsRow_it w3 (bare 2 0)) lat.1 lat.2 (by have := HN.out; have := H40.out.2; simp at *; omega) (cur_lt HC3.out) ?_
    intro v9 w9 hA9 hG9 hO9
    obtain ⟨a9, c9, rfl⟩ := ownsRow_slc hA9.row
    have k9 := app_keeps HC3.out HB3.out Hw.out (fun q hq => (HA8.out.row.lt q hq).1) hG9
    clear lat hG9 hO9
    have HR : Hid (GivesAny C a n cap w (.returned (.slice a9 ((A ++ t :: D) ++ [bare 2 0]).length c9)) w9) := hide ⟨_, _, rfl, hA9, by have := HN.out; have := H40.out.2; simp at *; omega, fun s hs => (List.mem_append.1 hs).elim (HD.out s) (fun h => by rw [List.mem_singleton.1 h]; exact drj_bare 2 0), k9.1, k9.2⟩
    obtain ⟨NN, hNN⟩ : ∃ z, ((A ++ t :: D) ++ [bare 2 0]).length = z := ⟨_, rfl⟩
    rw [hNN] at HR ⊢
    clear hA9 k9 HA3 HA8 HC3 HB3 HD hNN
    go_wp2
    go_ret
    exact HR.out
  by_cases c4 : y = 4
  · subst c4
    clear y0 y1 c0 c1 c2 c3 HA3 HD HN HAk H40 x1
    go_wp2_with fail
    refine (l1Below_any C a b off n cap f 2 _ HC3.out (HKK.out _ HB3.out) hn (by omega) (by omega)).mono ?_
    rintro e w4 ⟨x, rfl, x0, x1, hC4, T4⟩
    have HC4 := hide hC4
    have HB4 := hide (bl_gb HB3.out (gb_touch T4) Hw.out)
    clear hC4 T4 HC3 HB3
    obtain ⟨r, hr⟩ : ∃ r, 12 + x = r := ⟨_, rfl⟩
    have wr : wrap64 (12 + x) = r := by rw [← hr]; unfold wrap64; omega
    have wr' : IntKind.i64.wrap (12 + x) = r := by rw [IntKind.wrap_i64]; omega
    have r1 : 0 ≤ r ∧ r ≤ 13 := by omega
    have Hr := hide r1
    clear hr x0 x1 r1
    go_wp2
    clear wr wr'
    go_loopw [3, 5] (fun v i wr => ∃ (va : Option Addr) (vn vc : Nat) (r : Int) (L : List It), v = .slice va vn vc ∧ i = .int .i64 r ∧ 0 ≤ r ∧ (L.length : Int) + r ≤ 13 ∧ LAcc (C + 1) wr (.slice va vn vc) L ∧ (∀ t ∈ L, Drj t) ∧ Cur wr C a n cap ∧ Below C w wr) (fun _ i _ => (intOf i).toNat)
    case atStart => exact ⟨_, _, _, r, [], rfl, rfl, Hr.out.1, by have := Hr.out.2; simp; omega, lacc_none _ _, fun t h => absurd h List.not_mem_nil, HC4.out, HB4.out⟩
    case round =>
      clear HC4 HB4 Hr
      obtain ⟨ua, un, uc, r, L, rfl, rfl, r0, r1, hA, hD, hC, hB⟩ := hrel
      have HA := hide hA
      have HD := hide hD
      have HC := hide hC
      have HB := hide hB
      have HL := hide r1
      have Hun := hide hA.len_n
      clear hA hD hC hB
      by_cases hr : 0 < r
      · have Hrr := hide (And.intro hr r1)
        have Hwr : Hid (wrap64 (r - 1) = r - 1) := hide (by unfold wrap64; omega)
        clear r1
        go_wp2_with (at_builtin; refine stop_app rfl ?_)
        refine hide ?_
        have lat := HA.out.later (Ext.alloc wr (.cells #[.int .i64 48, .slice none 0 0, .int .i64 1] 55)) ((Bods.nil wr.heap.size (wr.alloc (.cells #[.int .i64 48, .slice none 0 0, .int .i64 1] 55))).bare 48 1) (cur_lt HC.out)
        refine wpList_appG rfl _ _ rfl (C + 1) wr.heap.size wr _ _ L [bare 48 1] rfl HA.out (Ext.alloc wr _) rfl (ownsRow_it wr (bare 48 1)) lat.1 lat.2 (by have := HL.out; have := Hrr.out; simp; omega) (cur_lt HC.out) ?_
        intro v9 w9 hA9 hG9 hO9
        obtain ⟨a9, c9, rfl⟩ := ownsRow_slc hA9.row
        have k9 := app_keeps HC.out HB.out Hw.out (fun q hq => (HA.out.row.lt q hq).1) hG9
        clear lat hG9 hO9
        have HA9 := hide hA9
        have HK9 := hide k9
        obtain ⟨NN, hNN⟩ : ∃ z, (L ++ [bare 48 1]).length = z := ⟨_, rfl⟩
        rw [hNN] at HA9 ⊢
        have HNN := hide hNN
        clear hA9 k9 HA HC HB hNN
        go_wp2
        go_roundw
        case rel => exact ⟨_, _, _, r - 1, _, rfl, by rw [Hwr.out], by have := Hrr.out; omega, by have := Hrr.out; have := HNN.out; simp at *; omega, HA9.out, fun s hs => (List.mem_append.1 hs).elim (HD.out s) (fun h => by rw [List.mem_singleton.1 h]; exact drj_bare 48 1), HK9.out.1, HK9.out.2⟩
        case measure => rw [Hwr.out]; have := Hrr.out; simp only [intOf]; omega
      · clear r1
        go_wp2_with (at_builtin; refine stop_app rfl ?_)
        refine hide ?_
        have lat := HA.out.later (Ext.alloc wr (.cells #[.int .i64 5, .slice none 0 0, .int .i64 0] 55)) ((Bods.nil wr.heap.size (wr.alloc (.cells #[.int .i64 5, .slice none 0 0, .int .i64 0] 55))).bare 5 0) (cur_lt HC.out)
        refine wpList_appG rfl _ _ rfl (C + 1) wr.heap.size wr _ _ L [bare 5 0] rfl HA.out (Ext.alloc wr _) rfl (ownsRow_it wr (bare 5 0)) lat.1 lat.2 (by have := HL.out; simp; omega) (cur_lt HC.out) ?_
        intro v9 w9 hA9 hG9 hO9
        obtain ⟨a9, c9, rfl⟩ := ownsRow_slc hA9.row
        have k9 := app_keeps HC.out HB.out Hw.out (fun q hq => (HA.out.row.lt q hq).1) hG9
        clear lat hG9 hO9
        have HR : Hid (GivesAny C a n cap w (.returned (.slice a9 (L ++ [bare 5 0]).length c9)) w9) := hide ⟨_, _, rfl, hA9, by have := HL.out; simp; omega, fun s hs => (List.mem_append.1 hs).elim (HD.out s) (fun h => by rw [List.mem_singleton.1 h]; exact drj_bare 5 0), k9.1, k9.2⟩
        obtain ⟨NN, hNN⟩ : ∃ z, (L ++ [bare 5 0]).length = z := ⟨_, rfl⟩
        rw [hNN] at HR ⊢
        clear hA9 k9 HA HC HB HD hNN
        go_wp2
        go_ret
        exact HR.out
  by_cases c5 : y = 5
  · subst c5
    clear y0 y1 c0 c1 c2 c3 c4 HA3 HD HN HAk H40 x1
    go_wp2_with fail
    refine (l1Below_any C a b off n cap f 2 _ HC3.out (HKK.out _ HB3.out) hn (by omega) (by omega)).mono ?_
    rintro e w4 ⟨x, rfl, x0, x1, hC4, T4⟩
    have hB4 := bl_gb HB3.out (gb_touch T4) Hw.out
    obtain ⟨r, hr⟩ : ∃ r : Nat, 3996 + x = (r : Int) := ⟨(3996 + x).toNat, by omega⟩
    have wr : wrap64 (3996 + x) = (r : Int) := by rw [← hr]; unfold wrap64; omega
    have wr' : IntKind.i64.wrap (3996 + x) = (r : Int) := by rw [IntKind.wrap_i64]; omega
    have r1 : r ≤ 4000 := by omega
    have r2 : (0 : Int) ≤ (r : Int) := by omega
    have hmk := run_make_row' (P := Tryd.prog) 22 5 (.int .u8 0) 1 Tryd.underlying22 Tryd.info5 rfl .i64 .i64 r (by omega) (by omega)
    have E5 := Ext.alloc w4 (.cells (madeCells #[.int .u8 0] r) 5)
    have hO : BOwn (w4.alloc (.cells (madeCells #[.int .u8 0] r) 5)) (some ⟨w4.heap.size, 0, none⟩) w4.heap.size 0 r (fun _ => 0) := BOwn.of_row (World.rowIs_made w4 (.int .u8 0) r 5) (Nat.le_refl _)
    have hl4 := cur_lt hC4
    obtain ⟨w5, hw5⟩ : ∃ z, w4.alloc (.cells (madeCells #[.int .u8 0] r) 5) = z := ⟨_, rfl⟩
    rw [hw5] at E5 hO
    have hb := Bods.one (B := w4.heap.size) (cap := r) 4 hO (Nat.le_refl _)
    have hA := LAcc.it w5 _ (C + 1) (hb.low hl4) (Nat.le_trans hl4 (Below.size E5))
    have E6 := E5.trans (Ext.alloc w5 (.cells #[.int .i64 4, .slice (some ⟨w4.heap.size, 0, none⟩) r r, .int .i64 0] 55))
    have HR : Hid (GivesAny C a n cap w (.returned (.slice (some ⟨w5.heap.size, 0, none⟩) 1 1)) (w5.alloc (.cells #[.int .i64 4, .slice (some ⟨w4.heap.size, 0, none⟩) r r, .int .i64 0] 55))) := hide ⟨_, _, rfl, hA, by simp, fun s hs => by
      rw [List.mem_singleton.1 hs]
      exact ⟨by show r ≤ 4001; omega, fun i hi => by
        show 0 ≤ nfF r (fun _ => 0) i ∧ nfF r (fun _ => 0) i < 256
        have hi' : i < r := hi
        unfold nfF
        rw [getD_map hi']
        decide⟩, hC4.of_block (E6.block C hl4), Below.trans hB4 (E6.mono (Nat.le_of_lt hl4))⟩
    clear hC4 T4 HC3 HB3 hB4 hr x0 x1 E5 hO hl4 hb hA E6
    have Hw5 := hide hw5
    have r3 : (r : Int) ≤ 4000 := by omega
    clear hw5
    go_wp2
    try rw [Hw5.out]
    go_ret
    have hs5 : w5.heap.size = w4.heap.size + 1 := by rw [← Hw5.out]; simp
    have hr5 := HR.out
    rw [hs5] at hr5
    exact hr5
  by_cases c6 : y = 6
  · subst c6
    clear y0 y1 c0 c1 c2 c3 c4 c5 HA3 HD HN HAk H40 x1
    go_wp2_with fail
    refine (l1Below_any C a b off n cap f 2 _ HC3.out (HKK.out _ HB3.out) hn (by omega) (by omega)).mono ?_
    rintro e w4 ⟨x, rfl, x0, x1, hC4, T4⟩
    obtain ⟨r, hr⟩ : ∃ r : Nat, 299 + x = (r : Int) := ⟨(299 + x).toNat, by omega⟩
    have wr : wrap64 (299 + x) = (r : Int) := by rw [← hr]; unfold wrap64; omega
    have wr' : IntKind.i64.wrap (299 + x) = (r : Int) := by rw [IntKind.wrap_i64]; omega
    have r1 : r ≤ 300 := by omega
    have hl4 := cur_lt hC4
    have E5 := Ext.alloc w4 (.cells #[.int .i64 48, .slice none 0 0, .int .i64 (r : Int)] 55)
    have HA4 := hide (LAcc.it w4 (bare 48 (r : Int)) (C + 1) ((Bods.nil (C + 1) w4).bare 48 (r : Int)) hl4)
    have HC4 := hide (hC4.of_block (E5.block C hl4))
    have HB4 := hide (Below.trans (bl_gb HB3.out (gb_touch T4) Hw.out) (E5.mono (Nat.le_of_lt hl4)))
    have Hr1 := hide r1
    clear hC4 T4 HC3 HB3 hr x0 x1 E5 hl4 r1
    go_wp2
    clear wr wr'
    go_loopw [3, 7] (fun v i wr => ∃ (va : Option Addr) (vn vc : Nat) (j : Nat) (L : List It), v = .slice va vn vc ∧ i = .int .i64 (j : Int) ∧ j ≤ r ∧ L.length = j + 1 ∧ LAcc (C + 1) wr (.slice va vn vc) L ∧ (∀ t ∈ L, Drj t) ∧ Cur wr C a n cap ∧ Below C w wr) (fun _ i _ => r - (intOf i).toNat)
    case atStart => exact ⟨_, _, _, 0, _, rfl, rfl, Nat.zero_le _, rfl, HA4.out, fun s hs => by rw [List.mem_singleton.1 hs]; exact drj_bare _ _, HC4.out, HB4.out⟩
    case round =>
      clear HC4 HB4 HA4
      obtain ⟨ua, un, uc, j, L, rfl, rfl, j0, j1, hA, hD, hC, hB⟩ := hrel
      have HA := hide hA
      have HD := hide hD
      have HC := hide hC
      have HB := hide hB
      have HL := hide j1
      have Hun := hide hA.len_n
      clear hA hD hC hB j1
      by_cases hr : j < r
      · have hr' : (j : Int) < (r : Int) := by omega
        have Hwr : Hid (wrap64 ((j : Int) + 1) = ((j + 1 : Nat) : Int)) := hide (by have := Hr1.out; unfold wrap64; omega)
        go_wp2_with (at_builtin; refine stop_app rfl ?_)
        refine hide ?_
        have lat := HA.out.later (Ext.alloc wr (.cells #[.int .i64 5, .slice none 0 0, .int .i64 0] 55)) ((Bods.nil wr.heap.size (wr.alloc (.cells #[.int .i64 5, .slice none 0 0, .int .i64 0] 55))).bare 5 0) (cur_lt HC.out)
        refine wpList_appG rfl _ _ rfl (C + 1) wr.heap.size wr _ _ L [bare 5 0] rfl HA.out (Ext.alloc wr _) rfl (ownsRow_it wr (bare 5 0)) lat.1 lat.2 (by have := HL.out; have := Hr1.out; simp; omega) (cur_lt HC.out) ?_
        intro v9 w9 hA9 hG9 hO9
        obtain ⟨a9, c9, rfl⟩ := ownsRow_slc hA9.row
        have k9 := app_keeps HC.out HB.out Hw.out (fun q hq => (HA.out.row.lt q hq).1) hG9
        clear lat hG9 hO9
        have HA9 := hide hA9
        have HK9 := hide k9
        obtain ⟨NN, hNN⟩ : ∃ z, (L ++ [bare 5 0]).length = z := ⟨_, rfl⟩
        rw [hNN] at HA9 ⊢
        clear hA9 k9 HA HC HB hNN
        go_wp2
        go_roundw
        case rel => exact ⟨_, _, _, j + 1, _, rfl, by rw [Hwr.out], hr, by have := HL.out; simp; omega, HA9.out, fun s hs => (List.mem_append.1 hs).elim (HD.out s) (fun h => by rw [List.mem_singleton.1 h]; exact drj_bare 5 0), HK9.out.1, HK9.out.2⟩
        case measure => rw [Hwr.out]; simp only [intOf]; omega
      · have HR : Hid (GivesAny C a n cap w (.returned (.slice ua un uc)) wr) := hide ⟨_, _, rfl, HA.out, by have := HL.out; have := Hr1.out; omega, HD.out, HC.out, HB.out⟩
        have hr' : ¬ (j : Int) < (r : Int) := by omega
        clear HA HC HB HD
        go_wp2
        go_ret
        exact HR.out
  have HR : Hid (GivesAny C a n cap w (.returned (.slice (some ⟨g, 0, none⟩) N cp)) w3) := hide ⟨_, _, rfl, by have := HA3.out.toLAcc; exact this, by have := HN.out; have := H40.out.2; omega, HD.out, HC3.out, HB3.out⟩
  clear HA3 HC3 HB3 HD
  go_wp2
  go_ret
  exact HR.out
end

end Go.Proofs.YtmcdikbcmikihaaDoor
