/- Walks: a leaf that the model's reader reads (written by mkrdq.py). -/
import Derived.Test.YtkogbinfhoiggaaGreatDoorCx19
namespace Go.Proofs.YtkogbinfhoiggaaGreatDoor
set_option linter.unusedVariables false
set_option linter.unusedSimpArgs false
open Go.RowKit
theorem blk_hp {w w' : World} {C : Nat} {vs : List Value} (h : Blk w C vs) (e : w'.heap[C]? = w.heap[C]?) : Blk w' C vs := fun i v hi =>
 ⟨(World.cell?_of_block (a := ⟨C, i, none⟩) e).trans (h i v hi).1, (World.frozen?_of_block (a := ⟨C, i, none⟩) e).trans (h i v hi).2⟩
def Xof (o : Option Nat) (S : Nat) (q : Nat) : Prop := o = some q ∨ S ≤ q
theorem grwX_grown {o o1 : Option Nat} {S : Nat} {a b : World} (h : a.grownBy b o1) (k : ∀ q, o1 = some q → Xof o S q) : Grw (Xof o S) a b := ⟨h.os, h.tape, h.output, h.size, fun q hq hn => h.block q hq (fun e => hn (k q e.symm))⟩
theorem grw_set {o : Option Nat} {S g i : Nat} {a : World} {v : Value} (h : Xof o S g) : Grw (Xof o S) a (a.setCell ⟨g, i, none⟩ v) := Grw.of_touch ((Touch.refl g a).set i v) h
theorem grown_grw {o : Option Nat} {a b : World} (h : Grw (Xof o a.heap.size) a b) : a.grownBy b o := ⟨h.os, h.tape, h.output, h.size, fun q hq hn => h.block q hq (fun e => by
 rcases e with e | e
 ·exact hn e.symm
 ·omega)⟩
theorem LAcc.at3 {B : Nat} {W : World} {g n cap : Nat} {A C : List It} {t : It} (h : LAcc B W (.slice (some ⟨g, 0, none⟩) n cap) (A ++ t :: C)) : W.cell? ⟨g, A.length * 3, none⟩ = some (.int .i64 t.tag) ∧ W.cell? ⟨g, A.length * 3 + 1, none⟩ = some (.slice t.ad t.len t.cap) ∧ W.cell? ⟨g, A.length * 3 + 2, none⟩ = some (.int .i64 t.kid) ∧ ∀ j, W.frozen? ⟨g, j, none⟩ = false := by
 have hn := h.len_n
 have hr := h.row
 rw [← hn] at hr
 have hl : n * 3 = A.length * 3 + 3 + C.length * 3 := by rw [hn]; simp; omega
 have hg : ∀ j, j < 3 → W.cell? ⟨g, A.length * 3 + j, none⟩ = (itW t)[j]? := fun j hj => by
  rw [World.ownsRow.cellAt hr (A.length * 3 + j) (by omega), rowL_at]
  have ha : (rowL A).length = A.length * 3 := rowL_len A
  rw [List.getElem?_append_right (by omega), ha, Nat.add_sub_cancel_left, List.getElem?_append_left (by rw [itW_len]; exact hj)]
 exact ⟨hg 0 (by omega), hg 1 (by omega), hg 2 (by omega), fun j => World.ownsRow.frozenAt hr j⟩
theorem heap_putL (C : Nat) : ∀ (vs : List Value) (i : Nat) (w : World) (k : Nat), k ≠ C → (putL C i vs w).heap[k]? = w.heap[k]?
 | [], _, _, _, _ => rfl
 | v :: vs, i, w, k, hk => (heap_putL C vs (i + 1) _ k hk).trans (Below.heap_setCell _ _ _ _ (by show k ≠ C; exact hk))
set_option maxHeartbeats 12800000 in
set_option maxRecDepth 100000 in
theorem l7Read_leaf (bb boff bn bc : Nat) (f : Nat → Int) (la : Option Addr) (ln lc : Nat) (L : List It) (B k a e d : Nat) (w : World) (hs : BSeg w (some ⟨bb, boff, none⟩) bb boff bn f) (hb : ∀ i, i < bn → 0 ≤ f i ∧ f i < 256) (he : e ≤ bn) (hn : bn ≤ 4000) (hbc : bn ≤ bc) (hbc2 : bc ≤ 9223372036854775807)
  (hA : LAcc B w (.slice la ln lc) L) (hB : B ≤ w.heap.size) (hbB : 0 < bn → bb < B) (hL : L.length ≤ 100000) (hok : (hdC f a e d).1 = 0) (hm : mdT (f a) = false) :
  Calls Tryz.prog 36 #[.agg (rrL (.slice (some ⟨bb, boff, none⟩) bn bc) (.slice la ln lc) 0 0).toArray, .int .i64 (a : Int), .int .i64 (e : Int), .int .i64 (d : Int)] w (GivesRr B w (.slice (some ⟨bb, boff, none⟩) bn bc) (.slice la ln lc) (rdT f (k + 1) a e d) L) := by
 have Hbc := hide (And.intro hbc hbc2)
 clear hbc hbc2
 have HhL := hide hL
 clear hL
 obtain ⟨V, hV⟩ : ∃ V, (w.alloc (.cells (rrL (.slice (some ⟨bb, boff, none⟩) bn bc) (.slice la ln lc) 0 0).toArray 60)).alloc (.cells #[.slice none 0 0, .slice none 0 0, .int .i64 0, .int .i64 0] 60) = V := ⟨_, rfl⟩
 obtain ⟨B0, B1, hE, -⟩ := box2 w (rrL (.slice (some ⟨bb, boff, none⟩) bn bc) (.slice la ln lc) 0 0) rrZ 60 60 (w1 := V) (by rw [← hV]; exact Ext.refl _)
 have h0 := hdC_ok hok
 have hs1 := hs.of_all hE
 have c0 := (B0 0 _ rfl).1
 have c1 := (B0 1 _ rfl).1
 have k1 := hs1.cell a (by omega)
 have b1 := hb a (by omega)
 have g1 : ¬ (e : Int) ≤ (a : Int) := by omega
 have g2 : (a : Int) < (bn : Int) := by omega
 have m1 : Int.tmod (f a) 32 = f a % 32 := by rw [Int.tmod_eq_emod_of_nonneg b1.1]
 have M1 := hide m1
 clear m1
 have g4 : (f a % 32 == 31) = false := by simp [h0.2.1]
 have g3 : ¬ (12 : Int) < (d : Int) := by omega
 have ha4 : a ≤ 4000 := by omega
 have w0 : wrap64 ((a : Int) + 1) = (a : Int) + 1 := by unfold wrap64; omega
 have HSz : Hid (∀ W, BSeg W (some ⟨bb, boff, none⟩) bb boff bn f → Calls Tryz.prog 62 #[(.slice (some ⟨bb, boff, none⟩) bn bc), .int .i64 ((a : Int) + 1), .int .i64 (e : Int)] W fun en w' => en = .returned (lzV f a e) ∧ w' = W) := fun W h => l7Size_any _ bb boff bn bc f a e W h hb he hn ha4
 have hz : lzV f a e = .tuple #[.int .i64 ((lnR f a e).1 : Int), .int .i64 ((lnR f a e).2.1 : Int), .int .i64 0] := by unfold lzV lzS; rw [h0.2.2.2.1, if_pos rfl]
 rw [hz] at HSz
 clear hz
 have hst1 : a + 2 ≤ (lnR f a e).2.1 := h0.2.2.2.2.2.1
 have hen1 : (lnR f a e).2.1 + (lnR f a e).1 ≤ e := h0.2.2.2.2.1
 have hln := hA.len_n
 have HA := hide hA
 have HAV := hide (hA.ext hE)
 have HE := hide hE
 have HB0 := hide B0
 have HB1 := hide B1
 have HwV : Hid (w.heap.size + 1 < V.heap.size) := hide (Blk.lt B1 (by simp [rrZ]))
 have HoL : Hid (∀ q, (Value.slice la ln lc).ownBlock = some q → q < w.heap.size ∧ B ≤ q) := hide (fun q hq => ⟨(hA.row.lt q hq).2, (hA.row.lt q hq).1⟩)
 have Hs1 := hide hs1
 have HB := hide hB
 have HbB := hide hbB
 have HRR : Hid (rdT f (k + 1) a e d = ⟨[hdOf f a e d], [itH f (hdOf f a e d)], hdE f a e, 0, 0⟩) := hide (by rw [rdT, if_neg (fun h => h hok), if_pos hm])
 have HIt : Hid (itH f (hdOf f a e d) = ⟨f a, 0, (List.range (lnR f a e).1).map (fun i => f ((lnR f a e).2.1 + i))⟩) := hide (by
  have e1 : hdE f a e - hdS f a e = (lnR f a e).1 := by unfold hdE hdS; omega
  unfold itH hdOf
  rw [if_neg (by rw [hm]; simp), e1]
  rfl)
 have HEn : Hid (hdE f a e = (lnR f a e).2.1 + (lnR f a e).1) := rfl
 have HMd : Hid (∀ W, Calls Tryz.prog 63 #[.int .i64 (f a)] W fun en w' => en = .returned (.bool false) ∧ w' = W) := hide (fun W => by
  have := l7Made_any (f a) W b1.1 (by omega)
  have e2 : decide (f a / 32 % 2 = 1) = false := hm
  rw [e2] at this
  exact this)
 generalize rdT f (k + 1) a e d = RR at *
 generalize hdE f a e = EN at *
 generalize itH f (hdOf f a e d) = ITM at *
 have hbI : ∀ i, i < (lnR f a e).1 → True := fun _ _ => trivial
 generalize (lnR f a e).1 = l1 at *
 generalize (lnR f a e).2.1 = l2 at *
 have g6h : ¬ (e : Int) < (l2 : Int) + (l1 : Int) := by clear w0; omega
 have Hl12 : Hid (l2 + l1 ≤ bn) := hide (by clear w0; omega)
 have w5 : wrap64 ((l2 : Int) + (l1 : Int)) = (l2 : Int) + (l1 : Int) := by clear w0; unfold wrap64; omega
 clear ha4 h0 hok hm hb hs hs1 hA hB hbB B0 B1 hE hbI
 subst hln
 have m1 := M1.out
 clear M1
 go_enter Tryz.func36, Tryz.ntmps36
 go_wp2_with fail
 refine (HSz.out _ Hs1.out).mono ?_
 rintro en w9 ⟨rfl, hw9⟩
 obtain rfl := hw9.symm
 clear hw9 HSz
 go_wp2_with (at_builtin; refine stop_app rfl ?_)
 refine hide ?_
 have lat := HAV.out.later (Ext.alloc V (.cells #[.int .i64 (f a), .slice none 0 0, .int .i64 0] 40)) ((Bods.nil V.heap.size (V.alloc (.cells #[.int .i64 (f a), .slice none 0 0, .int .i64 0] 40))).bare (f a) 0) (Nat.le_trans HB.out (Below.size HE.out))
 refine wpList_appG rfl _ _ rfl B V.heap.size V _ _ L [bare (f a) 0] rfl HAV.out (Ext.alloc V _) rfl (ownsRow_it V (bare (f a) 0)) lat.1 lat.2 (by have := HhL.out; simp; omega) (Nat.le_trans HB.out (Below.size HE.out)) ?_
 intro v6 w6 hA6 hG6 hO6
 obtain ⟨g6, lc6, rfl, hg6, hg6s⟩ := slc_at hA6.row (by simp)
 have hl6 : (L ++ [bare (f a) 0]).length = L.length + 1 := by simp
 rw [hl6]
 rw [hl6] at hA6 hO6
 clear lat hl6
 have HA6 := hide hA6
 have HGx : Hid (∀ k, k < V.heap.size → (Value.slice la L.length lc).ownBlock ≠ some k → w6.heap[k]? = V.heap[k]?) := hide (fun k hk hne => (hG6.block k (by simp; omega) (fun e => hne e.symm)).trans (Below.block (Ext.alloc V _) k hk))
 have HG6 := hide hG6
 have Hne : Hid (g6 ≠ w.heap.size ∧ g6 ≠ w.heap.size + 1 ∧ B ≤ g6) := hide (by
  have hv := HwV.out
  have h2 : (Value.slice (some ⟨g6, 0, none⟩) (L.length + 1) lc6).ownBlock = some g6 := rfl
  rw [h2] at hO6
  rcases hO6 with h | h
  ·have := HoL.out g6 h.symm
   omega
  ·simp at h
   omega)
 have HO6 : Hid ((Value.slice (some ⟨g6, 0, none⟩) (L.length + 1) lc6).ownBlock = (Value.slice la L.length lc).ownBlock ∨ ∃ q, (Value.slice (some ⟨g6, 0, none⟩) (L.length + 1) lc6).ownBlock = some q ∧ w.heap.size ≤ q) := hide (by
  rcases hO6 with h | h
  ·exact .inl h
  ·exact .inr ⟨_, h, by have := HwV.out; simp; omega⟩)
 replace HB0 := hide (blk_hp HB0.out (HGx.out w.heap.size (by have := HwV.out; omega) (fun e => by have := (HoL.out _ e).1; omega)))
 replace HB1 := hide (blk_hp HB1.out (HGx.out (w.heap.size + 1) HwV.out (fun e => by have := (HoL.out _ e).1; omega)))
 have c16 := (HB0.out 1 _ rfl).1
 have f16 := (HB0.out 1 _ rfl).2
 have hB7 : Blk (w6.setCell ⟨w.heap.size, 1, none⟩ (.slice (some ⟨g6, 0, none⟩) (L.length + 1) lc6)) w.heap.size (rrL (.slice (some ⟨bb, boff, none⟩) bn bc) (.slice (some ⟨g6, 0, none⟩) (L.length + 1) lc6) 0 0) := Blk.set1 HB0.out 1 _ (by simp [rrL])
 have hB17 : Blk (w6.setCell ⟨w.heap.size, 1, none⟩ (.slice (some ⟨g6, 0, none⟩) (L.length + 1) lc6)) (w.heap.size + 1) rrZ := Blk.apart1 HB1.out _ (by omega)
 have hA7 : LAcc B (w6.setCell ⟨w.heap.size, 1, none⟩ (.slice (some ⟨g6, 0, none⟩) (L.length + 1) lc6)) (.slice (some ⟨g6, 0, none⟩) (L.length + 1) lc6) (L ++ [bare (f a) 0]) := HA6.out.of_blk (fun q hq => Below.heap_setCell _ _ _ _ (by
  show q ≠ w.heap.size
  have hq2 : some g6 = some q := hq
  injection hq2 with hq2
  rw [← hq2]
  exact Hne.out.1)) (fun t ht h0 => Below.heap_setCell _ _ _ _ (by
  show t.blk ≠ w.heap.size
  rcases List.mem_append.1 ht with ht | ht
  ·have := HA.out.bods.lt ht h0
   omega
  ·rw [List.mem_singleton.1 ht] at h0
   exact absurd h0 (Nat.lt_irrefl _)))
 have hX7 : Grw (Xof (Value.slice la L.length lc).ownBlock w.heap.size) w (w6.setCell ⟨w.heap.size, 1, none⟩ (.slice (some ⟨g6, 0, none⟩) (L.length + 1) lc6)) := ((Grw.of_ext (HE.out.trans (Ext.alloc V _))).trans (grwX_grown HG6.out (fun q hq => .inl hq))).trans (grw_set (.inr (Nat.le_refl _)))
 have hS7 : BSeg (w6.setCell ⟨w.heap.size, 1, none⟩ (.slice (some ⟨g6, 0, none⟩) (L.length + 1) lc6)) (some ⟨bb, boff, none⟩) bb boff bn f := ⟨fun _ => rfl, fun i hi => (World.cell?_of_block (a := ⟨bb, boff + i, none⟩) (by
  have hbl := Hs1.out.lt (by omega)
  have hb1 := HbB.out (by omega)
  rw [Below.heap_setCell _ _ _ _ (by show bb ≠ w.heap.size; have := HB.out; omega)]
  exact HGx.out bb hbl (fun e => by have := (HoL.out _ e).2; omega))).trans (Hs1.out.cell i hi)⟩
 obtain ⟨w7, hw7⟩ : ∃ W, w6.setCell ⟨w.heap.size, 1, none⟩ (.slice (some ⟨g6, 0, none⟩) (L.length + 1) lc6) = W := ⟨_, rfl⟩
 rw [hw7] at hB7 hB17 hA7 hX7 hS7
 have HB7 := hide hB7
 have HB17 := hide hB17
 have HA7 := hide hA7
 have HX7 := hide hX7
 have HS7 := hide hS7
 clear hA6 hG6 hO6 hg6 hg6s HA6 HGx HG6 hB7 hB17 hA7 hX7 hS7 HB0 HB1 HAV
 go_wp2_with fail
 refine (HMd.out _).mono ?_
 rintro en w9 ⟨rfl, hw9⟩
 obtain rfl := hw9.symm
 clear hw9 HMd c16 f16 hw7
 clear c0 c1 k1 g1 g2 m1 g4 g3 w0 b1
 have c0 := (HB7.out 0 _ rfl).1
 have c1 := (HB7.out 1 _ rfl).1
 have c0' := fun p : ReC (fun q => q = g6) w7 => cell_reC c0 (by show ¬ w.heap.size = g6; exact fun e => Hne.out.1 e.symm) p
 have c1' := fun p : ReC (fun q => q = g6) w7 => cell_reC c1 (by show ¬ w.heap.size = g6; exact fun e => Hne.out.1 e.symm) p
 have i1 : (0 : Int) ≤ (L.length : Int) := Int.natCast_nonneg _
 have i2 : (L.length : Int) < (L.length : Int) + 1 := by omega
 have hbc1 := Hbc.out.1
 have hl12 := Hl12.out
 obtain ⟨q, hq⟩ : ∃ q, l2 + l1 = q := ⟨_, rfl⟩
 have hqi : (l2 : Int) + (l1 : Int) = (q : Int) := by rw [← hq]; rfl
 have w5b : IntKind.i64.wrap ((l2 : Int) + (l1 : Int)) = (q : Int) := by
  rw [IntWalk.i64_left]; exact w5.trans hqi
 replace w5 : wrap64 ((l2 : Int) + (l1 : Int)) = (q : Int) := by rw [w5]; exact hqi
 have q1 : l2 ≤ q := by rw [← hq]; exact Nat.le_add_right _ _
 have q2 : q ≤ bc := by rw [← hq]; exact Nat.le_trans hl12 hbc1
 have q2' : (q : Int) ≤ (bc : Int) := Int.ofNat_le.2 q2
 have q3 : q - l2 = l1 := by rw [← hq]; exact Nat.add_sub_cancel_left _ _
 have Hq := hide hq
 clear hqi hq hst1 hen1 he
 have HX7s : Hid (w.heap.size ≤ w7.heap.size) := HX7.out.size
 by_cases hcl : bc = l2
 ·have HCl : Hid (∀ W, Ext w7 W → Calls Tryz.prog 16 #[.slice (some ⟨bb, boff, none⟩) l1 0] W fun e w' => GivesR W l1 (fun i => f (l2 + i)) e w') := fun W h => l1BytesD_any _ bb (boff + l2) l1 0 _ W ⟨fun hh => absurd hh (by have := Hq.out; omega), fun i hi => absurd hi (by have := Hq.out; omega)⟩ (by omega)
  have hcl2 := hcl
  subst hcl2
  clear hcl
  go_wp2_with fail
  refine anyK_begin (fun q => q = g6) 14 rfl (by kernel_rfl) ?_
  refine anyK_take 0 10 4 rfl (by decide) (by kernel_rfl) (fun _ _ d _ _ h => by cases d <;> exact h) ?_
  repeat (refine headC_step (fun K hK => ?_); go_simp; refine hK _ ?_; clear hK K)
  refine headC_nil ?_
  refine anyK_one 10 (by kernel_rfl) ?_
  refine stepK_run rfl ?_
  intro w3 h3 K2 hK2
  go_simp
  refine (HCl.out w3 h3).mono ?_
  rintro r w4 ⟨v4, rfl, hO4, hE4⟩
  obtain ⟨ya, yg, yc, rfl, hyg, hyn, hyc, hyB⟩ := owns_seg hO4
  have Hyn := hide (And.intro hyn hyc)
  have E4 := hide (h3.trans hE4)
  have HB4 := hide hyB
  have Hyg : Hid (w7.heap.size ≤ yg) := Nat.le_trans (Below.size h3) hyg
  refine hK2 _ _ (.of_ext E4.out) ?_
  clear hK2 K2 h3 hO4 hE4 hyB hyg HCl hyn hyc
  refine anyK_take 11 2 1 rfl (by decide) (by kernel_rfl) (fun _ _ d _ _ h => by cases d <;> exact h) ?_
  repeat (refine headC_step (fun K hK => ?_); go_simp; refine hK _ ?_; clear hK K)
  refine headC_nil ?_
  refine anyK_one 13 (by kernel_rfl) ?_
  refine stepK_run rfl ?_
  intro w5' h5 K2 hK2
  have E5 := hide (E4.out.trans h5)
  have hA8 := HA7.out.setBody (c := yc) E5.out (HB4.out.of_all h5) (fun _ => Hyg.out) (Nat.le_trans HB.out HX7.out.size)
  have h4 := (HA7.out.ext E5.out).at3
  have cc : w5'.cell? ⟨g6, L.length * 3 + 1, none⟩ = some (.slice none 0 0) := h4.2.1
  have ff : w5'.frozen? ⟨g6, L.length * 3 + 1, none⟩ = false := h4.2.2.2 _
  rw [show 3 * L.length + 1 = L.length * 3 + 1 by omega] at hA8
  clear h4
  go_simp
  refine hK2 _ _ ((Grw.of_ext E5.out).trans (Grw.of_touch ((Touch.refl g6 _).set _ _) rfl)) ?_
  clear hK2 K2
  refine anyK_done (by kernel_rfl) ?_ 0
  intro w8 E8
  have hk8 : ∀ k, k < w7.heap.size → k ≠ g6 → w8.heap[k]? = w7.heap[k]? := fun k hk hne => by
   rw [Below.block E8 k (by simp; exact Nat.lt_of_lt_of_le hk (Below.size E5.out)), Below.heap_setCell _ _ _ _ (by show k ≠ g6; exact hne), Below.block E5.out k hk]
  have Hz7 : Hid (w.heap.size + 1 < w7.heap.size) := Blk.lt HB17.out (by simp [rrZ])
  have HB8 := hide (blk_hp HB7.out (hk8 w.heap.size (Nat.lt_trans (Nat.lt_succ_self _) Hz7.out) (fun e => Hne.out.1 e.symm)))
  have HB18 := hide (blk_hp HB17.out (hk8 (w.heap.size + 1) Hz7.out (fun e => Hne.out.2.1 e.symm)))
  have HA8 := hide (hA8.ext E8)
  have HX8 : Hid (Grw (Xof (Value.slice la L.length lc).ownBlock w.heap.size) w w8) := by
   have h1 : Grw (Xof (Value.slice la L.length lc).ownBlock w.heap.size) w7 w8 := ((Grw.of_ext E5.out).trans (grw_set (by
    rcases HO6.out with h | ⟨q', h, h'⟩
    ·exact .inl (by rw [← h]; rfl)
    ·have h2 : some g6 = some q' := h
     injection h2 with h2
     exact .inr (by rw [h2]; exact h')))).trans (Grw.of_ext E8)
   exact HX7.out.trans h1
  clear hA8 hk8 cc ff h5 E8 E4 E5 HB4 HB7 HB17 HA7 HX7 c0 c1 c0' c1' HS7
  have hld := rr_ld (.slice (some ⟨bb, boff, none⟩) bn bc) (.slice (some ⟨g6, 0, none⟩) (L.length + 1) lc6) 0 0 w.heap.size w8 HB8.out
  have hst := rr_st (some ⟨bb, boff, none⟩) bn bc (some ⟨g6, 0, none⟩) (L.length + 1) lc6 0 0 (w.heap.size + 1) rrZ rfl w8 HB18.out
  have hl2 := rr_ld (.slice (some ⟨bb, boff, none⟩) bn bc) (.slice (some ⟨g6, 0, none⟩) (L.length + 1) lc6) 0 0 (w.heap.size + 1) _ (Blk.putAll1 HB18.out (vs := rrL (.slice (some ⟨bb, boff, none⟩) bn bc) (.slice (some ⟨g6, 0, none⟩) (L.length + 1) lc6) 0 0) rfl)
  have HA9 : Hid (LAcc B (putL (w.heap.size + 1) 0 (rrL (.slice (some ⟨bb, boff, none⟩) bn bc) (.slice (some ⟨g6, 0, none⟩) (L.length + 1) lc6) 0 0) w8) (.slice (some ⟨g6, 0, none⟩) (L.length + 1) lc6) (L ++ [⟨f a, 0, ya, yg, 0, l1, yc, nfF l1 (fun i => f (bc + i))⟩])) := HA8.out.of_blk (fun q' hq' => heap_putL _ _ _ _ _ (by
    have hq2 : some g6 = some q' := hq'
    injection hq2 with hq2
    rw [← hq2]
    exact Hne.out.2.1)) (fun t ht h0 => heap_putL _ _ _ _ _ (by
    rcases List.mem_append.1 ht with ht | ht
    ·have := HA.out.bods.lt ht h0
     omega
    ·rw [List.mem_singleton.1 ht]
     show yg ≠ _
     have := Hyg.out
     have := Hz7.out
     omega))
  have HX9 : Hid (w.grownBy (putL (w.heap.size + 1) 0 (rrL (.slice (some ⟨bb, boff, none⟩) bn bc) (.slice (some ⟨g6, 0, none⟩) (L.length + 1) lc6) 0 0) w8) (Value.slice la L.length lc).ownBlock) := grown_grw (Grw.putL (.inr (Nat.le_succ _)) _ 0 _ HX8.out)
  clear HA8 HX8
  go_wp2_with (first | (refine wpList_ld (by first | rfl | simp [Region.wanted, yielded]) 60 _ rfl _ rfl _ hld ?_) | (refine wpList_st (by first | rfl | simp [Region.wanted, yielded]) 60 _ _ rfl _ rfl _ rfl _ hst ?_))
  refine bodyPost_ret (v := .tuple #[.agg (rrL (.slice (some ⟨bb, boff, none⟩) bn bc) (.slice (some ⟨g6, 0, none⟩) (L.length + 1) lc6) 0 0).toArray, .int .i64 (q : Int)]) (results_ct Tryz.results36 rfl rfl hl2) rfl ?_
  refine ⟨_, _, _, _, by rw [HRR.out]; rfl, fun _ => ⟨by rw [HRR.out]; show (q : Int) = (EN : Int); rw [HEn.out, Hq.out], HO6.out, _, HA9.out, ?_, ?_⟩, HX9.out⟩
  ·rw [HRR.out]
   show [ct _] = [ITM]
   rw [HIt.out, ct_one]
  ·intro t ht h0
   rw [List.mem_singleton.1 ht]
   exact ⟨Nat.le_trans HX7s.out Hyg.out, Hyn.out⟩
 ·have hcl' : ¬ l2 = bc := fun h => hcl h.symm
  have HCl : Hid (∀ W, Ext w7 W → Calls Tryz.prog 16 #[.slice (some ⟨bb, boff + l2, none⟩) l1 (bc - l2)] W fun e w' => GivesR W l1 (fun i => f (l2 + i)) e w') := fun W h => l1BytesD_any _ bb (boff + l2) l1 (bc - l2) _ W ⟨fun _ => rfl, fun i hi => by
   have := (HS7.out.of_all h).cell (l2 + i) (by omega)
   rw [Nat.add_assoc]
   exact this⟩ (by omega)
  go_wp2_with fail
  refine anyK_begin (fun q => q = g6) 14 rfl (by kernel_rfl) ?_
  refine anyK_take 0 10 4 rfl (by decide) (by kernel_rfl) (fun _ _ d _ _ h => by cases d <;> exact h) ?_
  repeat (refine headC_step (fun K hK => ?_); go_simp; refine hK _ ?_; clear hK K)
  refine headC_nil ?_
  refine anyK_one 10 (by kernel_rfl) ?_
  refine stepK_run rfl ?_
  intro w3 h3 K2 hK2
  go_simp
  refine (HCl.out w3 h3).mono ?_
  rintro r w4 ⟨v4, rfl, hO4, hE4⟩
  obtain ⟨ya, yg, yc, rfl, hyg, hyn, hyc, hyB⟩ := owns_seg hO4
  have Hyn := hide (And.intro hyn hyc)
  have E4 := hide (h3.trans hE4)
  have HB4 := hide hyB
  have Hyg : Hid (w7.heap.size ≤ yg) := Nat.le_trans (Below.size h3) hyg
  refine hK2 _ _ (.of_ext E4.out) ?_
  clear hK2 K2 h3 hO4 hE4 hyB hyg HCl hyn hyc
  refine anyK_take 11 2 1 rfl (by decide) (by kernel_rfl) (fun _ _ d _ _ h => by cases d <;> exact h) ?_
  repeat (refine headC_step (fun K hK => ?_); go_simp; refine hK _ ?_; clear hK K)
  refine headC_nil ?_
  refine anyK_one 13 (by kernel_rfl) ?_
  refine stepK_run rfl ?_
  intro w5' h5 K2 hK2
  have E5 := hide (E4.out.trans h5)
  have hA8 := HA7.out.setBody (c := yc) E5.out (HB4.out.of_all h5) (fun _ => Hyg.out) (Nat.le_trans HB.out HX7.out.size)
  have h4 := (HA7.out.ext E5.out).at3
  have cc : w5'.cell? ⟨g6, L.length * 3 + 1, none⟩ = some (.slice none 0 0) := h4.2.1
  have ff : w5'.frozen? ⟨g6, L.length * 3 + 1, none⟩ = false := h4.2.2.2 _
  rw [show 3 * L.length + 1 = L.length * 3 + 1 by omega] at hA8
  clear h4
  go_simp
  refine hK2 _ _ ((Grw.of_ext E5.out).trans (Grw.of_touch ((Touch.refl g6 _).set _ _) rfl)) ?_
  clear hK2 K2
  refine anyK_done (by kernel_rfl) ?_ 0
  intro w8 E8
  have hk8 : ∀ k, k < w7.heap.size → k ≠ g6 → w8.heap[k]? = w7.heap[k]? := fun k hk hne => by
   rw [Below.block E8 k (by simp; exact Nat.lt_of_lt_of_le hk (Below.size E5.out)), Below.heap_setCell _ _ _ _ (by show k ≠ g6; exact hne), Below.block E5.out k hk]
  have Hz7 : Hid (w.heap.size + 1 < w7.heap.size) := Blk.lt HB17.out (by simp [rrZ])
  have HB8 := hide (blk_hp HB7.out (hk8 w.heap.size (Nat.lt_trans (Nat.lt_succ_self _) Hz7.out) (fun e => Hne.out.1 e.symm)))
  have HB18 := hide (blk_hp HB17.out (hk8 (w.heap.size + 1) Hz7.out (fun e => Hne.out.2.1 e.symm)))
  have HA8 := hide (hA8.ext E8)
  have HX8 : Hid (Grw (Xof (Value.slice la L.length lc).ownBlock w.heap.size) w w8) := by
   have h1 : Grw (Xof (Value.slice la L.length lc).ownBlock w.heap.size) w7 w8 := ((Grw.of_ext E5.out).trans (grw_set (by
    rcases HO6.out with h | ⟨q', h, h'⟩
    ·exact .inl (by rw [← h]; rfl)
    ·have h2 : some g6 = some q' := h
     injection h2 with h2
     exact .inr (by rw [h2]; exact h')))).trans (Grw.of_ext E8)
   exact HX7.out.trans h1
  clear hA8 hk8 cc ff h5 E8 E4 E5 HB4 HB7 HB17 HA7 HX7 c0 c1 c0' c1' HS7
  have hld := rr_ld (.slice (some ⟨bb, boff, none⟩) bn bc) (.slice (some ⟨g6, 0, none⟩) (L.length + 1) lc6) 0 0 w.heap.size w8 HB8.out
  have hst := rr_st (some ⟨bb, boff, none⟩) bn bc (some ⟨g6, 0, none⟩) (L.length + 1) lc6 0 0 (w.heap.size + 1) rrZ rfl w8 HB18.out
  have hl2 := rr_ld (.slice (some ⟨bb, boff, none⟩) bn bc) (.slice (some ⟨g6, 0, none⟩) (L.length + 1) lc6) 0 0 (w.heap.size + 1) _ (Blk.putAll1 HB18.out (vs := rrL (.slice (some ⟨bb, boff, none⟩) bn bc) (.slice (some ⟨g6, 0, none⟩) (L.length + 1) lc6) 0 0) rfl)
  have HA9 : Hid (LAcc B (putL (w.heap.size + 1) 0 (rrL (.slice (some ⟨bb, boff, none⟩) bn bc) (.slice (some ⟨g6, 0, none⟩) (L.length + 1) lc6) 0 0) w8) (.slice (some ⟨g6, 0, none⟩) (L.length + 1) lc6) (L ++ [⟨f a, 0, ya, yg, 0, l1, yc, nfF l1 (fun i => f (l2 + i))⟩])) := HA8.out.of_blk (fun q' hq' => heap_putL _ _ _ _ _ (by
    have hq2 : some g6 = some q' := hq'
    injection hq2 with hq2
    rw [← hq2]
    exact Hne.out.2.1)) (fun t ht h0 => heap_putL _ _ _ _ _ (by
    rcases List.mem_append.1 ht with ht | ht
    ·have := HA.out.bods.lt ht h0
     omega
    ·rw [List.mem_singleton.1 ht]
     show yg ≠ _
     have := Hyg.out
     have := Hz7.out
     omega))
  have HX9 : Hid (w.grownBy (putL (w.heap.size + 1) 0 (rrL (.slice (some ⟨bb, boff, none⟩) bn bc) (.slice (some ⟨g6, 0, none⟩) (L.length + 1) lc6) 0 0) w8) (Value.slice la L.length lc).ownBlock) := grown_grw (Grw.putL (.inr (Nat.le_succ _)) _ 0 _ HX8.out)
  clear HA8 HX8
  go_wp2_with (first | (refine wpList_ld (by first | rfl | simp [Region.wanted, yielded]) 60 _ rfl _ rfl _ hld ?_) | (refine wpList_st (by first | rfl | simp [Region.wanted, yielded]) 60 _ _ rfl _ rfl _ rfl _ hst ?_))
  refine bodyPost_ret (v := .tuple #[.agg (rrL (.slice (some ⟨bb, boff, none⟩) bn bc) (.slice (some ⟨g6, 0, none⟩) (L.length + 1) lc6) 0 0).toArray, .int .i64 (q : Int)]) (results_ct Tryz.results36 rfl rfl hl2) rfl ?_
  refine ⟨_, _, _, _, by rw [HRR.out]; rfl, fun _ => ⟨by rw [HRR.out]; show (q : Int) = (EN : Int); rw [HEn.out, Hq.out], HO6.out, _, HA9.out, ?_, ?_⟩, HX9.out⟩
  ·rw [HRR.out]
   show [ct _] = [ITM]
   rw [HIt.out, ct_one]
  ·intro t ht h0
   rw [List.mem_singleton.1 ht]
   exact ⟨Nat.le_trans HX7s.out Hyg.out, Hyn.out⟩
end Go.Proofs.YtkogbinfhoiggaaGreatDoor
