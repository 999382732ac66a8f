/- Walks: a node of the model's reader (written by mkrdr.py). -/
import Derived.Test.YtkogbinfhoiggaaGreatDoorCx21
namespace Go.Proofs.YtkogbinfhoiggaaGreatDoor
set_option linter.unusedVariables false
set_option linter.unusedSimpArgs false
open Go.RowKit
theorem wr_one {j : Nat} (h : j ≤ 4000) : wrap64 ((j : Int) + 1) = (j : Int) + 1 ∧ IntKind.i64.wrap ((j : Int) + 1) = (j : Int) + 1 := by
 have h1 : wrap64 ((j : Int) + 1) = (j : Int) + 1 := by unfold wrap64; omega
 exact ⟨h1, by rw [IntWalk.i64_left]; exact h1⟩
theorem wr_ms {x y E : Nat} (h : x + 2 ≤ y) (hx : x < E) : E - ((y : Int)).toNat < E - ((x : Int)).toNat := by omega
theorem wr_sum {l1 l2 EN bn : Nat} (h : EN = l2 + l1) (h2 : EN ≤ bn) (hn : bn ≤ 4000) : wrap64 ((l2 : Int) + (l1 : Int)) = (EN : Int) := by unfold wrap64; omega
set_option maxHeartbeats 12800000 in
set_option maxRecDepth 100000 in
theorem l7Read_node (bb boff bn bc : Nat) (f : Nat → Int) (la : Option Addr) (ln lc : Nat) (L : List It) (B k a e d : Nat) (w : World) (hs : BSeg w (some ⟨bb, boff, none⟩) bb boff bn f) (hb : ∀ i, i < bn → 0 ≤ f i ∧ f i < 256) (he : e ≤ bn) (hn : bn ≤ 4000) (hbc : bn ≤ bc) (hbc2 : bc ≤ 9223372036854775807)
  (hA : LAcc B w (.slice la ln lc) L) (hB : B ≤ w.heap.size) (hbB : 0 < bn → bb < B) (hLa : L.length ≤ a) (hok : (hdC f a e d).1 = 0) (hm : mdT (f a) = true)
  (HD : Hid (∀ (x : Nat) (ga : Option Addr) (gn gc : Nat) (LL : List It) (W : World), BSeg W (some ⟨bb, boff, none⟩) bb boff bn f → LAcc B W (.slice ga gn gc) LL → B ≤ W.heap.size → LL.length ≤ x → x ≤ hdE f a e →
   Calls Tryz.prog 36 #[.agg (rrL (.slice (some ⟨bb, boff, none⟩) bn bc) (.slice ga gn gc) 0 0).toArray, .int .i64 (x : Int), .int .i64 (hdE f a e : Int), .int .i64 ((d : Int) + 1)] W (GivesRr B W (.slice (some ⟨bb, boff, none⟩) bn bc) (.slice ga gn gc) (rdT f k x (hdE f a e) (d + 1)) LL))) :
  Calls Tryz.prog 36 #[.agg (rrL (.slice (some ⟨bb, boff, none⟩) bn bc) (.slice la ln lc) 0 0).toArray, .int .i64 (a : Int), .int .i64 (e : Int), .int .i64 (d : Int)] w (GivesRr B w (.slice (some ⟨bb, boff, none⟩) bn bc) (.slice la ln lc) (rdT f (k + 1) a e d) L) := by
 have Hbc := hide (And.intro hbc hbc2)
 clear hbc hbc2
 have HhL : Hid (L.length ≤ 100000) := by have := (hdC_ok hok).1; show _ ≤ _; omega
 obtain ⟨V, hV⟩ : ∃ V, (w.alloc (.cells (rrL (.slice (some ⟨bb, boff, none⟩) bn bc) (.slice la ln lc) 0 0).toArray 60)).alloc (.cells #[.slice none 0 0, .slice none 0 0, .int .i64 0, .int .i64 0] 60) = V := ⟨_, rfl⟩
 obtain ⟨B0, B1, hE, -⟩ := box2 w (rrL (.slice (some ⟨bb, boff, none⟩) bn bc) (.slice la ln lc) 0 0) rrZ 60 60 (w1 := V) (by rw [← hV]; exact Ext.refl _)
 have h0 := hdC_ok hok
 have hs1 := hs.of_all hE
 have c0 := (B0 0 _ rfl).1
 have c1 := (B0 1 _ rfl).1
 have k1 := hs1.cell a (by omega)
 have b1 := hb a (by omega)
 have g1 : ¬ (e : Int) ≤ (a : Int) := by omega
 have g2 : (a : Int) < (bn : Int) := by omega
 have m1 : Int.tmod (f a) 32 = f a % 32 := by rw [Int.tmod_eq_emod_of_nonneg b1.1]
 have M1 := hide m1
 clear m1
 have g4 : (f a % 32 == 31) = false := by simp [h0.2.1]
 have g3 : ¬ (12 : Int) < (d : Int) := by omega
 have ha4 : a ≤ 4000 := by omega
 have w0 : wrap64 ((a : Int) + 1) = (a : Int) + 1 := by unfold wrap64; omega
 have HSz : Hid (∀ W, BSeg W (some ⟨bb, boff, none⟩) bb boff bn f → Calls Tryz.prog 62 #[(.slice (some ⟨bb, boff, none⟩) bn bc), .int .i64 ((a : Int) + 1), .int .i64 (e : Int)] W fun en w' => en = .returned (lzV f a e) ∧ w' = W) := fun W h => l7Size_any _ bb boff bn bc f a e W h hb he hn ha4
 have hz : lzV f a e = .tuple #[.int .i64 ((lnR f a e).1 : Int), .int .i64 ((lnR f a e).2.1 : Int), .int .i64 0] := by unfold lzV lzS; rw [h0.2.2.2.1, if_pos rfl]
 rw [hz] at HSz
 clear hz
 have hst1 : a + 2 ≤ (lnR f a e).2.1 := h0.2.2.2.2.2.1
 have hen1 : (lnR f a e).2.1 + (lnR f a e).1 ≤ e := h0.2.2.2.2.1
 have hln := hA.len_n
 have HA := hide hA
 have HAV := hide (hA.ext hE)
 have HE := hide hE
 have HB0 := hide B0
 have HB1 := hide B1
 have HwV : Hid (w.heap.size + 1 < V.heap.size) := hide (Blk.lt B1 (by simp [rrZ]))
 have HoL : Hid (∀ q, (Value.slice la ln lc).ownBlock = some q → q < w.heap.size ∧ B ≤ q) := hide (fun q hq => ⟨(hA.row.lt q hq).2, (hA.row.lt q hq).1⟩)
 have Hs1 := hide hs1
 have HB := hide hB
 have HbB := hide hbB
 obtain ⟨Q0, hQ0⟩ : ∃ Q0, rdK (fun x => rdT f k x (hdE f a e) (d + 1)) (hdE f a e) (hdE f a e - hdS f a e) (hdS f a e) = Q0 := ⟨_, rfl⟩
 have HRR := hide (rdT_node hok hm Q0 hQ0)
 have HQ0 := hide hQ0
 clear hQ0
 have Hnx : Hid (∀ x, (rdT f k x (hdE f a e) (d + 1)).code = 0 → (x + 2 ≤ (rdT f k x (hdE f a e) (d + 1)).nx ∧ (rdT f k x (hdE f a e) (d + 1)).nx ≤ hdE f a e) ∧ (rdT f k x (hdE f a e) (d + 1)).its.length + x ≤ (rdT f k x (hdE f a e) (d + 1)).nx) := fun x hx => ⟨rdT_nx f k x _ _ hx, rdT_len f k x _ _ hx⟩
 have HS0 : Hid (hdS f a e = (lnR f a e).2.1) := rfl
 have hd12 : d ≤ 12 := h0.2.2.1
 have Hwd : Hid (wrap64 ((d : Int) + 1) = (d : Int) + 1) := by show _ = _; unfold wrap64; omega
 have HEn : Hid (hdE f a e = (lnR f a e).2.1 + (lnR f a e).1) := rfl
 have HMd : Hid (∀ W, Calls Tryz.prog 63 #[.int .i64 (f a)] W fun en w' => en = .returned (.bool true) ∧ w' = W) := hide (fun W => by
  have := l7Made_any (f a) W b1.1 (by omega)
  have e2 : decide (f a / 32 % 2 = 1) = true := hm
  rw [e2] at this
  exact this)
 generalize rdT f (k + 1) a e d = RR at *
 obtain ⟨rd, hrd⟩ : ∃ rd : Nat → Rdr, (fun x => rdT f k x (hdE f a e) (d + 1)) = rd := ⟨_, rfl⟩
 have hrx : ∀ x, rdT f k x (hdE f a e) (d + 1) = rd x := fun x => by rw [← hrd]
 simp only [hrx] at HD Hnx HQ0
 clear hrx hrd
 generalize hdE f a e = EN at *
 generalize hdS f a e = ST at *
 have hbI : ∀ i, i < (lnR f a e).1 → True := fun _ _ => trivial
 generalize (lnR f a e).1 = l1 at *
 generalize (lnR f a e).2.1 = l2 at *
 have g6h : ¬ (e : Int) < (EN : Int) := by clear w0; have := HEn.out; omega
 have HEe : Hid (EN ≤ bn) := by show _ ≤ _; have := HEn.out; clear w0; omega
 have Hl12 : Hid (l2 + l1 ≤ bn) := hide (by clear w0; omega)
 have w5 : wrap64 ((l2 : Int) + (l1 : Int)) = (EN : Int) := wr_sum HEn.out HEe.out hn
 have Hst : Hid (L.length + 1 ≤ l2 ∧ l2 ≤ EN ∧ ST = l2) := ⟨by clear w0; omega, by rw [HEn.out]; exact Nat.le_add_right _ _, HS0.out⟩
 clear ha4 h0 hok hm hb hs hs1 hA hB hbB B0 B1 hE hbI hLa hst1 hen1 hd12 HS0
 subst hln
 have m1 := M1.out
 clear M1
 go_enter Tryz.func36, Tryz.ntmps36
 go_wp2_with fail
 refine (HSz.out _ Hs1.out).mono ?_
 rintro en w9 ⟨rfl, hw9⟩
 obtain rfl := hw9.symm
 clear hw9 HSz
 go_wp2_with (at_builtin; refine stop_app rfl ?_)
 refine hide ?_
 have lat := HAV.out.later (Ext.alloc V (.cells #[.int .i64 (f a), .slice none 0 0, .int .i64 0] 40)) ((Bods.nil V.heap.size (V.alloc (.cells #[.int .i64 (f a), .slice none 0 0, .int .i64 0] 40))).bare (f a) 0) (Nat.le_trans HB.out (Below.size HE.out))
 refine wpList_appG rfl _ _ rfl B V.heap.size V _ _ L [bare (f a) 0] rfl HAV.out (Ext.alloc V _) rfl (ownsRow_it V (bare (f a) 0)) lat.1 lat.2 (by have := HhL.out; simp; omega) (Nat.le_trans HB.out (Below.size HE.out)) ?_
 intro v6 w6 hA6 hG6 hO6
 obtain ⟨g6, lc6, rfl, hg6, hg6s⟩ := slc_at hA6.row (by simp)
 have hl6 : (L ++ [bare (f a) 0]).length = L.length + 1 := by simp
 rw [hl6]
 rw [hl6] at hA6 hO6
 clear lat hl6
 have HA6 := hide hA6
 have HGx : Hid (∀ k, k < V.heap.size → (Value.slice la L.length lc).ownBlock ≠ some k → w6.heap[k]? = V.heap[k]?) := hide (fun k hk hne => (hG6.block k (by simp; omega) (fun e => hne e.symm)).trans (Below.block (Ext.alloc V _) k hk))
 have HG6 := hide hG6
 have Hne : Hid (g6 ≠ w.heap.size ∧ g6 ≠ w.heap.size + 1 ∧ B ≤ g6) := hide (by
  have hv := HwV.out
  have h2 : (Value.slice (some ⟨g6, 0, none⟩) (L.length + 1) lc6).ownBlock = some g6 := rfl
  rw [h2] at hO6
  rcases hO6 with h | h
  ·have := HoL.out g6 h.symm
   omega
  ·simp at h
   omega)
 have HO6 : Hid ((Value.slice (some ⟨g6, 0, none⟩) (L.length + 1) lc6).ownBlock = (Value.slice la L.length lc).ownBlock ∨ ∃ q, (Value.slice (some ⟨g6, 0, none⟩) (L.length + 1) lc6).ownBlock = some q ∧ w.heap.size ≤ q) := hide (by
  rcases hO6 with h | h
  ·exact .inl h
  ·exact .inr ⟨_, h, by have := HwV.out; simp; omega⟩)
 replace HB0 := hide (blk_hp HB0.out (HGx.out w.heap.size (by have := HwV.out; omega) (fun e => by have := (HoL.out _ e).1; omega)))
 replace HB1 := hide (blk_hp HB1.out (HGx.out (w.heap.size + 1) HwV.out (fun e => by have := (HoL.out _ e).1; omega)))
 have c16 := (HB0.out 1 _ rfl).1
 have f16 := (HB0.out 1 _ rfl).2
 have hB7 : Blk (w6.setCell ⟨w.heap.size, 1, none⟩ (.slice (some ⟨g6, 0, none⟩) (L.length + 1) lc6)) w.heap.size (rrL (.slice (some ⟨bb, boff, none⟩) bn bc) (.slice (some ⟨g6, 0, none⟩) (L.length + 1) lc6) 0 0) := Blk.set1 HB0.out 1 _ (by simp [rrL])
 have hB17 : Blk (w6.setCell ⟨w.heap.size, 1, none⟩ (.slice (some ⟨g6, 0, none⟩) (L.length + 1) lc6)) (w.heap.size + 1) rrZ := Blk.apart1 HB1.out _ (by omega)
 have hA7 : LAcc B (w6.setCell ⟨w.heap.size, 1, none⟩ (.slice (some ⟨g6, 0, none⟩) (L.length + 1) lc6)) (.slice (some ⟨g6, 0, none⟩) (L.length + 1) lc6) (L ++ [bare (f a) 0]) := HA6.out.of_blk (fun q hq => Below.heap_setCell _ _ _ _ (by
  show q ≠ w.heap.size
  have hq2 : some g6 = some q := hq
  injection hq2 with hq2
  rw [← hq2]
  exact Hne.out.1)) (fun t ht h0 => Below.heap_setCell _ _ _ _ (by
  show t.blk ≠ w.heap.size
  rcases List.mem_append.1 ht with ht | ht
  ·have := HA.out.bods.lt ht h0
   omega
  ·rw [List.mem_singleton.1 ht] at h0
   exact absurd h0 (Nat.lt_irrefl _)))
 have hX7 : Grw (Xof (Value.slice la L.length lc).ownBlock w.heap.size) w (w6.setCell ⟨w.heap.size, 1, none⟩ (.slice (some ⟨g6, 0, none⟩) (L.length + 1) lc6)) := ((Grw.of_ext (HE.out.trans (Ext.alloc V _))).trans (grwX_grown HG6.out (fun q hq => .inl hq))).trans (grw_set (.inr (Nat.le_refl _)))
 have hS7 : BSeg (w6.setCell ⟨w.heap.size, 1, none⟩ (.slice (some ⟨g6, 0, none⟩) (L.length + 1) lc6)) (some ⟨bb, boff, none⟩) bb boff bn f := ⟨fun _ => rfl, fun i hi => (World.cell?_of_block (a := ⟨bb, boff + i, none⟩) (by
  have hbl := Hs1.out.lt (by omega)
  have hb1 := HbB.out (by omega)
  rw [Below.heap_setCell _ _ _ _ (by show bb ≠ w.heap.size; have := HB.out; omega)]
  exact HGx.out bb hbl (fun e => by have := (HoL.out _ e).2; omega))).trans (Hs1.out.cell i hi)⟩
 obtain ⟨w7, hw7⟩ : ∃ W, w6.setCell ⟨w.heap.size, 1, none⟩ (.slice (some ⟨g6, 0, none⟩) (L.length + 1) lc6) = W := ⟨_, rfl⟩
 rw [hw7] at hB7 hB17 hA7 hX7 hS7
 have HB7 := hide hB7
 have HB17 := hide hB17
 have HA7 := hide hA7
 have HX7 := hide hX7
 have HS7 := hide hS7
 clear hA6 hG6 hO6 hg6 hg6s HA6 HGx HG6 hB7 hB17 hA7 hX7 hS7 HB0 HB1 HAV
 have HI : Hid (RdI w B bb boff bn bc f (Value.slice la L.length lc).ownBlock (f a) L l2 EN rd Q0 l2 0 [] g6 lc6 (L.length + 1) w7) := by
  refine ⟨by simp, HB7.out, HB17.out, HA7.out, HS7.out, ⟨Hne.out.1, Hne.out.2.1⟩, ?_, (fun t ht => by cases ht), (fun t ht h0 => HA.out.bods.lt ht h0), Nat.le_refl _, Hst.out.2.1, Hst.out.1, Nat.zero_le _, ?_, HX7.out, HbB.out, HB.out⟩
  ·rcases HO6.out with h | ⟨q, h, h'⟩
   ·exact .inl h.symm
   ·have h2 : some g6 = some q := h
    injection h2 with h2
    exact .inr (by rw [h2]; exact h')
  ·refine ⟨EN - l2, Nat.le_refl _, ?_⟩
   have := HQ0.out
   rw [Hst.out.2.2] at this
   rw [this]
   exact ⟨fun _ => ⟨rfl, rfl⟩, fun h => ⟨h, by simp, by simp⟩⟩
 have Hoo : Hid (∀ q, (Value.slice la L.length lc).ownBlock = some q → q < w.heap.size) := fun q hq => (HoL.out q hq).1
 clear HQ0 HB7 HB17 HA7 HX7 HS7 HO6 Hne HA HoL Hs1 HE HwV HB HbB
 generalize hoo : (Value.slice la L.length lc).ownBlock = oo at *
 have HOO := hide hoo
 clear hoo
 go_wp2_with fail
 refine (HMd.out _).mono ?_
 rintro en w9 ⟨rfl, hw9⟩
 obtain rfl := hw9.symm
 clear hw9 HMd c16 f16 hw7 c0 c1 k1 g1 g2 m1 g4 g3 w0 b1 g6h
 go_wp2
 go_loopw [15] (fun nv wr => ∃ (x j : Nat) (M : List It) (g lcx n : Nat), nv = .int .i64 (x : Int) ∧ RdI w B bb boff bn bc f oo (f a) L l2 EN rd Q0 x j M g lcx n wr) (fun nv _ => EN - (intOf nv).toNat)
 case atStart => exact ⟨l2, 0, [], g6, lc6, L.length + 1, rfl, HI.out⟩
 case round =>
  clear HI
  obtain ⟨x, j, M, g, lcx, n, rfl, hI⟩ := hrel
  have HI := hide hI
  have hld := rr_ld (.slice (some ⟨bb, boff, none⟩) bn bc) (.slice (some ⟨g, 0, none⟩) n lcx) 0 0 w.heap.size wr hI.b0
  clear hI
  by_cases hx : x < EN
  ·have hxi : (x : Int) < (EN : Int) := by omega
   have wd := Hwd.out
   have HDx := hide (HD.out x (some ⟨g, 0, none⟩) n lcx (L ++ bare (f a) j :: M) wr HI.out.s HI.out.l (Nat.le_trans HI.out.Bw HI.out.grw.size) (by have h1 := HI.out.len; have h2 := HI.out.n'; simp; omega) (Nat.le_of_lt hx))
   go_wp2_with (refine wpList_ld (by first | rfl | simp [Region.wanted, yielded]) 60 _ rfl _ rfl _ hld ?_)
   refine HDx.out.mono ?_
   rintro en w2 ⟨la2, ln2, lc2, z, rfl, hres, hgr⟩
   have Hres := hide hres
   have Hgr := hide hgr
   clear hres hgr HDx hld wd
   by_cases hc : (rd x).code = 0
   ·obtain ⟨hz, hO2, Mn, hA2, hct2, hnew2⟩ := Hres.out hc
    subst hz
    obtain ⟨hnx, hln2⟩ := Hnx.out x hc
    obtain ⟨g2, rfl, hg2, hB2, hN2⟩ := HI.out.next hx hc hnx hln2 hO2 hA2 hct2 hnew2 Hgr.out
    have HN2 := hide hN2
    have Hg2 := hide hg2
    have Hnx2 := hide hnx
    have Hj : Hid (j ≤ 4000) := Nat.le_trans HI.out.j1 (Nat.le_trans (Nat.le_of_lt hx) (Nat.le_trans HEe.out hn))
    have HLn : Hid (L.length + 1 ≤ ln2) := by have h1 := hA2.len_n; show _ ≤ _; rw [h1]; simp <;> omega
    have hst := rr_st (some ⟨bb, boff, none⟩) bn bc (some ⟨g2, 0, none⟩) ln2 lc2 0 0 w.heap.size _ rfl w2 hB2
    have c2 := ((HN2.out _ (Ext.refl _)).1 2 _ rfl).1
    rw [hc, if_pos rfl]
    clear hO2 hA2 hct2 hnew2 hnx hln2 hB2 hN2 Hres Hgr hg2
    obtain ⟨W2, hW2⟩ : ∃ W2, putL w.heap.size 0 (rrL (.slice (some ⟨bb, boff, none⟩) bn bc) (.slice (some ⟨g2, 0, none⟩) ln2 lc2) 0 0) w2 = W2 := ⟨_, rfl⟩
    rw [hW2] at hst HN2 c2
    clear hW2
    have c1 := ((HN2.out _ (Ext.refl _)).1 1 _ rfl).1
    have c1' := fun p : ReC (fun q => q = g2) W2 => cell_reC c1 (by show ¬ w.heap.size = g2; exact fun e => Hg2.out e.symm) p
    have i2 : (L.length : Int) < (ln2 : Int) := by have := HLn.out; omega
    obtain ⟨wj, wj'⟩ := wr_one Hj.out
    go_wp2_with (refine wpList_st (by first | rfl | simp [Region.wanted, yielded]) 60 _ _ rfl _ rfl _ rfl _ hst ?_)
    refine anyK_begin (fun q => q = g2) 13 rfl (by kernel_rfl) ?_
    refine anyK_take 0 8 5 rfl (by decide) (by kernel_rfl) (fun _ _ d _ _ h => by cases d <;> exact h) ?_
    repeat (refine headC_step (fun K hK => ?_); go_simp; refine hK _ ?_; clear hK K)
    refine headC_nil ?_
    refine anyK_one 8 (by kernel_rfl) ?_
    refine stepK_run rfl ?_
    intro w3 h3 K2 hK2
    have cj := (HN2.out w3 h3).2.1
    go_simp
    refine hK2 _ _ (.of_ext h3) ?_
    clear hK2 K2 cj
    refine anyK_take 9 3 1 rfl (by decide) (by kernel_rfl) (fun _ _ d _ _ h => by cases d <;> exact h) ?_
    repeat (refine headC_step (fun K hK => ?_); go_simp; refine hK _ ?_; clear hK K)
    refine headC_nil ?_
    refine anyK_one 12 (by kernel_rfl) ?_
    refine stepK_run rfl ?_
    intro w4 h4 K2 hK2
    have H4 := hide (HN2.out w4 (h3.trans h4))
    have cj := H4.out.2.1
    have fj := H4.out.2.2.1
    go_simp
    refine hK2 _ _ ((Grw.of_ext (h3.trans h4)).trans (Grw.of_touch ((Touch.refl g2 _).set _ _) rfl)) ?_
    clear hK2 K2 cj fj
    refine anyK_done (by kernel_rfl) ?_ 0
    intro w8 E8
    have HI8 := hide (H4.out.2.2.2 w8 E8)
    clear E8 H4 h3 h4 HN2 c1 c1' c2 hst
    go_wp2
    go_roundw
    case rel => exact ⟨(rd x).nx, j + 1, _, g2, lc2, ln2, rfl, HI8.out⟩
    case measure =>
     simp only [intOf]
     exact wr_ms Hnx2.out.1 hx
   ·obtain ⟨hB2, hB3, hB4, hG9, hq1, hq2⟩ := HI.out.bad hx hc la2 ln2 lc2 (rd x).code (rd x).pl Hgr.out
    obtain ⟨hr1, hr2⟩ := HRR.out.1 (by rw [hq1]; exact hc)
    have HG9 := hide hG9
    have Hr1 := hide (hr1.trans hq1)
    have Hr2 := hide (hr2.trans hq2)
    have Hc := hide hc
    have hst := rr_st (some ⟨bb, boff, none⟩) bn bc la2 ln2 lc2 (rd x).code (rd x).pl w.heap.size _ rfl w2 hB2
    have hld2 := rr_ld (.slice (some ⟨bb, boff, none⟩) bn bc) (.slice la2 ln2 lc2) (rd x).code (rd x).pl w.heap.size _ hB3
    have hst2 := rr_st (some ⟨bb, boff, none⟩) bn bc la2 ln2 lc2 (rd x).code (rd x).pl (w.heap.size + 1) rrZ rfl _ hB4
    have hl2 := rr_ld (.slice (some ⟨bb, boff, none⟩) bn bc) (.slice la2 ln2 lc2) (rd x).code (rd x).pl (w.heap.size + 1) _ (Blk.putAll1 hB4 (vs := rrL (.slice (some ⟨bb, boff, none⟩) bn bc) (.slice la2 ln2 lc2) (rd x).code (rd x).pl) rfl)
    have c2 := (hB3 2 _ rfl).1
    have cn : ((rd x).code != 0) = true := by simpa using hc
    rw [if_neg hc]
    clear hB2 hB3 hB4 hG9 hq1 hq2 hr1 hr2 hc Hres Hgr HI
    generalize (rd x).code = cc at *
    generalize (rd x).pl = pp at *
    obtain ⟨W2, hW2⟩ : ∃ W2, putL w.heap.size 0 (rrL (.slice (some ⟨bb, boff, none⟩) bn bc) (.slice la2 ln2 lc2) cc pp) w2 = W2 := ⟨_, rfl⟩
    rw [hW2] at hst hld2 hst2 hl2 c2 HG9
    clear hW2
    go_wp2_with (first | (refine wpList_ld (by first | rfl | simp [Region.wanted, yielded]) 60 _ rfl _ rfl _ hld2 ?_) | (refine wpList_st (by first | rfl | simp [Region.wanted, yielded]) 60 _ _ rfl _ rfl _ rfl _ hst ?_) | (refine wpList_st (by first | rfl | simp [Region.wanted, yielded]) 60 _ _ rfl _ rfl _ rfl _ hst2 ?_))
    refine bodyPost_ret (v := .tuple #[.agg (rrL (.slice (some ⟨bb, boff, none⟩) bn bc) (.slice la2 ln2 lc2) cc pp).toArray, .int .i64 z]) (results_ct Tryz.results36 rfl rfl hl2) rfl ?_
    exact ⟨la2, ln2, lc2, z, by rw [Hr1.out, if_neg Hc.out, Hr2.out], fun h => absurd (Hr1.out.symm.trans h) Hc.out, by rw [HOO.out]; exact HG9.out⟩
  ·have hxi : ¬ (x : Int) < (EN : Int) := by omega
   obtain ⟨h1, h2, h3, h4, h5, h6⟩ := HI.out.fin hx (rrL (.slice (some ⟨bb, boff, none⟩) bn bc) (.slice (some ⟨g, 0, none⟩) n lcx) 0 0)
   obtain ⟨r1, r2, r3⟩ := HRR.out.2 h3
   have H1 := hide h1
   have H2 := hide h2
   have H4 := hide (h4.trans r3.symm)
   have H5 := hide h5
   have H6 := hide h6
   have R1 := hide r1
   have R2 := hide r2
   have hst2 := rr_st (some ⟨bb, boff, none⟩) bn bc (some ⟨g, 0, none⟩) n lcx 0 0 (w.heap.size + 1) rrZ rfl wr HI.out.b1
   have hl2 := rr_ld (.slice (some ⟨bb, boff, none⟩) bn bc) (.slice (some ⟨g, 0, none⟩) n lcx) 0 0 (w.heap.size + 1) _ (Blk.putAll1 HI.out.b1 (vs := rrL (.slice (some ⟨bb, boff, none⟩) bn bc) (.slice (some ⟨g, 0, none⟩) n lcx) 0 0) rfl)
   have hld2 := hld
   clear h1 h2 h3 h4 h5 h6 r1 r2 r3 HI hld
   go_wp2_with (first | (refine wpList_ld (by first | rfl | simp [Region.wanted, yielded]) 60 _ rfl _ rfl _ hld2 ?_) | (refine wpList_st (by first | rfl | simp [Region.wanted, yielded]) 60 _ _ rfl _ rfl _ rfl _ hst2 ?_))
   refine bodyPost_ret (v := .tuple #[.agg (rrL (.slice (some ⟨bb, boff, none⟩) bn bc) (.slice (some ⟨g, 0, none⟩) n lcx) 0 0).toArray, .int .i64 (EN : Int)]) (results_ct Tryz.results36 rfl rfl hl2) rfl ?_
   exact ⟨_, _, _, _, by rw [R1.out]; rfl, fun _ => ⟨by rw [R2.out], by rw [HOO.out]; exact H6.out, _, H1.out, H4.out, H5.out⟩, by rw [HOO.out]; exact H2.out⟩
end Go.Proofs.YtkogbinfhoiggaaGreatDoor
