/- Walks: the model's Part: its loop. -/
import Derived.Test.YtboaiojapgiedaaIAc
import Derived.Test.YtboaiojapgiedaaChi
import Derived.Test.YtboaiojapgiedaaDerW
import Derived.Test.YtboaiojapgiedaaStepsC
namespace Go.Proofs.Ytboaiojapgiedaa
set_option linter.unusedVariables false
set_option linter.unusedSimpArgs false
open Go.RowKit

/-- The same items but for where their bodies lie. -/
def SameI (y : Nat → It) (x : Nat → It) (i m : Nat) : Prop := ∀ j, j < m → (y j).tag = (x (i + j)).tag ∧ (y j).kid = (x (i + j)).kid ∧ (y j).len = (x (i + j)).len ∧ (y j).f = (x (i + j)).f
theorem SameI.step {y x : Nat → It} {i m : Nat} {t : It} (h : SameI y x i m) (h1 : t.tag = (x (i + m)).tag) (h2 : t.kid = (x (i + m)).kid) (h3 : t.len = (x (i + m)).len) (h4 : t.f = (x (i + m)).f) : SameI (updI y m t) x i (m + 1) := fun j hj => by
  by_cases c : j = m
  · subst c; rw [updI_same]; exact ⟨h1, h2, h3, h4⟩
  · rw [updI_other _ _ c]; exact h j (by omega)

theorem grw_belowI {B : Nat} {W W' : World} (h : Below B W W') : Grw (fun q => B ≤ q) W W' := ⟨h.os, h.tape, h.output, h.size, fun k hk hX => h.block k (Nat.lt_of_not_le hX)⟩

theorem IAcc.nil (w : World) : IAcc w.heap.size (w.alloc (.cells #[] 49)) (.slice (some ⟨w.heap.size, 0, none⟩) 0 0) 0 (fun _ => ⟨0, 0, none, 0, 0, 0, 0, fun _ => 0⟩) :=
  ⟨World.ownsRow_made (base := w.heap.size) (e := 49) (size := 3) w #[] 0 (Nat.le_refl _) (by simp) rfl, fun i hi => absurd hi (by omega), fun i hi => absurd hi (by omega), fun i j hi => absurd hi (by omega)⟩

set_option maxHeartbeats 1600000 in
set_option maxRecDepth 100000 in
theorem l7Part_any (b off n cap : Nat) (x : Nat → It) (i e : Nat) (w : World) (hs : ISeg w (some ⟨b, off, none⟩) b off n x) (hn : n ≤ 300) (hkid : ∀ i, i < n → 0 ≤ (x i).kid ∧ (x i).kid ≤ 300) (hl : ∀ i, i < n → (x i).len ≤ 1048576) (hie : i < e) (hen : e ≤ n)
    (hE : endF (fun j => (x j).kid) n 13 i = e) :
    Calls Try.prog 27 #[.slice (some ⟨b, off, none⟩) n cap, .int .i64 (i : Int)] w fun r w' => ∃ v, r = .returned v ∧ ∃ y, IAcc w.heap.size w' v (e - i) y ∧ SameI y x i (e - i) ∧ Ext w w' := by
  have HEn : Hid (∀ (W : World), Ext w W → Calls Try.prog 57 #[.slice (some ⟨b, off, none⟩) n cap, .int .i64 (i : Int), .int .i64 0] W fun r w' => r = .returned (.int .i64 (e : Int)) ∧ Ext W w') := fun W h2 => by
    have := l7End_any (some ⟨b, off, none⟩) b off n cap x w hs (by omega) (fun i hi => by have := hkid i hi; omega) 13 i 0 W rfl (by omega) h2
    rw [hE] at this
    exact this
  have H0 := hide (IAcc.nil w)
  have Hs := hide hs
  clear hs hE
  go_enter Try.func27, Try.ntmps27
  go_wp2_with (go_at_call 57; refine (HEn.out _ (Ext.alloc _ _)).mono ?_; rintro r w1 ⟨rfl, hE1⟩; have HE1 := hide hE1; clear hE1)
  go_loopw [5, 7] (fun v k wr => ∃ (m : Nat) (y : Nat → It), i + m ≤ e ∧ k = .int .i64 ((i + m : Nat) : Int) ∧ IAcc w.heap.size wr v m y ∧ SameI y x i m ∧ Ext w wr) (fun _ k _ => e - (intOf k).toNat)
  case atStart => exact ⟨0, _, by omega, rfl, H0.out.of_all HE1.out, fun j hj => absurd hj (by omega), Ext.trans (Ext.alloc _ _) HE1.out⟩
  case round =>
    clear H0 HE1 HEn
    obtain ⟨m, y, hm, rfl, hA, hS, hE⟩ := hrel
    have HA := hide hA
    have HS := hide hS
    have HE := hide hE
    clear hA hS hE
    by_cases hlt : i + m < e
    · have hjk : ((i + m : Nat) : Int) < (e : Int) := by omega
      have hin : ((i + m : Nat) : Int) < (n : Int) := by omega
      have hsW := Hs.out.of_all HE.out
      have c0 := hsW.c0 (i + m) (by omega)
      have c1 := hsW.c1 (i + m) (by omega)
      have c2 := hsW.c2 (i + m) (by omega)
      have hbb := hsW.body (i + m) (by omega)
      have hbl : b < w.heap.size := Hs.out.lt (by omega)
      have hwr := Below.size HE.out
      have hll := hl (i + m) (by omega)
      have HBd := hide hbb
      clear hsW hbb
      have HCl := hide (fun W (h : Ext wr W) => l1BytesD_any (x (i + m)).ad (x (i + m)).blk (x (i + m)).off (x (i + m)).len (x (i + m)).cap (x (i + m)).f W (HBd.out.of_all h) (by omega))
      clear HBd
      obtain ⟨t, ht⟩ : ∃ t, t = x (i + m) := ⟨_, rfl⟩
      rw [← ht] at c0 c1 c2 HCl hll
      have Ht := hide ht
      clear ht
      obtain ⟨tag, kid, ad, blk, toff, len, tcap, f⟩ := t
      simp only at c0 c1 c2 HCl hll
      have HT : Hid (tag = (x (i + m)).tag ∧ kid = (x (i + m)).kid ∧ len = (x (i + m)).len ∧ f = (x (i + m)).f) := by
        rw [← Ht.out]
        exact ⟨rfl, rfl, rfl, rfl⟩
      clear Ht
      obtain ⟨j, hj⟩ : ∃ j, i + m = j := ⟨_, rfl⟩
      rw [hj] at c0 c1 c2 hlt hjk hin hm ⊢
      have c0' := fun p : ReC (fun q => w.heap.size ≤ q) wr => cell_reC c0 (by show ¬ w.heap.size ≤ b; omega) p
      have c1' := fun p : ReC (fun q => w.heap.size ≤ q) wr => cell_reC c1 (by show ¬ w.heap.size ≤ b; omega) p
      have c2' := fun p : ReC (fun q => w.heap.size ≤ q) wr => cell_reC c2 (by show ¬ w.heap.size ≤ b; omega) p
      go_wp2_with fail
      refine anyK_begin (fun q => w.heap.size ≤ q) 21 rfl (by kernel_rfl) ?_
      refine anyK_take 0 11 10 rfl (by decide) (by kernel_rfl) (fun _ _ d _ _ h => by cases d <;> exact h) ?_
      repeat (refine headC_step (fun K hK => ?_); go_simp; first | (refine hK _ ?_; clear hK K) | (apply Exists.intro; refine ⟨fun p => ?_, hK _ ?_⟩; (fail); clear hK K))
      refine headC_nil ?_
      refine anyK_take 12 5 5 rfl (by decide) (by kernel_rfl) (fun _ _ d _ _ h => by cases d <;> exact h) ?_
      repeat (refine headC_step (fun K hK => ?_); go_simp; first | (refine hK _ ?_; clear hK K) | (apply Exists.intro; refine ⟨fun p => ?_, hK _ ?_⟩; (fail); clear hK K))
      refine headC_nil ?_
      clear c0' c1' c2' c0 c1 c2
      refine anyK_one 11 (by kernel_rfl) ?_
      refine stepK_run rfl ?_
      intro w3 h3 K2 hK2
      go_simp
      refine (HCl.out w3 h3).mono ?_
      rintro r w4 ⟨v4, rfl, hO4, hE4⟩
      obtain ⟨ya, yg, yc, rfl, hyg, hyn, hyc, hyB⟩ := owns_seg hO4
      have E4 := hide (h3.trans hE4)
      have HB4 := hide hyB
      have hyg2 : wr.heap.size ≤ yg := Nat.le_trans (Below.size h3) hyg
      refine hK2 _ _ (.of_ext E4.out) ?_
      clear hK2 K2 h3 hO4 hE4 hyB hyg HCl
      refine anyK_take 17 1 3 rfl (by decide) (by kernel_rfl) (fun _ _ d _ _ h => by cases d <;> exact h) ?_
      repeat (refine headC_step (fun K hK => ?_); go_simp; first | (refine hK _ ?_; clear hK K) | (apply Exists.intro; refine ⟨fun p => ?_, hK _ ?_⟩; (fail); clear hK K))
      refine headC_nil ?_
      refine anyK_one 18 (by kernel_rfl) ?_
      refine stepK_run rfl ?_
      intro w5 h5 K2 hK2
      go_simp
      have E6 := hide ((E4.out.trans h5).trans (Ext.alloc w5 (.cells #[.int .i64 tag, .slice ya len yc, .int .i64 kid] 49)))
      have HB6 := hide ((HB4.out.of_all h5).of_all (Ext.alloc w5 (.cells #[.int .i64 tag, .slice ya len yc, .int .i64 kid] 49)))
      have d0 : (w5.alloc (.cells #[.int .i64 tag, .slice ya len yc, .int .i64 kid] 49)).cell? ⟨w5.heap.size, 0, none⟩ = some (.int .i64 tag) := World.cell?_alloc_new _ _ _ _
      have d1 : (w5.alloc (.cells #[.int .i64 tag, .slice ya len yc, .int .i64 kid] 49)).cell? ⟨w5.heap.size, 1, none⟩ = some (.slice ya len yc) := World.cell?_alloc_new _ _ _ _
      have d2 : (w5.alloc (.cells #[.int .i64 tag, .slice ya len yc, .int .i64 kid] 49)).cell? ⟨w5.heap.size, 2, none⟩ = some (.int .i64 kid) := World.cell?_alloc_new _ _ _ _
      refine hK2 _ _ (.of_ext E6.out) ?_
      clear hK2 K2 h5 HB4 E4
      have hl6 : w5.heap.size < (w5.alloc (.cells #[.int .i64 tag, .slice ya len yc, .int .i64 kid] 49)).heap.size := by simp
      generalize w5.alloc (.cells #[.int .i64 tag, .slice ya len yc, .int .i64 kid] 49) = w6 at *
      generalize w5.heap.size = S5 at *
      refine anyK_one 19 (by kernel_rfl) ?_
      refine stepK_run rfl ?_
      intro w7 h7 K2 hK2
      have E7 := hide (E6.out.trans h7)
      have hB7 : w.heap.size ≤ w7.heap.size := Nat.le_trans hwr (Below.size E7.out)
      rw [if_pos (show _ = true by kernel_rfl)]
      refine wp_appI _ _ rfl w.heap.size wr u5 m y rfl HA.out E7.out S5 ⟨tag, kid, ya, yg, 0, len, yc, f⟩ rfl ((h7.cell (p := ⟨S5, 0, none⟩) hl6).trans d0) ((h7.cell (p := ⟨S5, 1, none⟩) hl6).trans d1) ((h7.cell (p := ⟨S5, 2, none⟩) hl6).trans d2) (HB6.out.of_all h7) (fun _ => by show w.heap.size ≤ yg; omega) (fun _ hh => by
        have := (HA.out.row.lt yg hh).2
        omega) (fun q hq h0 _ => by have := (HA.out.body q hq).lt h0; show (y q).blk ≠ yg; omega) (by omega) hB7 ?_
      intro v8 w8 hA8 hg8 hat8
      have hb8 : Below w.heap.size w7 w8 := (Below.refl _ w7).grown hg8 hB7 (fun q hq => (HA.out.row.lt q hq).1)
      have HA8 := hide hA8
      have HE8 : Hid (Ext w w8) := hide (Below.trans (HE.out.trans E7.out) hb8)
      refine hK2 _ _ ((Grw.of_ext E7.out).trans (grw_belowI hb8)) ?_
      clear hK2 K2 hA8 hg8 hat8 hb8 h7 d0 d1 d2 HB6 E6 E7
      refine anyK_take 20 1 0 rfl (by decide) (by kernel_rfl) (fun _ _ d _ _ h => by cases d <;> exact h) ?_
      repeat (refine headC_step (fun K hK => ?_); go_simp; first | (refine hK _ ?_; clear hK K) | (apply Exists.intro; refine ⟨fun p => ?_, hK _ ?_⟩; (fail); clear hK K))
      refine headC_nil ?_
      refine anyK_done (by kernel_rfl) ?_ 0
      intro w9 h9
      have HA9 := hide (HA8.out.of_all h9)
      have HE9 := hide (HE8.out.trans h9)
      clear HA8 HE8 h9
      have w1 : wrap64 ((j : Int) + 1) = (j : Int) + 1 := by unfold wrap64; omega
      have hS9 : SameI (updI y m ⟨tag, kid, ya, yg, 0, len, yc, f⟩) x i (m + 1) := HS.out.step HT.out.1 HT.out.2.1 HT.out.2.2.1 HT.out.2.2.2
      have HS9 := hide hS9
      clear hS9 HA
      have Hj := hide hj
      have Hjk := hide hjk
      clear hj hlt hm hkid hl hin hbl hwr hyn hyc hyg2 hl6 hB7 hll hjk HS HE HT hie hen hn Hs
      generalize (updI y m ⟨tag, kid, ya, yg, 0, len, yc, f⟩) = Y9 at *
      have W1 := hide w1
      clear w1
      go_wp2
      refine ⟨⟨m + 1, _, by have := Hj.out; have := Hjk.out; omega, ?_, HA9.out, HS9.out, HE9.out⟩, ?_⟩
      · rw [W1.out]
        congr 1
        have := Hj.out
        omega
      · have := Hjk.out
        rw [W1.out]
        show e - ((j : Int) + 1).toNat < e - ((j : Int)).toNat
        omega
    · obtain rfl : e = i + m := by omega
      have hjk : ¬ ((i + m : Nat) : Int) < ((i + m : Nat) : Int) := by omega
      go_wp2
      go_ret
      exact ⟨_, rfl, y, HA.out, HS.out, HE.out⟩

end Go.Proofs.Ytboaiojapgiedaa
