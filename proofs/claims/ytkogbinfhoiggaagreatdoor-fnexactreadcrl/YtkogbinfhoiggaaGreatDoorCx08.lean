/- Walks: a length and a head that are read, of the program (written by mkrdl.py). -/
import Derived.Test.YtkogbinfhoiggaaGreatDoorCx07
namespace Go.Proofs.YtkogbinfhoiggaaGreatDoor
set_option linter.unusedVariables false
set_option linter.unusedSimpArgs false
open Go.RowKit
def fltV (c p : Int) : Value := .iface 77 (.agg #[.int .i64 c, .int .i64 p])
def rlV (f : Nat → Int) (a e : Nat) : Value :=
 if (lnR f a e).2.2 = 0 then .tuple #[.int .i64 ((lnR f a e).1 : Int), .int .i64 ((lnR f a e).2.1 : Int), .nilIface]
 else if (lnR f a e).2.2 = 2 then .tuple #[.int .i64 0, .int .i64 0, fltV 2 a] else .tuple #[.int .i64 0, .int .i64 0, fltV 4 ((a : Int) + 1)]
def vL (f : Nat → Int) (a : Nat) : Nat → Int
 | 0 => 0
 | k + 1 => vL f a k * 256 + f (a + 2 + k)
def okL (f : Nat → Int) (a m : Nat) : Bool := lgN (vL f a m) == m + 1 && alike (lgF (vL f a m)) (fun i => f (a + 1 + i)) (lgN (vL f a m))
theorem rl1 {f : Nat → Int} {a e : Nat} (c1 : e ≤ a + 1) : rlV f a e = .tuple #[.int .i64 0, .int .i64 0, fltV 2 a] := by
 unfold rlV lnR; simp [c1]
theorem rl2 {f : Nat → Int} {a e : Nat} (c1 : ¬ e ≤ a + 1) (c2 : f (a + 1) < 128) (h : 0 ≤ f (a + 1)) : rlV f a e = .tuple #[.int .i64 (f (a + 1)), .int .i64 ((a : Int) + 1 + 1), .nilIface] := by
 unfold rlV lnR; simp [c1, c2, h]; omega
theorem rl3 {f : Nat → Int} {a e : Nat} (c1 : ¬ e ≤ a + 1) (c2 : ¬ f (a + 1) < 128) (c3 : f (a + 1) = 128 ∨ 130 < f (a + 1)) : rlV f a e = .tuple #[.int .i64 0, .int .i64 0, fltV 4 ((a : Int) + 1)] := by
 unfold rlV lnR; simp [c1, c2, c3]
theorem rl4 {f : Nat → Int} {a e : Nat} (c1 : ¬ e ≤ a + 1) (c2 : ¬ f (a + 1) < 128) (c3 : ¬ (f (a + 1) = 128 ∨ 130 < f (a + 1))) (c4 : (e : Int) ≤ a + 1 + (f (a + 1) - 128)) : rlV f a e = .tuple #[.int .i64 0, .int .i64 0, fltV 2 a] := by
 unfold rlV lnR; rw [if_neg c1, if_neg c2, if_neg c3, if_pos c4]; simp
theorem rl5 {f : Nat → Int} {a e m : Nat} (c1 : ¬ e ≤ a + 1) (hm : m = 1 ∨ m = 2) (c5 : f (a + 1) = 128 + (m : Int)) (c4 : ¬ (e : Int) ≤ a + 1 + (f (a + 1) - 128)) (h : 0 ≤ f (a + 2) ∧ f (a + 2) < 256) (h' : m = 2 → 0 ≤ f (a + 3) ∧ f (a + 3) < 256) :
  rlV f a e = if okL f a m then .tuple #[.int .i64 (vL f a m), .int .i64 ((a : Int) + 1 + 1 + m), .nilIface] else .tuple #[.int .i64 0, .int .i64 0, fltV 4 ((a : Int) + 1)] := by
 rcases hm with rfl | rfl
 ·have hv : vL f a 1 = f (a + 2) := by simp [vL]
  unfold rlV lnR; simp only [if_neg c1, if_neg (show ¬ f (a + 1) < 128 by omega), if_neg (show ¬ (f (a + 1) = 128 ∨ 130 < f (a + 1)) by omega), if_neg c4, if_pos (show f (a + 1) = 129 by omega)]
  unfold okL
  rw [hv]
  by_cases c : f (a + 2) < 128
  ·rw [if_pos c, (lg_low c).1]
   simp
  ·have g := lg_mid (by omega) h.2
   have hk : alike (lgF (f (a + 2))) (fun i => f (a + 1 + i)) 2 = true := (alike_iff _ _ _).2 (fun i hi => by
    have : i = 0 ∨ i = 1 := by omega
    rcases this with rfl | rfl
    ·rw [g.2.1, Nat.add_zero, c5]; rfl
    ·rw [g.2.2])
   rw [if_neg c, g.1, hk]
   simp [h.1]
   omega
 ·have hz := h' rfl
  have hv : vL f a 2 = 256 * f (a + 2) + f (a + 3) := by simp [vL]; omega
  unfold rlV lnR; simp only [if_neg c1, if_neg (show ¬ f (a + 1) < 128 by omega), if_neg (show ¬ (f (a + 1) = 128 ∨ 130 < f (a + 1)) by omega), if_neg c4, if_neg (show ¬ f (a + 1) = 129 by omega)]
  unfold okL
  rw [hv]
  by_cases c : 256 * f (a + 2) + f (a + 3) < 256
  ·rw [if_pos c]
   by_cases c' : 256 * f (a + 2) + f (a + 3) < 128
   ·rw [(lg_low c').1]; simp
   ·rw [(lg_mid (by omega) c).1]; simp
  ·have g := lg_high (n := 256 * f (a + 2) + f (a + 3)) (by omega) (by omega)
   have hk : alike (lgF (256 * f (a + 2) + f (a + 3))) (fun i => f (a + 1 + i)) 3 = true := (alike_iff _ _ _).2 (fun i hi => by
    have : i = 0 ∨ i = 1 ∨ i = 2 := by omega
    rcases this with rfl | rfl | rfl
    ·rw [g.2.1, Nat.add_zero, c5]; rfl
    ·rw [g.2.2.1]; show _ = f (a + 2); omega
    ·rw [g.2.2.2]; show _ = f (a + 3); omega)
   have hq : 0 ≤ 256 * f (a + 2) + f (a + 3) := by omega
   rw [if_neg c, g.1, hk]
   simp [hq]
   omega
theorem vL_fits {f : Nat → Int} {a : Nat} : ∀ k, k ≤ 2 → (∀ i, i < k → 0 ≤ f (a + 2 + i) ∧ f (a + 2 + i) < 256) → 0 ≤ vL f a k ∧ vL f a k < 65536
 | 0, _, _ => by simp [vL]
 | 1, _, h => by have := h 0 (by omega); simp [vL] at *; omega
 | 2, _, h => by
  have h0 := h 0 (by omega)
  have h1 := h 1 (by omega)
  simp [vL] at *
  omega
theorem lgF_range {n : Int} (h0 : 0 ≤ n) (h1 : n < 65536) : ∀ i, i < lgN n → 0 ≤ lgF n i ∧ lgF n i < 256 := by
 intro i hi
 by_cases c : n < 128
 ·rw [(lg_low c).1] at hi
  rw [(lg_low c).2 i hi]
  omega
 ·by_cases c2 : n < 256
  ·have g := lg_mid (by omega) c2
   rw [g.1] at hi
   have : i = 0 ∨ i = 1 := by omega
   rcases this with rfl | rfl
   ·rw [g.2.1]; omega
   ·rw [g.2.2]; omega
  ·have g := lg_high (n := n) (by omega) h1
   rw [g.1] at hi
   have : i = 0 ∨ i = 1 ∨ i = 2 := by omega
   rcases this with rfl | rfl | rfl
   ·rw [g.2.1]; omega
   ·rw [g.2.2.1]; omega
   ·rw [g.2.2.2]; omega
set_option maxHeartbeats 3200000 in
set_option maxRecDepth 100000 in
theorem readLength_any (ad : Option Addr) (b off e cap : Nat) (f : Nat → Int) (a : Nat) (w : World) (hs : BSeg w ad b off e f) (hb : ∀ i, i < e → 0 ≤ f i ∧ f i < 256) (hc : e ≤ cap) (hcap : cap ≤ 9223372036854775807) (hn : e ≤ 4000) (ha : a ≤ 4000) :
  Calls Tryz.prog 135 #[.slice ad e cap, .int .i64 (a : Int)] w fun en w' => en = .returned (rlV f a e) ∧ Ext w w' := by
 have w0 : wrap64 ((a : Int) + 1) = (a : Int) + 1 := by unfold wrap64; omega
 by_cases c1 : e ≤ a + 1
 ·rw [rl1 c1]
  have g1 : (e : Int) ≤ (a : Int) + 1 := by omega
  clear hb hs
  go_enter Tryz.func135, Tryz.ntmps135
  go_wp2
  (try simp only [Exit.inBlock, Exit.then]); refine bodyPost_ret (results_tmp3 rfl _ _ _) rfl ?_
  exact ⟨rfl, Ext.refl _⟩
 obtain rfl := hs.at' (by omega)
 have k1 := hs.cell (a + 1) (by omega)
 have b1 := hb (a + 1) (by omega)
 have g1 : ¬ (e : Int) ≤ (a : Int) + 1 := by omega
 have g2 : (a : Int) + 1 < (e : Int) := by omega
 have w1 : wrap64 ((a : Int) + 1 + 1) = (a : Int) + 1 + 1 := by unfold wrap64; omega
 by_cases c2 : f (a + 1) < 128
 ·rw [rl2 c1 c2 b1.1]
  clear hb hs
  generalize f (a + 1) = x at *
  go_enter Tryz.func135, Tryz.ntmps135
  go_wp2
  (try simp only [Exit.inBlock, Exit.then]); refine bodyPost_ret (results_tmp3 rfl _ _ _) rfl ?_
  exact ⟨rfl, Ext.refl _⟩
 by_cases c3 : f (a + 1) = 128 ∨ 130 < f (a + 1)
 ·rw [rl3 c1 c2 c3]
  clear hb hs
  obtain ⟨q, hq⟩ : ∃ q : Int, f (a + 1) = q + 128 := ⟨f (a + 1) - 128, by omega⟩
  rw [hq] at k1 b1 c2 c3
  clear hq
  have w2 : wrap64 (q + 128 - 128) = q := by unfold wrap64; omega
  by_cases c3' : q < 1
  ·clear c3
   go_enter Tryz.func135, Tryz.ntmps135
   go_wp2
   (try simp only [Exit.inBlock, Exit.then]); refine bodyPost_ret (results_tmp3 rfl _ _ _) rfl ?_
   exact ⟨rfl, Ext.refl _⟩
  ·have g4 : 2 < q := by omega
   clear c3
   go_enter Tryz.func135, Tryz.ntmps135
   go_wp2
   (try simp only [Exit.inBlock, Exit.then]); refine bodyPost_ret (results_tmp3 rfl _ _ _) rfl ?_
   exact ⟨rfl, Ext.refl _⟩
 obtain ⟨m, hm⟩ : ∃ m : Nat, f (a + 1) = 128 + (m : Int) := ⟨(f (a + 1) - 128).toNat, by omega⟩
 have hm12 : m = 1 ∨ m = 2 := by omega
 have w2 : wrap64 (128 + (m : Int) - 128) = m := by unfold wrap64; omega
 have r1 : 128 + (m : Int) - 128 = m := by omega
 have m1 : ¬ (m : Int) < 1 := by omega
 have m2 : ¬ 2 < (m : Int) := by omega
 have w3 : wrap64 ((e : Int) - ((a : Int) + 1 + 1)) = (e : Int) - ((a : Int) + 1 + 1) := by unfold wrap64; omega
 by_cases c4 : (e : Int) ≤ a + 1 + (f (a + 1) - 128)
 ·rw [rl4 c1 c2 c3 c4]
  rw [hm] at k1 c4 c2
  have g5 : (e : Int) - ((a : Int) + 1 + 1) < (m : Int) := by omega
  clear hb hs c1 c3 hm b1 c4
  go_enter Tryz.func135, Tryz.ntmps135
  go_wp2
  (try simp only [Exit.inBlock, Exit.then]); refine bodyPost_ret (results_tmp3 rfl _ _ _) rfl ?_
  exact ⟨rfl, Ext.refl _⟩
 have g5 : ¬ (e : Int) - ((a : Int) + 1 + 1) < (m : Int) := by omega
 rw [rl5 c1 hm12 hm c4 (hb (a + 2) (by omega)) (fun h => hb (a + 3) (by omega))]
 rw [hm] at k1 c2
 obtain ⟨RV, hRV⟩ : ∃ v, (if okL f a m then Value.tuple #[.int .i64 (vL f a m), .int .i64 ((a : Int) + 1 + 1 + m), .nilIface] else Value.tuple #[.int .i64 0, .int .i64 0, fltV 4 ((a : Int) + 1)]) = v := ⟨_, rfl⟩
 rw [hRV]
 have HRV := hide hRV
 clear hRV
 have Hs := hide hs
 have Hb := hide hb
 have Hfit : Hid (∀ k, k ≤ m → 0 ≤ vL f a k ∧ vL f a k < 65536) := fun k hk => vL_fits k (by omega) (fun i hi => hb (a + 2 + i) (by omega))
 have w4 : wrap64 ((a : Int) + 1 + 1 + (m : Int)) = (a : Int) + 1 + 1 + (m : Int) := by unfold wrap64; omega
 have s1 : (a : Int) + 1 + 1 ≤ (a : Int) + 1 + 1 + (m : Int) := by omega
 have s2 : (a : Int) + 1 + 1 + (m : Int) ≤ (cap : Int) := by omega
 have s3 : (a : Int) + 1 + 1 < (cap : Int) := by omega
 have s4 : (a : Int) + 1 ≤ (a : Int) + 1 + 1 + (m : Int) := by omega
 have s5 : (a : Int) + 1 < (cap : Int) := by omega
 have s6 : (a : Int) + 1 + 1 + (m : Int) - ((a : Int) + 1 + 1) = (m : Int) := by omega
 have s7 : (a : Int) + 1 + 1 + (m : Int) - ((a : Int) + 1) = ((m + 1 : Nat) : Int) := by omega
 have Hm := hide hm12
 have He : Hid (a + 2 + m ≤ e) := hide (by omega)
 clear hs hb hm b1 c1 c3 c4 hm12
 go_enter Tryz.func135, Tryz.ntmps135
 go_wp2
 rename_i K hK
 have HK := hide hK
 clear hK
 go_loop [8, 60] (fun x i => ∃ k : Nat, k ≤ m ∧ i = .int .i64 (k : Int) ∧ x = .int .i64 (vL f a k)) (fun _ i => m - (intOf i).toNat)
 case atStart => exact ⟨0, Nat.zero_le _, rfl, rfl⟩
 case round =>
  obtain ⟨k, hk, rfl, rfl⟩ := hrel
  by_cases hlt : k < m
  ·have hkm : (k : Int) < m := by omega
   have hck := Hs.out.cell (a + 2 + k) (by have := He.out; omega)
   rw [show off + (a + 2 + k) = off + (a + 1 + 1) + k by omega] at hck
   have hyk := Hb.out (a + 2 + k) (by have := He.out; omega)
   have H1 : Hid (vL f a (k + 1) = vL f a k * 256 + f (a + 2 + k)) := rfl
   have hv := Hfit.out k (by omega)
   have hv2 := Hfit.out (k + 1) (by omega)
   have ho : bits .or .i64 (vL f a k * 256) (f (a + 2 + k)) = vL f a (k + 1) := by rw [H1.out]; exact or8 _ _ (by omega) (by omega) (by omega) (by omega)
   have hb1 : -9223372036854775808 ≤ vL f a k * 256 := by omega
   have hb2 : vL f a k * 256 ≤ 9223372036854775807 := by omega
   clear hv hv2
   go_wp2
   go_round
   case rel => exact ⟨k + 1, by omega, by go_num, rfl⟩
   case measure => simp [intOf]; omega
  ·obtain rfl : k = m := by omega
   have hv := Hfit.out k (Nat.le_refl _)
   have HLb : Hid (∀ W, Calls Tryz.prog 100 #[.int .i64 (vL f a k)] W fun e w' => GivesR W (lgN (vL f a k)) (lgF (vL f a k)) e w') := fun W => lengthBytes_any (vL f a k) W hv.1 (by omega)
   have HOk : Hid (okL f a k = (lgN (vL f a k) == k + 1 && alike (lgF (vL f a k)) (fun i => f (a + 1 + i)) (lgN (vL f a k)))) := rfl
   have HFr : Hid (∀ i, i < lgN (vL f a k) → 0 ≤ lgF (vL f a k) i ∧ lgF (vL f a k) i < 256) := lgF_range hv.1 hv.2
   generalize okL f a k = OK at *
   generalize vL f a k = N at *
   clear hv
   go_wp2
   apply HK.out
   clear HK
   go_wp2_with fail
   refine anyK_begin (fun _ => False) 8 rfl (by kernel_rfl) ?_
   refine anyK_take 0 1 7 rfl (by decide) (by kernel_rfl) (fun _ _ d _ _ h => by cases d <;> exact h) ?_
   repeat (refine headC_step (fun K hK => ?_); go_simp; refine hK _ ?_; clear hK K)
   refine headC_nil ?_
   have z1 : 0 ≤ (a : Int) + 1 + 1 + (k : Int) := by omega
   have z2 : 0 ≤ (a : Int) + 1 ∧ (a : Int) + 1 ≤ max ((a : Int) + 1 + 1 + (k : Int)) 0 := by omega
   have z3 : ¬ cap = a + 1 := by omega
   have z4 : ((a : Int) + 1 + 1 + (k : Int)).toNat - (a + 1) = k + 1 := by omega
   refine anyK_take 2 4 3 rfl (by decide) (by kernel_rfl) (fun _ _ d _ _ h => by cases d <;> exact h) ?_
   iterate 3 (refine headC_step (fun K hK => ?_); go_simp; refine hK _ ?_; clear hK K)
   refine headC_step (fun K hK => ?_)
   go_simp
   try simp only [if_pos z1, if_pos z2, if_neg z3, z4]
   first | refine ⟨_, fun p => ⟨trivial, rfl⟩, hK _ ?_⟩ | refine ⟨_, fun p => rfl, hK _ ?_⟩ | refine hK _ ?_
   clear hK K
   refine headC_nil ?_
   refine anyK_one 1 (by kernel_rfl) ?_
   refine stepK_run rfl ?_
   intro w1 hw1 K2 hK2
   go_simp
   refine (HLb.out w1).mono ?_
   rintro r1 w2 ⟨v1, rfl, hv1, hE1⟩
   obtain ⟨xa, xg, xc, rfl, hxg, -, -, hxB⟩ := owns_seg hv1
   have HX := hide hxB
   have X2 : Hid (Ext w w2) := hide (hw1.trans hE1)
   refine hK2 _ _ (.of_ext X2.out) ?_
   clear hK2 K2 hv1 hE1 hxB hw1 hxg
   obtain ⟨LN, hLN⟩ : ∃ q, lgN N = q := ⟨_, rfl⟩
   rw [hLN] at HX HOk HFr ⊢
   clear hLN
   refine anyK_one 6 (by kernel_rfl) ?_
   refine stepK_run rfl ?_
   intro w3 hw3 K2 hK2
   go_simp
   refine (bytesEqual_any xa xg 0 LN xc (lgF N) (some ⟨b, off + (a + 1), none⟩) b (off + (a + 1)) (k + 1) _ (fun i => f (a + 1 + i)) w3 (HX.out.toBSeg.of_all hw3) ⟨fun _ => rfl, fun i hi => by
    have := (Hs.out.of_all (X2.out.trans hw3)).cell (a + 1 + i) (by have := He.out; omega)
    rw [show off + (a + 1) + i = off + (a + 1 + i) by omega]
    exact this⟩ HFr.out (fun i hi => Hb.out (a + 1 + i) (by have := He.out; omega))).mono ?_
   rintro r3 w4 ⟨rfl, hw4⟩
   obtain rfl := hw4.symm
   rw [← HOk.out]
   refine hK2 _ _ (.of_ext (X2.out.trans hw3)) ?_
   clear hK2 K2
   refine anyK_take 7 1 0 rfl (by decide) (by kernel_rfl) (fun _ _ d _ _ h => by cases d <;> exact h) ?_
   repeat (refine headC_step (fun K hK => ?_); go_simp; refine hK _ ?_; clear hK K)
   refine headC_nil ?_
   refine anyK_done (by kernel_rfl) ?_ 0
   intro w5 hw5
   have HE := hide ((X2.out.trans hw3).trans hw5)
   clear hw5 hw3 X2 HX
   cases OK
   ·go_wp2
    (try simp only [Exit.inBlock, Exit.then]); refine bodyPost_ret (results_tmp3 rfl _ _ _) rfl ?_
    exact ⟨by rw [← HRV.out, if_neg (by simp)]; rfl, HE.out⟩
   ·go_wp2
    (try simp only [Exit.inBlock, Exit.then]); refine bodyPost_ret (results_tmp3 rfl _ _ _) rfl ?_
    exact ⟨by rw [← HRV.out]; rfl, HE.out⟩
def hdV (h : Hed) : List Value := [.int .i64 h.tag, .int .i64 (h.st : Int), .int .i64 (h.en : Int), .int .i64 (h.ar : Int)]
def noH : List Value := [.int .i64 0, .int .i64 0, .int .i64 0, .int .i64 0]
def rhV (f : Nat → Int) (a e d : Nat) : Value := if (hdC f a e d).1 = 0 then .tuple #[.agg (hdV (hdOf f a e d)).toArray, .nilIface] else .tuple #[.agg noH.toArray, fltV (hdC f a e d).1 (hdC f a e d).2]
end Go.Proofs.YtkogbinfhoiggaaGreatDoor
