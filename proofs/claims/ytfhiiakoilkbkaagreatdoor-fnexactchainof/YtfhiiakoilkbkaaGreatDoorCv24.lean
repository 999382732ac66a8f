/- Walks: the group of a curve of the program (impl.Pair): fold. -/
import Derived.Test.YtfhiiakoilkbkaaGreatDoorCv23
namespace Go.Proofs.YtfhiiakoilkbkaaGreatDoor
set_option linter.unusedVariables false
set_option linter.unusedSimpArgs false
open Go.RowKit
structure FoldPr (w wr : World) (S T : Nat) (P D L bx cy : Int) (b o : Pr) : Prop where
 gr : Blk wr w.heap.size [.int .i64 0, .int .i64 1, .int .i64 bx, .int .i64 cy, .func (.func 166) #[.agg #[.int .i64 P, .int .i64 D, .int .i64 L, .int .i64 bx, .int .i64 cy]] #[], .func (.func 167) #[.agg #[.int .i64 P, .int .i64 D, .int .i64 L, .int .i64 bx, .int .i64 cy]] #[], .func (.func 168) #[.agg #[.int .i64 P, .int .i64 D, .int .i64 L, .int .i64 bx, .int .i64 cy]] #[], .func (.func 169) #[.agg #[.int .i64 P, .int .i64 D, .int .i64 L, .int .i64 bx, .int .i64 cy]] #[], .func (.func 170) #[] #[]]
 rs : Blk wr (w.heap.size + 1 + 1) [.int .i64 0, .int .i64 0]
 ot : Blk wr S [.int .i64 o.x, .int .i64 o.y]
 pt : Blk wr T [.int .i64 b.x, .int .i64 b.y]
 lo : w.heap.size + 3 ≤ S
 lo2 : w.heap.size + 3 ≤ T
 ne : S ≠ T
 ext : Ext w wr
 big : S < wr.heap.size
 big2 : T < wr.heap.size
theorem FoldPr.call {w wr w1 : World} {S T : Nat} {P D L bx cy : Int} {b o : Pr} (h : FoldPr w wr S T P D L bx cy b o) (hb : Ext wr w1) : FoldPr w w1 S T P D L bx cy b o :=
 ⟨h.gr.ext hb (by have := h.big; have := h.lo; omega), h.rs.ext hb (by have := h.big; have := h.lo; omega), h.ot.ext hb h.big, h.pt.ext hb h.big2, h.lo, h.lo2, h.ne, h.ext.trans hb, Nat.lt_of_lt_of_le h.big (Below.size hb), Nat.lt_of_lt_of_le h.big2 (Below.size hb)⟩
theorem FoldPr.putO {w wr : World} {S T : Nat} {P D L bx cy : Int} {b o : Pr} (h : FoldPr w wr S T P D L bx cy b o) (c : Pr) : FoldPr w (putL S 0 [.int .i64 c.x, .int .i64 c.y] wr) S T P D L bx cy b c :=
 ⟨h.gr.put_other _ (by have := h.lo; omega), h.rs.put_other _ (by have := h.lo; omega), h.ot.put _ rfl, h.pt.put_other _ h.ne.symm, h.lo, h.lo2, h.ne, h.ext.putL (by have := h.lo; omega) _, by rw [size_putL]; exact h.big, by rw [size_putL]; exact h.big2⟩
theorem FoldPr.putB {w wr : World} {S T : Nat} {P D L bx cy : Int} {b o : Pr} (h : FoldPr w wr S T P D L bx cy b o) (c : Pr) : FoldPr w (putL T 0 [.int .i64 c.x, .int .i64 c.y] wr) S T P D L bx cy c o :=
 ⟨h.gr.put_other _ (by have := h.lo2; omega), h.rs.put_other _ (by have := h.lo2; omega), h.ot.put_other _ h.ne, h.pt.put _ rfl, h.lo, h.lo2, h.ne, h.ext.putL (by have := h.lo2; omega) _, by rw [size_putL]; exact h.big, by rw [size_putL]; exact h.big2⟩
set_option maxHeartbeats 3200000 in
set_option maxRecDepth 100000 in
theorem foldPr_yes {P D L : Int} (bx cy : Int) (h : EvNum P D L) {a R : Pr} (ha : OnE P.toNat D a) (n : Nat) (n1 : n ≤ 1099511627776) (hR : mulE P.toNat D n a = R) (w : World) :
  Calls Tryz.prog 194 #[.agg #[.int .i64 0, .int .i64 1, .int .i64 bx, .int .i64 cy, .func (.func 166) #[.agg #[.int .i64 P, .int .i64 D, .int .i64 L, .int .i64 bx, .int .i64 cy]] #[], .func (.func 167) #[.agg #[.int .i64 P, .int .i64 D, .int .i64 L, .int .i64 bx, .int .i64 cy]] #[], .func (.func 168) #[.agg #[.int .i64 P, .int .i64 D, .int .i64 L, .int .i64 bx, .int .i64 cy]] #[], .func (.func 169) #[.agg #[.int .i64 P, .int .i64 D, .int .i64 L, .int .i64 bx, .int .i64 cy]] #[], .func (.func 170) #[] #[]], .int .i64 n, .agg #[.int .i64 a.x, .int .i64 a.y]] w fun e w' => e = .returned (.agg #[.int .i64 R.x, .int .i64 R.y]) ∧ Ext w w' := by
 have Hadd : Hid (∀ (a b : Pr) (w : World), OnE P.toNat D a → OnE P.toNat D b → Calls Tryz.prog 167 #[.agg #[.int .i64 P, .int .i64 D, .int .i64 L, .int .i64 bx, .int .i64 cy], .agg #[.int .i64 a.x, .int .i64 a.y], .agg #[.int .i64 b.x, .int .i64 b.y]] w fun r w' => r = .returned (.agg #[.int .i64 (addE P.toNat D a b).x, .int .i64 (addE P.toNat D a b).y]) ∧ Ext w w') := fun a b w ha hb => addPr_at bx cy h ha hb w
 have Hin : Hid (∀ a b : Pr, OnE P.toNat D a → OnE P.toNat D b → OnE P.toNat D (addE P.toNat D a b)) := fun a b ha hb => EvNum.addPr_on h ha hb
 have Hs : Hid (accE P.toNat D 64 n oneE a = R) := hR
 have HK := hide (knownPr_yes bx cy h ha)
 have Ha : Hid (OnE P.toNat D a) := ha
 have Hf : Hid (OnE P.toNat D oneE) := EvNum.unitPr_on h
 have hlen := Lib.bitLen_le n 64 (by omega) (by omega)
 have Hlt := hide (bitLen_lt n (by omega))
 have n0 : (0 : Int) ≤ n := by omega
 have n2 : (n : Int) ≤ 1099511627776 := by omega
 clear h ha hR
 go_enter Tryz.func194, Tryz.ntmps194
 go_wp2_with fail
 refine (want_yes _).mono ?_
 rintro r w' ⟨rfl, rfl⟩
 obtain ⟨V, hV⟩ : ∃ V, ((w.alloc (.cells #[.int .i64 0, .int .i64 1, .int .i64 bx, .int .i64 cy, .func (.func 166) #[.agg #[.int .i64 P, .int .i64 D, .int .i64 L, .int .i64 bx, .int .i64 cy]] #[], .func (.func 167) #[.agg #[.int .i64 P, .int .i64 D, .int .i64 L, .int .i64 bx, .int .i64 cy]] #[], .func (.func 168) #[.agg #[.int .i64 P, .int .i64 D, .int .i64 L, .int .i64 bx, .int .i64 cy]] #[], .func (.func 169) #[.agg #[.int .i64 P, .int .i64 D, .int .i64 L, .int .i64 bx, .int .i64 cy]] #[], .func (.func 170) #[] #[]] 158)).alloc (.cells #[.int .i64 a.x, .int .i64 a.y] 49)).alloc (.cells #[.int .i64 0, .int .i64 0] 49) = V := ⟨_, rfl⟩
 obtain ⟨B1, B2, B3, hE, hz⟩ := box3 w [.int .i64 0, .int .i64 1, .int .i64 bx, .int .i64 cy, .func (.func 166) #[.agg #[.int .i64 P, .int .i64 D, .int .i64 L, .int .i64 bx, .int .i64 cy]] #[], .func (.func 167) #[.agg #[.int .i64 P, .int .i64 D, .int .i64 L, .int .i64 bx, .int .i64 cy]] #[], .func (.func 168) #[.agg #[.int .i64 P, .int .i64 D, .int .i64 L, .int .i64 bx, .int .i64 cy]] #[], .func (.func 169) #[.agg #[.int .i64 P, .int .i64 D, .int .i64 L, .int .i64 bx, .int .i64 cy]] #[], .func (.func 170) #[] #[]] [.int .i64 a.x, .int .i64 a.y] [.int .i64 0, .int .i64 0] 158 49 49 (hV ▸ Ext.refl _ : Ext (((w.alloc (.cells #[.int .i64 0, .int .i64 1, .int .i64 bx, .int .i64 cy, .func (.func 166) #[.agg #[.int .i64 P, .int .i64 D, .int .i64 L, .int .i64 bx, .int .i64 cy]] #[], .func (.func 167) #[.agg #[.int .i64 P, .int .i64 D, .int .i64 L, .int .i64 bx, .int .i64 cy]] #[], .func (.func 168) #[.agg #[.int .i64 P, .int .i64 D, .int .i64 L, .int .i64 bx, .int .i64 cy]] #[], .func (.func 169) #[.agg #[.int .i64 P, .int .i64 D, .int .i64 L, .int .i64 bx, .int .i64 cy]] #[], .func (.func 170) #[] #[]] 158)).alloc (.cells #[.int .i64 a.x, .int .i64 a.y] 49)).alloc (.cells #[.int .i64 0, .int .i64 0] 49)) V)
 simp only [hV]
 clear hV
 go_wp2
 obtain ⟨X, hX⟩ : ∃ X : Nat → Prop, X = fun k => V.heap.size ≤ k := ⟨_, rfl⟩
 have x0 : ∀ k, k < V.heap.size → ¬ X k := fun k h => by rw [hX]; simp; omega
 have x1 : ∀ k, V.heap.size ≤ k → X k := fun k h => by rw [hX]; exact h
 clear hX
 have g0 := cell_reC (B1 0 _ rfl).1 (x0 _ (by first | omega | (simp only; omega)))
 have g1 := cell_reC (B1 1 _ rfl).1 (x0 _ (by first | omega | (simp only; omega)))
 have g2 := cell_reC (B1 2 _ rfl).1 (x0 _ (by first | omega | (simp only; omega)))
 have g3 := cell_reC (B1 3 _ rfl).1 (x0 _ (by first | omega | (simp only; omega)))
 have g4 := cell_reC (B1 4 _ rfl).1 (x0 _ (by first | omega | (simp only; omega)))
 have g5 := cell_reC (B1 5 _ rfl).1 (x0 _ (by first | omega | (simp only; omega)))
 have g6 := cell_reC (B1 6 _ rfl).1 (x0 _ (by first | omega | (simp only; omega)))
 have g7 := cell_reC (B1 7 _ rfl).1 (x0 _ (by first | omega | (simp only; omega)))
 have g8 := cell_reC (B1 8 _ rfl).1 (x0 _ (by first | omega | (simp only; omega)))
 have c0 := cell_reC (B2 0 _ rfl).1 (x0 _ (by first | omega | (simp only; omega)))
 have c1 := cell_reC (B2 1 _ rfl).1 (x0 _ (by first | omega | (simp only; omega)))
 refine anyK_begin X 9 rfl (by kernel_rfl) ?_
 refine anyK_take 0 5 4 rfl (by decide) (by kernel_rfl) (fun _ _ d _ _ h => by cases d <;> exact h) ?_
 repeat (refine headC_step (fun K hK => ?_); go_simp; first | (refine hK _ ?_; clear hK K) | (apply Exists.intro; refine ⟨fun _ => ?_, hK _ ?_⟩; (exact Calls.re_of (HK.out _)); clear hK K))
 refine headC_nil ?_
 clear g0 g1 g2 g3 g4 g5 g6 g7 g8 c0 c1 HK
 refine anyK_two 5 6 (by kernel_rfl) ?_ ?_
 ·refine stepK_run rfl ?_
  intro w2 h2 K hK
  go_simp
  refine hK _ _ (.of_ext (h2.trans (Ext.alloc _ _))) ?_
  clear hK K
  refine anyK_one 6 (by kernel_rfl) ?_
  refine stepK_run rfl ?_
  intro w3 h3 K hK
  go_simp
  refine hK _ _ (.of_ext (((h2.trans (Ext.alloc _ _)).trans h3).trans (Ext.alloc _ _))) ?_
  clear hK K
  refine anyK_one 7 (by kernel_rfl) ?_
  refine stepK_run rfl ?_
  intro w4 h4 K hK
  obtain ⟨BS, BT, hV4, lS, lT, ne, sS, sT⟩ := two_alloc (z := [.int .i64 0, .int .i64 0]) (z' := [.int .i64 0, .int .i64 0]) h2 h3 h4
  clear h2 h3 h4
  generalize w2.heap.size = S at *
  generalize w3.heap.size = T at *
  have s0 := (BS 0 _ rfl).1
  have s1 := (BS 1 _ rfl).1
  have y0 := (BS 0 _ rfl).2
  have y1 := (BS 1 _ rfl).2
  go_simp
  refine hK _ _ (show Grw X V (putL S 0 [.int .i64 0, .int .i64 1] w4) from Grw.putL (x1 _ lS) _ _ _ (.of_ext hV4)) ?_
  clear hK K s0 s1 y0 y1
  refine anyK_one 8 (by kernel_rfl) ?_
  refine stepK_run rfl ?_
  intro w5 h5 K hK
  replace h5 : Ext (putL S 0 [.int .i64 0, .int .i64 1] w4) w5 := h5
  have BT5 := (BT.put_other [.int .i64 0, .int .i64 1] ne.symm).ext h5 (by rw [size_putL]; exact sT)
  have s0 := (BT5 0 _ rfl).1
  have s1 := (BT5 1 _ rfl).1
  have y0 := (BT5 0 _ rfl).2
  have y1 := (BT5 1 _ rfl).2
  go_simp
  refine hK _ _ (show Grw X V (putL T 0 [.int .i64 a.x, .int .i64 a.y] w5) from Grw.putL (x1 _ lT) _ _ _ ((Grw.putL (x1 _ lS) _ _ _ (.of_ext hV4)).trans (.of_ext h5))) ?_
  clear hK K s0 s1 y0 y1 BT5
  refine anyK_done (by kernel_rfl) ?_ 0
  intro w6 h6
  replace h6 : Ext (putL T 0 [.int .i64 a.x, .int .i64 a.y] w5) w6 := h6
  obtain ⟨B4, B5, hV6, sS6, sT6⟩ := two_put (z := [.int .i64 0, .int .i64 0]) (u := [.int .i64 0, .int .i64 1]) (v := [.int .i64 a.x, .int .i64 a.y]) rfl rfl BS BT hV4 lS lT ne sS sT h5 h6
  have HF : Hid (FoldPr w w6 S T P D L bx cy a oneE) := ⟨B1.ext hV6 (by omega), B3.ext hV6 (by omega), B4, B5, by omega, by omega, ne, hE.trans hV6, sS6, sT6⟩
  clear BS BT hV4 lS lT ne sS sT h5 h6 B4 B5 hV6 sS6 sT6 x0 x1 X B1 B2 B3 hE hz w4 w5
  go_wp2_with fail
  refine (len_all (n : Int) _ (by omega) (by omega)).mono ?_
  rintro r w' ⟨rfl, hw⟩
  subst hw
  rw [Int.toNat_natCast]
  generalize Lib.bitLen n = Lb at *
  go_wp2
  go_loopw [25] (fun i wr => ∃ (K : Nat) (o b : Pr), i = .int .i64 K ∧ K ≤ Lb ∧ OnE P.toNat D o ∧ OnE P.toNat D b ∧ accE P.toNat D (64 - K) (n / 2 ^ K) o b = R ∧ FoldPr w wr S T P D L bx cy b o) (fun i _ => Lb - (intOf i).toNat)
  case atStart => exact ⟨0, oneE, a, rfl, by omega, Hf.out, Ha.out, by simpa using Hs.out, HF.out⟩
  case round =>
   obtain ⟨K, o, b, rfl, hK, ho, hb, hacc, hM⟩ := hrel
   have HM := hide hM
   have Hacc := hide hacc
   clear Hs Ha Hf hacc HF
   have KG := hM.gr
   have KO := hM.ot
   have KB := hM.pt
   have g0 := (KG 0 _ rfl).1
   have g1 := (KG 1 _ rfl).1
   have g2 := (KG 2 _ rfl).1
   have g3 := (KG 3 _ rfl).1
   have g4 := (KG 4 _ rfl).1
   have g5 := (KG 5 _ rfl).1
   have g6 := (KG 6 _ rfl).1
   have g7 := (KG 7 _ rfl).1
   have g8 := (KG 8 _ rfl).1
   have o0 := (KO 0 _ rfl).1
   have o1 := (KO 1 _ rfl).1
   have y0 := (KO 0 _ rfl).2
   have y1 := (KO 1 _ rfl).2
   have b0 := (KB 0 _ rfl).1
   have b1 := (KB 1 _ rfl).1
   have x0 := (KB 0 _ rfl).2
   have x1 := (KB 1 _ rfl).2
   clear KG KO KB
   have hlo := hM.lo
   have hlo2 := hM.lo2
   have ne := hM.ne
   have ne1 : ¬ S = w.heap.size + 1 + 1 := by omega
   have ne2 : ¬ w.heap.size + 1 + 1 = S := by omega
   have ne3 : ¬ T = w.heap.size + 1 + 1 := by omega
   have ne4 : ¬ w.heap.size + 1 + 1 = T := by omega
   have ne5 : ¬ S = w.heap.size := by omega
   have ne6 : ¬ w.heap.size = S := by omega
   have ne7 : ¬ T = w.heap.size := by omega
   have ne8 : ¬ w.heap.size = T := by omega
   have ne9 : ¬ T = S := by omega
   have neA : ¬ S = T := by omega
   clear hM ne
   by_cases hend : K = Lb
   ·subst hend
    have e : o = R := by rw [← Hacc.out, Nat.div_eq_of_lt Hlt.out, accE_zero]
    subst e
    have B3 := HM.out.rs
    have hE := HM.out.ext
    have d0 := (B3 0 _ rfl).1
    have d1 := (B3 1 _ rfl).1
    have z0 := (B3 0 _ rfl).2
    have z1 := (B3 1 _ rfl).2
    go_wp2
    obtain ⟨W, hW⟩ : ∃ W, putL (w.heap.size + 1 + 1) 0 [.int .i64 o.x, .int .i64 o.y] wr = W := ⟨_, rfl⟩
    have BW := Blk.put B3 [.int .i64 o.x, .int .i64 o.y] rfl
    rw [hW] at BW
    have hF : Ext w W := hW ▸ hE.putL (by omega) _
    simp only [putL, Nat.zero_add] at hW
    simp only [hW]
    have q0 := (BW 0 _ rfl).1
    have q1 := (BW 1 _ rfl).1
    refine bodyPost_ret (v := .agg #[.int .i64 o.x, .int .i64 o.y]) (by simp [results, Tryz.results194, go_sem, q0, q1]) rfl ⟨rfl, hF⟩
   ·have hlt : (K : Int) < (Lb : Int) := by omega
    obtain ⟨f', hf'⟩ : ∃ f', 64 - K = f' + 1 := ⟨63 - K, by omega⟩
    have Hac : Hid (accE P.toNat D (64 - (K + 1)) (n / 2 ^ (K + 1)) (if n / 2 ^ K % 2 = 1 then addE P.toNat D o b else o) (addE P.toNat D b b) = R) := by
     have := Hacc.out
     rw [hf', accE] at this
     rw [show 64 - (K + 1) = f' by omega, Nat.pow_succ, ← Nat.div_div_eq_div_mul]
     exact this
    have Hbb := hide (Hin.out b b hb hb)
    clear Hacc hf'
    by_cases hodd : n / 2 ^ K % 2 = 1
    ·have hbt : (bits .and .i64 ((n : Int) / 2 ^ K) 1 == 1) = true := by rw [bit_test]; simpa using hodd
     have Hob := hide (Hin.out o b ho hb)
     have Ha2 : Hid (accE P.toNat D (64 - (K + 1)) (n / 2 ^ (K + 1)) (addE P.toNat D o b) (addE P.toNat D b b) = R) := by have := Hac.out; rwa [if_pos hodd] at this
     clear Hac hodd
     go_wp2_with fail
     refine (Hadd.out o b _ ho hb).mono ?_
     rintro e w3 ⟨rfl, hw3⟩
     generalize addE P.toNat D o b = c at *
     have M1 := HM.out.call hw3
     have HM1 := hide M1
     clear hw3 HM g0 g1 g2 g3 g4 g5 g6 g7 g8 o0 o1 y0 y1 b0 b1 x0 x1
     have KG := M1.gr
     have KO := M1.ot
     have KB := M1.pt
     have g0 := (KG 0 _ rfl).1
     have g1 := (KG 1 _ rfl).1
     have g2 := (KG 2 _ rfl).1
     have g3 := (KG 3 _ rfl).1
     have g4 := (KG 4 _ rfl).1
     have g5 := (KG 5 _ rfl).1
     have g6 := (KG 6 _ rfl).1
     have g7 := (KG 7 _ rfl).1
     have g8 := (KG 8 _ rfl).1
     have o0 := (KO 0 _ rfl).1
     have o1 := (KO 1 _ rfl).1
     have y0 := (KO 0 _ rfl).2
     have y1 := (KO 1 _ rfl).2
     have b0 := (KB 0 _ rfl).1
     have b1 := (KB 1 _ rfl).1
     have x0 := (KB 0 _ rfl).2
     have x1 := (KB 1 _ rfl).2
     clear KG KO KB
     clear M1
     go_wp2_with fail
     refine (Hadd.out b b _ hb hb).mono ?_
     rintro e w4 ⟨rfl, hw4⟩
     generalize addE P.toNat D b b = d at *
     have M2 := (HM1.out.putO c).call hw4
     have HM2 := hide M2
     clear hw4 HM1 g0 g1 g2 g3 g4 g5 g6 g7 g8 o0 o1 y0 y1 b0 b1 x0 x1
     have KG := M2.gr
     have KO := M2.ot
     have KB := M2.pt
     have g0 := (KG 0 _ rfl).1
     have g1 := (KG 1 _ rfl).1
     have g2 := (KG 2 _ rfl).1
     have g3 := (KG 3 _ rfl).1
     have g4 := (KG 4 _ rfl).1
     have g5 := (KG 5 _ rfl).1
     have g6 := (KG 6 _ rfl).1
     have g7 := (KG 7 _ rfl).1
     have g8 := (KG 8 _ rfl).1
     have o0 := (KO 0 _ rfl).1
     have o1 := (KO 1 _ rfl).1
     have y0 := (KO 0 _ rfl).2
     have y1 := (KO 1 _ rfl).2
     have b0 := (KB 0 _ rfl).1
     have b1 := (KB 1 _ rfl).1
     have x0 := (KB 0 _ rfl).2
     have x1 := (KB 1 _ rfl).2
     clear KG KO KB
     clear M2
     go_wp2
     go_roundw
     case rel => exact ⟨K + 1, c, d, by go_num, by omega, Hob.out, Hbb.out, Ha2.out, HM2.out.putB d⟩
     case measure => simp [intOf]; omega
    ·have hbt : (bits .and .i64 ((n : Int) / 2 ^ K) 1 == 1) = false := by rw [bit_test]; simpa using hodd
     have Ha2 : Hid (accE P.toNat D (64 - (K + 1)) (n / 2 ^ (K + 1)) o (addE P.toNat D b b) = R) := by have := Hac.out; rwa [if_neg hodd] at this
     clear Hac hodd
     go_wp2_with fail
     refine (Hadd.out b b _ hb hb).mono ?_
     rintro e w4 ⟨rfl, hw4⟩
     generalize addE P.toNat D b b = d at *
     have M2 := HM.out.call hw4
     have HM2 := hide M2
     clear hw4 HM g0 g1 g2 g3 g4 g5 g6 g7 g8 o0 o1 y0 y1 b0 b1 x0 x1
     have KG := M2.gr
     have KO := M2.ot
     have KB := M2.pt
     have g0 := (KG 0 _ rfl).1
     have g1 := (KG 1 _ rfl).1
     have g2 := (KG 2 _ rfl).1
     have g3 := (KG 3 _ rfl).1
     have g4 := (KG 4 _ rfl).1
     have g5 := (KG 5 _ rfl).1
     have g6 := (KG 6 _ rfl).1
     have g7 := (KG 7 _ rfl).1
     have g8 := (KG 8 _ rfl).1
     have o0 := (KO 0 _ rfl).1
     have o1 := (KO 1 _ rfl).1
     have y0 := (KO 0 _ rfl).2
     have y1 := (KO 1 _ rfl).2
     have b0 := (KB 0 _ rfl).1
     have b1 := (KB 1 _ rfl).1
     have x0 := (KB 0 _ rfl).2
     have x1 := (KB 1 _ rfl).2
     clear KG KO KB
     clear M2
     go_wp2
     go_roundw
     case rel => exact ⟨K + 1, o, d, by go_num, by omega, ho, Hbb.out, Ha2.out, HM2.out.putB d⟩
     case measure => simp [intOf]; omega
 ·refine stepK_run rfl ?_
  intro w2 h2 K hK
  go_simp
  refine hK _ _ (.of_ext (h2.trans (Ext.alloc _ _))) ?_
  clear hK K
  refine anyK_one 5 (by kernel_rfl) ?_
  refine stepK_run rfl ?_
  intro w3 h3 K hK
  go_simp
  refine hK _ _ (.of_ext (((h2.trans (Ext.alloc _ _)).trans h3).trans (Ext.alloc _ _))) ?_
  clear hK K
  refine anyK_one 7 (by kernel_rfl) ?_
  refine stepK_run rfl ?_
  intro w4 h4 K hK
  obtain ⟨BT, BS, hV4, lT, lS, ne', sT, sS⟩ := two_alloc (z := [.int .i64 0, .int .i64 0]) (z' := [.int .i64 0, .int .i64 0]) h2 h3 h4
  have ne := ne'.symm
  clear h2 h3 h4 ne'
  generalize w2.heap.size = T at *
  generalize w3.heap.size = S at *
  have s0 := (BS 0 _ rfl).1
  have s1 := (BS 1 _ rfl).1
  have y0 := (BS 0 _ rfl).2
  have y1 := (BS 1 _ rfl).2
  go_simp
  refine hK _ _ (show Grw X V (putL S 0 [.int .i64 0, .int .i64 1] w4) from Grw.putL (x1 _ lS) _ _ _ (.of_ext hV4)) ?_
  clear hK K s0 s1 y0 y1
  refine anyK_one 8 (by kernel_rfl) ?_
  refine stepK_run rfl ?_
  intro w5 h5 K hK
  replace h5 : Ext (putL S 0 [.int .i64 0, .int .i64 1] w4) w5 := h5
  have BT5 := (BT.put_other [.int .i64 0, .int .i64 1] ne.symm).ext h5 (by rw [size_putL]; exact sT)
  have s0 := (BT5 0 _ rfl).1
  have s1 := (BT5 1 _ rfl).1
  have y0 := (BT5 0 _ rfl).2
  have y1 := (BT5 1 _ rfl).2
  go_simp
  refine hK _ _ (show Grw X V (putL T 0 [.int .i64 a.x, .int .i64 a.y] w5) from Grw.putL (x1 _ lT) _ _ _ ((Grw.putL (x1 _ lS) _ _ _ (.of_ext hV4)).trans (.of_ext h5))) ?_
  clear hK K s0 s1 y0 y1 BT5
  refine anyK_done (by kernel_rfl) ?_ 0
  intro w6 h6
  replace h6 : Ext (putL T 0 [.int .i64 a.x, .int .i64 a.y] w5) w6 := h6
  obtain ⟨B4, B5, hV6, sS6, sT6⟩ := two_put (z := [.int .i64 0, .int .i64 0]) (u := [.int .i64 0, .int .i64 1]) (v := [.int .i64 a.x, .int .i64 a.y]) rfl rfl BS BT hV4 lS lT ne sS sT h5 h6
  have HF : Hid (FoldPr w w6 S T P D L bx cy a oneE) := ⟨B1.ext hV6 (by omega), B3.ext hV6 (by omega), B4, B5, by omega, by omega, ne, hE.trans hV6, sS6, sT6⟩
  clear BS BT hV4 lS lT ne sS sT h5 h6 B4 B5 hV6 sS6 sT6 x0 x1 X B1 B2 B3 hE hz w4 w5
  go_wp2_with fail
  refine (len_all (n : Int) _ (by omega) (by omega)).mono ?_
  rintro r w' ⟨rfl, hw⟩
  subst hw
  rw [Int.toNat_natCast]
  generalize Lib.bitLen n = Lb at *
  go_wp2
  go_loopw [25] (fun i wr => ∃ (K : Nat) (o b : Pr), i = .int .i64 K ∧ K ≤ Lb ∧ OnE P.toNat D o ∧ OnE P.toNat D b ∧ accE P.toNat D (64 - K) (n / 2 ^ K) o b = R ∧ FoldPr w wr S T P D L bx cy b o) (fun i _ => Lb - (intOf i).toNat)
  case atStart => exact ⟨0, oneE, a, rfl, by omega, Hf.out, Ha.out, by simpa using Hs.out, HF.out⟩
  case round =>
   obtain ⟨K, o, b, rfl, hK, ho, hb, hacc, hM⟩ := hrel
   have HM := hide hM
   have Hacc := hide hacc
   clear Hs Ha Hf hacc HF
   have KG := hM.gr
   have KO := hM.ot
   have KB := hM.pt
   have g0 := (KG 0 _ rfl).1
   have g1 := (KG 1 _ rfl).1
   have g2 := (KG 2 _ rfl).1
   have g3 := (KG 3 _ rfl).1
   have g4 := (KG 4 _ rfl).1
   have g5 := (KG 5 _ rfl).1
   have g6 := (KG 6 _ rfl).1
   have g7 := (KG 7 _ rfl).1
   have g8 := (KG 8 _ rfl).1
   have o0 := (KO 0 _ rfl).1
   have o1 := (KO 1 _ rfl).1
   have y0 := (KO 0 _ rfl).2
   have y1 := (KO 1 _ rfl).2
   have b0 := (KB 0 _ rfl).1
   have b1 := (KB 1 _ rfl).1
   have x0 := (KB 0 _ rfl).2
   have x1 := (KB 1 _ rfl).2
   clear KG KO KB
   have hlo := hM.lo
   have hlo2 := hM.lo2
   have ne := hM.ne
   have ne1 : ¬ S = w.heap.size + 1 + 1 := by omega
   have ne2 : ¬ w.heap.size + 1 + 1 = S := by omega
   have ne3 : ¬ T = w.heap.size + 1 + 1 := by omega
   have ne4 : ¬ w.heap.size + 1 + 1 = T := by omega
   have ne5 : ¬ S = w.heap.size := by omega
   have ne6 : ¬ w.heap.size = S := by omega
   have ne7 : ¬ T = w.heap.size := by omega
   have ne8 : ¬ w.heap.size = T := by omega
   have ne9 : ¬ T = S := by omega
   have neA : ¬ S = T := by omega
   clear hM ne
   by_cases hend : K = Lb
   ·subst hend
    have e : o = R := by rw [← Hacc.out, Nat.div_eq_of_lt Hlt.out, accE_zero]
    subst e
    have B3 := HM.out.rs
    have hE := HM.out.ext
    have d0 := (B3 0 _ rfl).1
    have d1 := (B3 1 _ rfl).1
    have z0 := (B3 0 _ rfl).2
    have z1 := (B3 1 _ rfl).2
    go_wp2
    obtain ⟨W, hW⟩ : ∃ W, putL (w.heap.size + 1 + 1) 0 [.int .i64 o.x, .int .i64 o.y] wr = W := ⟨_, rfl⟩
    have BW := Blk.put B3 [.int .i64 o.x, .int .i64 o.y] rfl
    rw [hW] at BW
    have hF : Ext w W := hW ▸ hE.putL (by omega) _
    simp only [putL, Nat.zero_add] at hW
    simp only [hW]
    have q0 := (BW 0 _ rfl).1
    have q1 := (BW 1 _ rfl).1
    refine bodyPost_ret (v := .agg #[.int .i64 o.x, .int .i64 o.y]) (by simp [results, Tryz.results194, go_sem, q0, q1]) rfl ⟨rfl, hF⟩
   ·have hlt : (K : Int) < (Lb : Int) := by omega
    obtain ⟨f', hf'⟩ : ∃ f', 64 - K = f' + 1 := ⟨63 - K, by omega⟩
    have Hac : Hid (accE P.toNat D (64 - (K + 1)) (n / 2 ^ (K + 1)) (if n / 2 ^ K % 2 = 1 then addE P.toNat D o b else o) (addE P.toNat D b b) = R) := by
     have := Hacc.out
     rw [hf', accE] at this
     rw [show 64 - (K + 1) = f' by omega, Nat.pow_succ, ← Nat.div_div_eq_div_mul]
     exact this
    have Hbb := hide (Hin.out b b hb hb)
    clear Hacc hf'
    by_cases hodd : n / 2 ^ K % 2 = 1
    ·have hbt : (bits .and .i64 ((n : Int) / 2 ^ K) 1 == 1) = true := by rw [bit_test]; simpa using hodd
     have Hob := hide (Hin.out o b ho hb)
     have Ha2 : Hid (accE P.toNat D (64 - (K + 1)) (n / 2 ^ (K + 1)) (addE P.toNat D o b) (addE P.toNat D b b) = R) := by have := Hac.out; rwa [if_pos hodd] at this
     clear Hac hodd
     go_wp2_with fail
     refine (Hadd.out o b _ ho hb).mono ?_
     rintro e w3 ⟨rfl, hw3⟩
     generalize addE P.toNat D o b = c at *
     have M1 := HM.out.call hw3
     have HM1 := hide M1
     clear hw3 HM g0 g1 g2 g3 g4 g5 g6 g7 g8 o0 o1 y0 y1 b0 b1 x0 x1
     have KG := M1.gr
     have KO := M1.ot
     have KB := M1.pt
     have g0 := (KG 0 _ rfl).1
     have g1 := (KG 1 _ rfl).1
     have g2 := (KG 2 _ rfl).1
     have g3 := (KG 3 _ rfl).1
     have g4 := (KG 4 _ rfl).1
     have g5 := (KG 5 _ rfl).1
     have g6 := (KG 6 _ rfl).1
     have g7 := (KG 7 _ rfl).1
     have g8 := (KG 8 _ rfl).1
     have o0 := (KO 0 _ rfl).1
     have o1 := (KO 1 _ rfl).1
     have y0 := (KO 0 _ rfl).2
     have y1 := (KO 1 _ rfl).2
     have b0 := (KB 0 _ rfl).1
     have b1 := (KB 1 _ rfl).1
     have x0 := (KB 0 _ rfl).2
     have x1 := (KB 1 _ rfl).2
     clear KG KO KB
     clear M1
     go_wp2_with fail
     refine (Hadd.out b b _ hb hb).mono ?_
     rintro e w4 ⟨rfl, hw4⟩
     generalize addE P.toNat D b b = d at *
     have M2 := (HM1.out.putO c).call hw4
     have HM2 := hide M2
     clear hw4 HM1 g0 g1 g2 g3 g4 g5 g6 g7 g8 o0 o1 y0 y1 b0 b1 x0 x1
     have KG := M2.gr
     have KO := M2.ot
     have KB := M2.pt
     have g0 := (KG 0 _ rfl).1
     have g1 := (KG 1 _ rfl).1
     have g2 := (KG 2 _ rfl).1
     have g3 := (KG 3 _ rfl).1
     have g4 := (KG 4 _ rfl).1
     have g5 := (KG 5 _ rfl).1
     have g6 := (KG 6 _ rfl).1
     have g7 := (KG 7 _ rfl).1
     have g8 := (KG 8 _ rfl).1
     have o0 := (KO 0 _ rfl).1
     have o1 := (KO 1 _ rfl).1
     have y0 := (KO 0 _ rfl).2
     have y1 := (KO 1 _ rfl).2
     have b0 := (KB 0 _ rfl).1
     have b1 := (KB 1 _ rfl).1
     have x0 := (KB 0 _ rfl).2
     have x1 := (KB 1 _ rfl).2
     clear KG KO KB
     clear M2
     go_wp2
     go_roundw
     case rel => exact ⟨K + 1, c, d, by go_num, by omega, Hob.out, Hbb.out, Ha2.out, HM2.out.putB d⟩
     case measure => simp [intOf]; omega
    ·have hbt : (bits .and .i64 ((n : Int) / 2 ^ K) 1 == 1) = false := by rw [bit_test]; simpa using hodd
     have Ha2 : Hid (accE P.toNat D (64 - (K + 1)) (n / 2 ^ (K + 1)) o (addE P.toNat D b b) = R) := by have := Hac.out; rwa [if_neg hodd] at this
     clear Hac hodd
     go_wp2_with fail
     refine (Hadd.out b b _ hb hb).mono ?_
     rintro e w4 ⟨rfl, hw4⟩
     generalize addE P.toNat D b b = d at *
     have M2 := HM.out.call hw4
     have HM2 := hide M2
     clear hw4 HM g0 g1 g2 g3 g4 g5 g6 g7 g8 o0 o1 y0 y1 b0 b1 x0 x1
     have KG := M2.gr
     have KO := M2.ot
     have KB := M2.pt
     have g0 := (KG 0 _ rfl).1
     have g1 := (KG 1 _ rfl).1
     have g2 := (KG 2 _ rfl).1
     have g3 := (KG 3 _ rfl).1
     have g4 := (KG 4 _ rfl).1
     have g5 := (KG 5 _ rfl).1
     have g6 := (KG 6 _ rfl).1
     have g7 := (KG 7 _ rfl).1
     have g8 := (KG 8 _ rfl).1
     have o0 := (KO 0 _ rfl).1
     have o1 := (KO 1 _ rfl).1
     have y0 := (KO 0 _ rfl).2
     have y1 := (KO 1 _ rfl).2
     have b0 := (KB 0 _ rfl).1
     have b1 := (KB 1 _ rfl).1
     have x0 := (KB 0 _ rfl).2
     have x1 := (KB 1 _ rfl).2
     clear KG KO KB
     clear M2
     go_wp2
     go_roundw
     case rel => exact ⟨K + 1, o, d, by go_num, by omega, ho, Hbb.out, Ha2.out, HM2.out.putB d⟩
     case measure => simp [intOf]; omega
end Go.Proofs.YtfhiiakoilkbkaaGreatDoor
