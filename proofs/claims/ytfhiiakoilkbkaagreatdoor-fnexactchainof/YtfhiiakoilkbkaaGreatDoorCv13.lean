/- Walks: the group of a curve of the program (impl.Point): fold. -/
import Derived.Test.YtfhiiakoilkbkaaGreatDoorCv12
namespace Go.Proofs.YtfhiiakoilkbkaaGreatDoor
set_option linter.unusedVariables false
set_option linter.unusedSimpArgs false
open Go.RowKit
structure FoldPt (w wr : World) (S T : Nat) (P A B N gx gy : Int) (b o : Pt) : Prop where
 gr : Blk wr w.heap.size [.int .i64 0, .int .i64 0, .bool true, .int .i64 gx, .int .i64 gy, .bool false, .func (.func 179) #[.agg #[.int .i64 P, .int .i64 A, .int .i64 B, .int .i64 N, .int .i64 gx, .int .i64 gy]] #[], .func (.func 180) #[.agg #[.int .i64 P, .int .i64 A, .int .i64 B, .int .i64 N, .int .i64 gx, .int .i64 gy]] #[], .func (.func 181) #[.agg #[.int .i64 P, .int .i64 A, .int .i64 B, .int .i64 N, .int .i64 gx, .int .i64 gy]] #[], .func (.func 182) #[.agg #[.int .i64 P, .int .i64 A, .int .i64 B, .int .i64 N, .int .i64 gx, .int .i64 gy]] #[], .func (.func 183) #[] #[]]
 rs : Blk wr (w.heap.size + 1 + 1) [.int .i64 0, .int .i64 0, .bool false]
 ot : Blk wr S [.int .i64 o.x, .int .i64 o.y, .bool o.far]
 pt : Blk wr T [.int .i64 b.x, .int .i64 b.y, .bool b.far]
 lo : w.heap.size + 3 ≤ S
 lo2 : w.heap.size + 3 ≤ T
 ne : S ≠ T
 ext : Ext w wr
 big : S < wr.heap.size
 big2 : T < wr.heap.size
theorem FoldPt.call {w wr w1 : World} {S T : Nat} {P A B N gx gy : Int} {b o : Pt} (h : FoldPt w wr S T P A B N gx gy b o) (hb : Ext wr w1) : FoldPt w w1 S T P A B N gx gy b o :=
 ⟨h.gr.ext hb (by have := h.big; have := h.lo; omega), h.rs.ext hb (by have := h.big; have := h.lo; omega), h.ot.ext hb h.big, h.pt.ext hb h.big2, h.lo, h.lo2, h.ne, h.ext.trans hb, Nat.lt_of_lt_of_le h.big (Below.size hb), Nat.lt_of_lt_of_le h.big2 (Below.size hb)⟩
theorem FoldPt.putO {w wr : World} {S T : Nat} {P A B N gx gy : Int} {b o : Pt} (h : FoldPt w wr S T P A B N gx gy b o) (c : Pt) : FoldPt w (putL S 0 [.int .i64 c.x, .int .i64 c.y, .bool c.far] wr) S T P A B N gx gy b c :=
 ⟨h.gr.put_other _ (by have := h.lo; omega), h.rs.put_other _ (by have := h.lo; omega), h.ot.put _ rfl, h.pt.put_other _ h.ne.symm, h.lo, h.lo2, h.ne, h.ext.putL (by have := h.lo; omega) _, by rw [size_putL]; exact h.big, by rw [size_putL]; exact h.big2⟩
theorem FoldPt.putB {w wr : World} {S T : Nat} {P A B N gx gy : Int} {b o : Pt} (h : FoldPt w wr S T P A B N gx gy b o) (c : Pt) : FoldPt w (putL T 0 [.int .i64 c.x, .int .i64 c.y, .bool c.far] wr) S T P A B N gx gy c o :=
 ⟨h.gr.put_other _ (by have := h.lo2; omega), h.rs.put_other _ (by have := h.lo2; omega), h.ot.put_other _ h.ne, h.pt.put _ rfl, h.lo, h.lo2, h.ne, h.ext.putL (by have := h.lo2; omega) _, by rw [size_putL]; exact h.big, by rw [size_putL]; exact h.big2⟩
set_option maxHeartbeats 3200000 in
set_option maxRecDepth 100000 in
theorem foldPt_yes {P A B N : Int} (gx gy : Int) (h : CvNum P A B N) {a R : Pt} (ha : On P.toNat A B a) (n : Nat) (n1 : n ≤ 1099511627776) (hR : mulF P.toNat A n a = R) (w : World) :
  Calls Tryz.prog 162 #[.agg #[.int .i64 0, .int .i64 0, .bool true, .int .i64 gx, .int .i64 gy, .bool false, .func (.func 179) #[.agg #[.int .i64 P, .int .i64 A, .int .i64 B, .int .i64 N, .int .i64 gx, .int .i64 gy]] #[], .func (.func 180) #[.agg #[.int .i64 P, .int .i64 A, .int .i64 B, .int .i64 N, .int .i64 gx, .int .i64 gy]] #[], .func (.func 181) #[.agg #[.int .i64 P, .int .i64 A, .int .i64 B, .int .i64 N, .int .i64 gx, .int .i64 gy]] #[], .func (.func 182) #[.agg #[.int .i64 P, .int .i64 A, .int .i64 B, .int .i64 N, .int .i64 gx, .int .i64 gy]] #[], .func (.func 183) #[] #[]], .int .i64 n, .agg #[.int .i64 a.x, .int .i64 a.y, .bool a.far]] w fun e w' => e = .returned (.agg #[.int .i64 R.x, .int .i64 R.y, .bool R.far]) ∧ Ext w w' := by
 have Hadd : Hid (∀ (a b : Pt) (w : World), On P.toNat A B a → On P.toNat A B b → Calls Tryz.prog 180 #[.agg #[.int .i64 P, .int .i64 A, .int .i64 B, .int .i64 N, .int .i64 gx, .int .i64 gy], .agg #[.int .i64 a.x, .int .i64 a.y, .bool a.far], .agg #[.int .i64 b.x, .int .i64 b.y, .bool b.far]] w fun r w' => r = .returned (.agg #[.int .i64 (addF P.toNat A a b).x, .int .i64 (addF P.toNat A a b).y, .bool (addF P.toNat A a b).far]) ∧ Ext w w') := fun a b w ha hb => addPt_at gx gy h ha hb w
 have Hin : Hid (∀ a b : Pt, On P.toNat A B a → On P.toNat A B b → On P.toNat A B (addF P.toNat A a b)) := fun a b ha hb => CvNum.addPt_on h ha hb
 have Hs : Hid (mulAcc P.toNat A 64 n farP a = R) := hR
 have HK := hide (knownPt_yes gx gy h ha)
 have Ha : Hid (On P.toNat A B a) := ha
 have Hf : Hid (On P.toNat A B farP) := CvNum.unitPt_on h
 have hlen := Lib.bitLen_le n 64 (by omega) (by omega)
 have Hlt := hide (bitLen_lt n (by omega))
 have n0 : (0 : Int) ≤ n := by omega
 have n2 : (n : Int) ≤ 1099511627776 := by omega
 clear h ha hR
 go_enter Tryz.func162, Tryz.ntmps162
 go_wp2_with fail
 refine (want_yes _).mono ?_
 rintro r w' ⟨rfl, rfl⟩
 obtain ⟨V, hV⟩ : ∃ V, ((w.alloc (.cells #[.int .i64 0, .int .i64 0, .bool true, .int .i64 gx, .int .i64 gy, .bool false, .func (.func 179) #[.agg #[.int .i64 P, .int .i64 A, .int .i64 B, .int .i64 N, .int .i64 gx, .int .i64 gy]] #[], .func (.func 180) #[.agg #[.int .i64 P, .int .i64 A, .int .i64 B, .int .i64 N, .int .i64 gx, .int .i64 gy]] #[], .func (.func 181) #[.agg #[.int .i64 P, .int .i64 A, .int .i64 B, .int .i64 N, .int .i64 gx, .int .i64 gy]] #[], .func (.func 182) #[.agg #[.int .i64 P, .int .i64 A, .int .i64 B, .int .i64 N, .int .i64 gx, .int .i64 gy]] #[], .func (.func 183) #[] #[]] 176)).alloc (.cells #[.int .i64 a.x, .int .i64 a.y, .bool a.far] 47)).alloc (.cells #[.int .i64 0, .int .i64 0, .bool false] 47) = V := ⟨_, rfl⟩
 obtain ⟨B1, B2, B3, hE, hz⟩ := box3 w [.int .i64 0, .int .i64 0, .bool true, .int .i64 gx, .int .i64 gy, .bool false, .func (.func 179) #[.agg #[.int .i64 P, .int .i64 A, .int .i64 B, .int .i64 N, .int .i64 gx, .int .i64 gy]] #[], .func (.func 180) #[.agg #[.int .i64 P, .int .i64 A, .int .i64 B, .int .i64 N, .int .i64 gx, .int .i64 gy]] #[], .func (.func 181) #[.agg #[.int .i64 P, .int .i64 A, .int .i64 B, .int .i64 N, .int .i64 gx, .int .i64 gy]] #[], .func (.func 182) #[.agg #[.int .i64 P, .int .i64 A, .int .i64 B, .int .i64 N, .int .i64 gx, .int .i64 gy]] #[], .func (.func 183) #[] #[]] [.int .i64 a.x, .int .i64 a.y, .bool a.far] [.int .i64 0, .int .i64 0, .bool false] 176 47 47 (hV ▸ Ext.refl _ : Ext (((w.alloc (.cells #[.int .i64 0, .int .i64 0, .bool true, .int .i64 gx, .int .i64 gy, .bool false, .func (.func 179) #[.agg #[.int .i64 P, .int .i64 A, .int .i64 B, .int .i64 N, .int .i64 gx, .int .i64 gy]] #[], .func (.func 180) #[.agg #[.int .i64 P, .int .i64 A, .int .i64 B, .int .i64 N, .int .i64 gx, .int .i64 gy]] #[], .func (.func 181) #[.agg #[.int .i64 P, .int .i64 A, .int .i64 B, .int .i64 N, .int .i64 gx, .int .i64 gy]] #[], .func (.func 182) #[.agg #[.int .i64 P, .int .i64 A, .int .i64 B, .int .i64 N, .int .i64 gx, .int .i64 gy]] #[], .func (.func 183) #[] #[]] 176)).alloc (.cells #[.int .i64 a.x, .int .i64 a.y, .bool a.far] 47)).alloc (.cells #[.int .i64 0, .int .i64 0, .bool false] 47)) V)
 simp only [hV]
 clear hV
 go_wp2
 obtain ⟨X, hX⟩ : ∃ X : Nat → Prop, X = fun k => V.heap.size ≤ k := ⟨_, rfl⟩
 have x0 : ∀ k, k < V.heap.size → ¬ X k := fun k h => by rw [hX]; simp; omega
 have x1 : ∀ k, V.heap.size ≤ k → X k := fun k h => by rw [hX]; exact h
 clear hX
 have g0 := cell_reC (B1 0 _ rfl).1 (x0 _ (by first | omega | (simp only; omega)))
 have g1 := cell_reC (B1 1 _ rfl).1 (x0 _ (by first | omega | (simp only; omega)))
 have g2 := cell_reC (B1 2 _ rfl).1 (x0 _ (by first | omega | (simp only; omega)))
 have g3 := cell_reC (B1 3 _ rfl).1 (x0 _ (by first | omega | (simp only; omega)))
 have g4 := cell_reC (B1 4 _ rfl).1 (x0 _ (by first | omega | (simp only; omega)))
 have g5 := cell_reC (B1 5 _ rfl).1 (x0 _ (by first | omega | (simp only; omega)))
 have g6 := cell_reC (B1 6 _ rfl).1 (x0 _ (by first | omega | (simp only; omega)))
 have g7 := cell_reC (B1 7 _ rfl).1 (x0 _ (by first | omega | (simp only; omega)))
 have g8 := cell_reC (B1 8 _ rfl).1 (x0 _ (by first | omega | (simp only; omega)))
 have g9 := cell_reC (B1 9 _ rfl).1 (x0 _ (by first | omega | (simp only; omega)))
 have g10 := cell_reC (B1 10 _ rfl).1 (x0 _ (by first | omega | (simp only; omega)))
 have c0 := cell_reC (B2 0 _ rfl).1 (x0 _ (by first | omega | (simp only; omega)))
 have c1 := cell_reC (B2 1 _ rfl).1 (x0 _ (by first | omega | (simp only; omega)))
 have c2 := cell_reC (B2 2 _ rfl).1 (x0 _ (by first | omega | (simp only; omega)))
 refine anyK_begin X 9 rfl (by kernel_rfl) ?_
 refine anyK_take 0 5 4 rfl (by decide) (by kernel_rfl) (fun _ _ d _ _ h => by cases d <;> exact h) ?_
 repeat (refine headC_step (fun K hK => ?_); go_simp; first | (refine hK _ ?_; clear hK K) | (apply Exists.intro; refine ⟨fun _ => ?_, hK _ ?_⟩; (exact Calls.re_of (HK.out _)); clear hK K))
 refine headC_nil ?_
 clear g0 g1 g2 g3 g4 g5 g6 g7 g8 g9 g10 c0 c1 c2 HK
 refine anyK_two 5 6 (by kernel_rfl) ?_ ?_
 ·refine stepK_run rfl ?_
  intro w2 h2 K hK
  go_simp
  refine hK _ _ (.of_ext (h2.trans (Ext.alloc _ _))) ?_
  clear hK K
  refine anyK_one 6 (by kernel_rfl) ?_
  refine stepK_run rfl ?_
  intro w3 h3 K hK
  go_simp
  refine hK _ _ (.of_ext (((h2.trans (Ext.alloc _ _)).trans h3).trans (Ext.alloc _ _))) ?_
  clear hK K
  refine anyK_one 7 (by kernel_rfl) ?_
  refine stepK_run rfl ?_
  intro w4 h4 K hK
  obtain ⟨BS, BT, hV4, lS, lT, ne, sS, sT⟩ := two_alloc (z := [.int .i64 0, .int .i64 0, .bool false]) (z' := [.int .i64 0, .int .i64 0, .bool false]) h2 h3 h4
  clear h2 h3 h4
  generalize w2.heap.size = S at *
  generalize w3.heap.size = T at *
  have s0 := (BS 0 _ rfl).1
  have s1 := (BS 1 _ rfl).1
  have s2 := (BS 2 _ rfl).1
  have y0 := (BS 0 _ rfl).2
  have y1 := (BS 1 _ rfl).2
  have y2 := (BS 2 _ rfl).2
  go_simp
  refine hK _ _ (show Grw X V (putL S 0 [.int .i64 0, .int .i64 0, .bool true] w4) from Grw.putL (x1 _ lS) _ _ _ (.of_ext hV4)) ?_
  clear hK K s0 s1 s2 y0 y1 y2
  refine anyK_one 8 (by kernel_rfl) ?_
  refine stepK_run rfl ?_
  intro w5 h5 K hK
  replace h5 : Ext (putL S 0 [.int .i64 0, .int .i64 0, .bool true] w4) w5 := h5
  have BT5 := (BT.put_other [.int .i64 0, .int .i64 0, .bool true] ne.symm).ext h5 (by rw [size_putL]; exact sT)
  have s0 := (BT5 0 _ rfl).1
  have s1 := (BT5 1 _ rfl).1
  have s2 := (BT5 2 _ rfl).1
  have y0 := (BT5 0 _ rfl).2
  have y1 := (BT5 1 _ rfl).2
  have y2 := (BT5 2 _ rfl).2
  go_simp
  refine hK _ _ (show Grw X V (putL T 0 [.int .i64 a.x, .int .i64 a.y, .bool a.far] w5) from Grw.putL (x1 _ lT) _ _ _ ((Grw.putL (x1 _ lS) _ _ _ (.of_ext hV4)).trans (.of_ext h5))) ?_
  clear hK K s0 s1 s2 y0 y1 y2 BT5
  refine anyK_done (by kernel_rfl) ?_ 0
  intro w6 h6
  replace h6 : Ext (putL T 0 [.int .i64 a.x, .int .i64 a.y, .bool a.far] w5) w6 := h6
  obtain ⟨B4, B5, hV6, sS6, sT6⟩ := two_put (z := [.int .i64 0, .int .i64 0, .bool false]) (u := [.int .i64 0, .int .i64 0, .bool true]) (v := [.int .i64 a.x, .int .i64 a.y, .bool a.far]) rfl rfl BS BT hV4 lS lT ne sS sT h5 h6
  have HF : Hid (FoldPt w w6 S T P A B N gx gy a farP) := ⟨B1.ext hV6 (by omega), B3.ext hV6 (by omega), B4, B5, by omega, by omega, ne, hE.trans hV6, sS6, sT6⟩
  clear BS BT hV4 lS lT ne sS sT h5 h6 B4 B5 hV6 sS6 sT6 x0 x1 X B1 B2 B3 hE hz w4 w5
  go_wp2_with fail
  refine (len_all (n : Int) _ (by omega) (by omega)).mono ?_
  rintro r w' ⟨rfl, hw⟩
  subst hw
  rw [Int.toNat_natCast]
  generalize Lib.bitLen n = Lb at *
  go_wp2
  go_loopw [25] (fun i wr => ∃ (K : Nat) (o b : Pt), i = .int .i64 K ∧ K ≤ Lb ∧ On P.toNat A B o ∧ On P.toNat A B b ∧ mulAcc P.toNat A (64 - K) (n / 2 ^ K) o b = R ∧ FoldPt w wr S T P A B N gx gy b o) (fun i _ => Lb - (intOf i).toNat)
  case atStart => exact ⟨0, farP, a, rfl, by omega, Hf.out, Ha.out, by simpa using Hs.out, HF.out⟩
  case round =>
   obtain ⟨K, o, b, rfl, hK, ho, hb, hacc, hM⟩ := hrel
   have HM := hide hM
   have Hacc := hide hacc
   clear Hs Ha Hf hacc HF
   have KG := hM.gr
   have KO := hM.ot
   have KB := hM.pt
   have g0 := (KG 0 _ rfl).1
   have g1 := (KG 1 _ rfl).1
   have g2 := (KG 2 _ rfl).1
   have g3 := (KG 3 _ rfl).1
   have g4 := (KG 4 _ rfl).1
   have g5 := (KG 5 _ rfl).1
   have g6 := (KG 6 _ rfl).1
   have g7 := (KG 7 _ rfl).1
   have g8 := (KG 8 _ rfl).1
   have g9 := (KG 9 _ rfl).1
   have g10 := (KG 10 _ rfl).1
   have o0 := (KO 0 _ rfl).1
   have o1 := (KO 1 _ rfl).1
   have o2 := (KO 2 _ rfl).1
   have y0 := (KO 0 _ rfl).2
   have y1 := (KO 1 _ rfl).2
   have y2 := (KO 2 _ rfl).2
   have b0 := (KB 0 _ rfl).1
   have b1 := (KB 1 _ rfl).1
   have b2 := (KB 2 _ rfl).1
   have x0 := (KB 0 _ rfl).2
   have x1 := (KB 1 _ rfl).2
   have x2 := (KB 2 _ rfl).2
   clear KG KO KB
   have hlo := hM.lo
   have hlo2 := hM.lo2
   have ne := hM.ne
   have ne1 : ¬ S = w.heap.size + 1 + 1 := by omega
   have ne2 : ¬ w.heap.size + 1 + 1 = S := by omega
   have ne3 : ¬ T = w.heap.size + 1 + 1 := by omega
   have ne4 : ¬ w.heap.size + 1 + 1 = T := by omega
   have ne5 : ¬ S = w.heap.size := by omega
   have ne6 : ¬ w.heap.size = S := by omega
   have ne7 : ¬ T = w.heap.size := by omega
   have ne8 : ¬ w.heap.size = T := by omega
   have ne9 : ¬ T = S := by omega
   have neA : ¬ S = T := by omega
   clear hM ne
   by_cases hend : K = Lb
   ·subst hend
    have e : o = R := by rw [← Hacc.out, Nat.div_eq_of_lt Hlt.out, mulAcc_zero]
    subst e
    have B3 := HM.out.rs
    have hE := HM.out.ext
    have d0 := (B3 0 _ rfl).1
    have d1 := (B3 1 _ rfl).1
    have d2 := (B3 2 _ rfl).1
    have z0 := (B3 0 _ rfl).2
    have z1 := (B3 1 _ rfl).2
    have z2 := (B3 2 _ rfl).2
    go_wp2
    obtain ⟨W, hW⟩ : ∃ W, putL (w.heap.size + 1 + 1) 0 [.int .i64 o.x, .int .i64 o.y, .bool o.far] wr = W := ⟨_, rfl⟩
    have BW := Blk.put B3 [.int .i64 o.x, .int .i64 o.y, .bool o.far] rfl
    rw [hW] at BW
    have hF : Ext w W := hW ▸ hE.putL (by omega) _
    simp only [putL, Nat.zero_add, Nat.reduceAdd] at hW
    simp only [hW]
    have q0 := (BW 0 _ rfl).1
    have q1 := (BW 1 _ rfl).1
    have q2 := (BW 2 _ rfl).1
    refine bodyPost_ret (v := .agg #[.int .i64 o.x, .int .i64 o.y, .bool o.far]) (by simp [results, Tryz.results162, go_sem, q0, q1, q2]) rfl ⟨rfl, hF⟩
   ·have hlt : (K : Int) < (Lb : Int) := by omega
    obtain ⟨f', hf'⟩ : ∃ f', 64 - K = f' + 1 := ⟨63 - K, by omega⟩
    have Hac : Hid (mulAcc P.toNat A (64 - (K + 1)) (n / 2 ^ (K + 1)) (if n / 2 ^ K % 2 = 1 then addF P.toNat A o b else o) (addF P.toNat A b b) = R) := by
     have := Hacc.out
     rw [hf', mulAcc] at this
     rw [show 64 - (K + 1) = f' by omega, Nat.pow_succ, ← Nat.div_div_eq_div_mul]
     exact this
    have Hbb := hide (Hin.out b b hb hb)
    clear Hacc hf'
    by_cases hodd : n / 2 ^ K % 2 = 1
    ·have hbt : (bits .and .i64 ((n : Int) / 2 ^ K) 1 == 1) = true := by rw [bit_test]; simpa using hodd
     have Hob := hide (Hin.out o b ho hb)
     have Ha2 : Hid (mulAcc P.toNat A (64 - (K + 1)) (n / 2 ^ (K + 1)) (addF P.toNat A o b) (addF P.toNat A b b) = R) := by have := Hac.out; rwa [if_pos hodd] at this
     clear Hac hodd
     go_wp2_with fail
     refine (Hadd.out o b _ ho hb).mono ?_
     rintro e w3 ⟨rfl, hw3⟩
     generalize addF P.toNat A o b = c at *
     have M1 := HM.out.call hw3
     have HM1 := hide M1
     clear hw3 HM g0 g1 g2 g3 g4 g5 g6 g7 g8 g9 g10 o0 o1 o2 y0 y1 y2 b0 b1 b2 x0 x1 x2
     have KG := M1.gr
     have KO := M1.ot
     have KB := M1.pt
     have g0 := (KG 0 _ rfl).1
     have g1 := (KG 1 _ rfl).1
     have g2 := (KG 2 _ rfl).1
     have g3 := (KG 3 _ rfl).1
     have g4 := (KG 4 _ rfl).1
     have g5 := (KG 5 _ rfl).1
     have g6 := (KG 6 _ rfl).1
     have g7 := (KG 7 _ rfl).1
     have g8 := (KG 8 _ rfl).1
     have g9 := (KG 9 _ rfl).1
     have g10 := (KG 10 _ rfl).1
     have o0 := (KO 0 _ rfl).1
     have o1 := (KO 1 _ rfl).1
     have o2 := (KO 2 _ rfl).1
     have y0 := (KO 0 _ rfl).2
     have y1 := (KO 1 _ rfl).2
     have y2 := (KO 2 _ rfl).2
     have b0 := (KB 0 _ rfl).1
     have b1 := (KB 1 _ rfl).1
     have b2 := (KB 2 _ rfl).1
     have x0 := (KB 0 _ rfl).2
     have x1 := (KB 1 _ rfl).2
     have x2 := (KB 2 _ rfl).2
     clear KG KO KB
     clear M1
     go_wp2_with fail
     refine (Hadd.out b b _ hb hb).mono ?_
     rintro e w4 ⟨rfl, hw4⟩
     generalize addF P.toNat A b b = d at *
     have M2 := (HM1.out.putO c).call hw4
     have HM2 := hide M2
     clear hw4 HM1 g0 g1 g2 g3 g4 g5 g6 g7 g8 g9 g10 o0 o1 o2 y0 y1 y2 b0 b1 b2 x0 x1 x2
     have KG := M2.gr
     have KO := M2.ot
     have KB := M2.pt
     have g0 := (KG 0 _ rfl).1
     have g1 := (KG 1 _ rfl).1
     have g2 := (KG 2 _ rfl).1
     have g3 := (KG 3 _ rfl).1
     have g4 := (KG 4 _ rfl).1
     have g5 := (KG 5 _ rfl).1
     have g6 := (KG 6 _ rfl).1
     have g7 := (KG 7 _ rfl).1
     have g8 := (KG 8 _ rfl).1
     have g9 := (KG 9 _ rfl).1
     have g10 := (KG 10 _ rfl).1
     have o0 := (KO 0 _ rfl).1
     have o1 := (KO 1 _ rfl).1
     have o2 := (KO 2 _ rfl).1
     have y0 := (KO 0 _ rfl).2
     have y1 := (KO 1 _ rfl).2
     have y2 := (KO 2 _ rfl).2
     have b0 := (KB 0 _ rfl).1
     have b1 := (KB 1 _ rfl).1
     have b2 := (KB 2 _ rfl).1
     have x0 := (KB 0 _ rfl).2
     have x1 := (KB 1 _ rfl).2
     have x2 := (KB 2 _ rfl).2
     clear KG KO KB
     clear M2
     go_wp2
     go_roundw
     case rel => exact ⟨K + 1, c, d, by go_num, by omega, Hob.out, Hbb.out, Ha2.out, HM2.out.putB d⟩
     case measure => simp [intOf]; omega
    ·have hbt : (bits .and .i64 ((n : Int) / 2 ^ K) 1 == 1) = false := by rw [bit_test]; simpa using hodd
     have Ha2 : Hid (mulAcc P.toNat A (64 - (K + 1)) (n / 2 ^ (K + 1)) o (addF P.toNat A b b) = R) := by have := Hac.out; rwa [if_neg hodd] at this
     clear Hac hodd
     go_wp2_with fail
     refine (Hadd.out b b _ hb hb).mono ?_
     rintro e w4 ⟨rfl, hw4⟩
     generalize addF P.toNat A b b = d at *
     have M2 := HM.out.call hw4
     have HM2 := hide M2
     clear hw4 HM g0 g1 g2 g3 g4 g5 g6 g7 g8 g9 g10 o0 o1 o2 y0 y1 y2 b0 b1 b2 x0 x1 x2
     have KG := M2.gr
     have KO := M2.ot
     have KB := M2.pt
     have g0 := (KG 0 _ rfl).1
     have g1 := (KG 1 _ rfl).1
     have g2 := (KG 2 _ rfl).1
     have g3 := (KG 3 _ rfl).1
     have g4 := (KG 4 _ rfl).1
     have g5 := (KG 5 _ rfl).1
     have g6 := (KG 6 _ rfl).1
     have g7 := (KG 7 _ rfl).1
     have g8 := (KG 8 _ rfl).1
     have g9 := (KG 9 _ rfl).1
     have g10 := (KG 10 _ rfl).1
     have o0 := (KO 0 _ rfl).1
     have o1 := (KO 1 _ rfl).1
     have o2 := (KO 2 _ rfl).1
     have y0 := (KO 0 _ rfl).2
     have y1 := (KO 1 _ rfl).2
     have y2 := (KO 2 _ rfl).2
     have b0 := (KB 0 _ rfl).1
     have b1 := (KB 1 _ rfl).1
     have b2 := (KB 2 _ rfl).1
     have x0 := (KB 0 _ rfl).2
     have x1 := (KB 1 _ rfl).2
     have x2 := (KB 2 _ rfl).2
     clear KG KO KB
     clear M2
     go_wp2
     go_roundw
     case rel => exact ⟨K + 1, o, d, by go_num, by omega, ho, Hbb.out, Ha2.out, HM2.out.putB d⟩
     case measure => simp [intOf]; omega
 ·refine stepK_run rfl ?_
  intro w2 h2 K hK
  go_simp
  refine hK _ _ (.of_ext (h2.trans (Ext.alloc _ _))) ?_
  clear hK K
  refine anyK_one 5 (by kernel_rfl) ?_
  refine stepK_run rfl ?_
  intro w3 h3 K hK
  go_simp
  refine hK _ _ (.of_ext (((h2.trans (Ext.alloc _ _)).trans h3).trans (Ext.alloc _ _))) ?_
  clear hK K
  refine anyK_one 7 (by kernel_rfl) ?_
  refine stepK_run rfl ?_
  intro w4 h4 K hK
  obtain ⟨BT, BS, hV4, lT, lS, ne', sT, sS⟩ := two_alloc (z := [.int .i64 0, .int .i64 0, .bool false]) (z' := [.int .i64 0, .int .i64 0, .bool false]) h2 h3 h4
  have ne := ne'.symm
  clear h2 h3 h4 ne'
  generalize w2.heap.size = T at *
  generalize w3.heap.size = S at *
  have s0 := (BS 0 _ rfl).1
  have s1 := (BS 1 _ rfl).1
  have s2 := (BS 2 _ rfl).1
  have y0 := (BS 0 _ rfl).2
  have y1 := (BS 1 _ rfl).2
  have y2 := (BS 2 _ rfl).2
  go_simp
  refine hK _ _ (show Grw X V (putL S 0 [.int .i64 0, .int .i64 0, .bool true] w4) from Grw.putL (x1 _ lS) _ _ _ (.of_ext hV4)) ?_
  clear hK K s0 s1 s2 y0 y1 y2
  refine anyK_one 8 (by kernel_rfl) ?_
  refine stepK_run rfl ?_
  intro w5 h5 K hK
  replace h5 : Ext (putL S 0 [.int .i64 0, .int .i64 0, .bool true] w4) w5 := h5
  have BT5 := (BT.put_other [.int .i64 0, .int .i64 0, .bool true] ne.symm).ext h5 (by rw [size_putL]; exact sT)
  have s0 := (BT5 0 _ rfl).1
  have s1 := (BT5 1 _ rfl).1
  have s2 := (BT5 2 _ rfl).1
  have y0 := (BT5 0 _ rfl).2
  have y1 := (BT5 1 _ rfl).2
  have y2 := (BT5 2 _ rfl).2
  go_simp
  refine hK _ _ (show Grw X V (putL T 0 [.int .i64 a.x, .int .i64 a.y, .bool a.far] w5) from Grw.putL (x1 _ lT) _ _ _ ((Grw.putL (x1 _ lS) _ _ _ (.of_ext hV4)).trans (.of_ext h5))) ?_
  clear hK K s0 s1 s2 y0 y1 y2 BT5
  refine anyK_done (by kernel_rfl) ?_ 0
  intro w6 h6
  replace h6 : Ext (putL T 0 [.int .i64 a.x, .int .i64 a.y, .bool a.far] w5) w6 := h6
  obtain ⟨B4, B5, hV6, sS6, sT6⟩ := two_put (z := [.int .i64 0, .int .i64 0, .bool false]) (u := [.int .i64 0, .int .i64 0, .bool true]) (v := [.int .i64 a.x, .int .i64 a.y, .bool a.far]) rfl rfl BS BT hV4 lS lT ne sS sT h5 h6
  have HF : Hid (FoldPt w w6 S T P A B N gx gy a farP) := ⟨B1.ext hV6 (by omega), B3.ext hV6 (by omega), B4, B5, by omega, by omega, ne, hE.trans hV6, sS6, sT6⟩
  clear BS BT hV4 lS lT ne sS sT h5 h6 B4 B5 hV6 sS6 sT6 x0 x1 X B1 B2 B3 hE hz w4 w5
  go_wp2_with fail
  refine (len_all (n : Int) _ (by omega) (by omega)).mono ?_
  rintro r w' ⟨rfl, hw⟩
  subst hw
  rw [Int.toNat_natCast]
  generalize Lib.bitLen n = Lb at *
  go_wp2
  go_loopw [25] (fun i wr => ∃ (K : Nat) (o b : Pt), i = .int .i64 K ∧ K ≤ Lb ∧ On P.toNat A B o ∧ On P.toNat A B b ∧ mulAcc P.toNat A (64 - K) (n / 2 ^ K) o b = R ∧ FoldPt w wr S T P A B N gx gy b o) (fun i _ => Lb - (intOf i).toNat)
  case atStart => exact ⟨0, farP, a, rfl, by omega, Hf.out, Ha.out, by simpa using Hs.out, HF.out⟩
  case round =>
   obtain ⟨K, o, b, rfl, hK, ho, hb, hacc, hM⟩ := hrel
   have HM := hide hM
   have Hacc := hide hacc
   clear Hs Ha Hf hacc HF
   have KG := hM.gr
   have KO := hM.ot
   have KB := hM.pt
   have g0 := (KG 0 _ rfl).1
   have g1 := (KG 1 _ rfl).1
   have g2 := (KG 2 _ rfl).1
   have g3 := (KG 3 _ rfl).1
   have g4 := (KG 4 _ rfl).1
   have g5 := (KG 5 _ rfl).1
   have g6 := (KG 6 _ rfl).1
   have g7 := (KG 7 _ rfl).1
   have g8 := (KG 8 _ rfl).1
   have g9 := (KG 9 _ rfl).1
   have g10 := (KG 10 _ rfl).1
   have o0 := (KO 0 _ rfl).1
   have o1 := (KO 1 _ rfl).1
   have o2 := (KO 2 _ rfl).1
   have y0 := (KO 0 _ rfl).2
   have y1 := (KO 1 _ rfl).2
   have y2 := (KO 2 _ rfl).2
   have b0 := (KB 0 _ rfl).1
   have b1 := (KB 1 _ rfl).1
   have b2 := (KB 2 _ rfl).1
   have x0 := (KB 0 _ rfl).2
   have x1 := (KB 1 _ rfl).2
   have x2 := (KB 2 _ rfl).2
   clear KG KO KB
   have hlo := hM.lo
   have hlo2 := hM.lo2
   have ne := hM.ne
   have ne1 : ¬ S = w.heap.size + 1 + 1 := by omega
   have ne2 : ¬ w.heap.size + 1 + 1 = S := by omega
   have ne3 : ¬ T = w.heap.size + 1 + 1 := by omega
   have ne4 : ¬ w.heap.size + 1 + 1 = T := by omega
   have ne5 : ¬ S = w.heap.size := by omega
   have ne6 : ¬ w.heap.size = S := by omega
   have ne7 : ¬ T = w.heap.size := by omega
   have ne8 : ¬ w.heap.size = T := by omega
   have ne9 : ¬ T = S := by omega
   have neA : ¬ S = T := by omega
   clear hM ne
   by_cases hend : K = Lb
   ·subst hend
    have e : o = R := by rw [← Hacc.out, Nat.div_eq_of_lt Hlt.out, mulAcc_zero]
    subst e
    have B3 := HM.out.rs
    have hE := HM.out.ext
    have d0 := (B3 0 _ rfl).1
    have d1 := (B3 1 _ rfl).1
    have d2 := (B3 2 _ rfl).1
    have z0 := (B3 0 _ rfl).2
    have z1 := (B3 1 _ rfl).2
    have z2 := (B3 2 _ rfl).2
    go_wp2
    obtain ⟨W, hW⟩ : ∃ W, putL (w.heap.size + 1 + 1) 0 [.int .i64 o.x, .int .i64 o.y, .bool o.far] wr = W := ⟨_, rfl⟩
    have BW := Blk.put B3 [.int .i64 o.x, .int .i64 o.y, .bool o.far] rfl
    rw [hW] at BW
    have hF : Ext w W := hW ▸ hE.putL (by omega) _
    simp only [putL, Nat.zero_add, Nat.reduceAdd] at hW
    simp only [hW]
    have q0 := (BW 0 _ rfl).1
    have q1 := (BW 1 _ rfl).1
    have q2 := (BW 2 _ rfl).1
    refine bodyPost_ret (v := .agg #[.int .i64 o.x, .int .i64 o.y, .bool o.far]) (by simp [results, Tryz.results162, go_sem, q0, q1, q2]) rfl ⟨rfl, hF⟩
   ·have hlt : (K : Int) < (Lb : Int) := by omega
    obtain ⟨f', hf'⟩ : ∃ f', 64 - K = f' + 1 := ⟨63 - K, by omega⟩
    have Hac : Hid (mulAcc P.toNat A (64 - (K + 1)) (n / 2 ^ (K + 1)) (if n / 2 ^ K % 2 = 1 then addF P.toNat A o b else o) (addF P.toNat A b b) = R) := by
     have := Hacc.out
     rw [hf', mulAcc] at this
     rw [show 64 - (K + 1) = f' by omega, Nat.pow_succ, ← Nat.div_div_eq_div_mul]
     exact this
    have Hbb := hide (Hin.out b b hb hb)
    clear Hacc hf'
    by_cases hodd : n / 2 ^ K % 2 = 1
    ·have hbt : (bits .and .i64 ((n : Int) / 2 ^ K) 1 == 1) = true := by rw [bit_test]; simpa using hodd
     have Hob := hide (Hin.out o b ho hb)
     have Ha2 : Hid (mulAcc P.toNat A (64 - (K + 1)) (n / 2 ^ (K + 1)) (addF P.toNat A o b) (addF P.toNat A b b) = R) := by have := Hac.out; rwa [if_pos hodd] at this
     clear Hac hodd
     go_wp2_with fail
     refine (Hadd.out o b _ ho hb).mono ?_
     rintro e w3 ⟨rfl, hw3⟩
     generalize addF P.toNat A o b = c at *
     have M1 := HM.out.call hw3
     have HM1 := hide M1
     clear hw3 HM g0 g1 g2 g3 g4 g5 g6 g7 g8 g9 g10 o0 o1 o2 y0 y1 y2 b0 b1 b2 x0 x1 x2
     have KG := M1.gr
     have KO := M1.ot
     have KB := M1.pt
     have g0 := (KG 0 _ rfl).1
     have g1 := (KG 1 _ rfl).1
     have g2 := (KG 2 _ rfl).1
     have g3 := (KG 3 _ rfl).1
     have g4 := (KG 4 _ rfl).1
     have g5 := (KG 5 _ rfl).1
     have g6 := (KG 6 _ rfl).1
     have g7 := (KG 7 _ rfl).1
     have g8 := (KG 8 _ rfl).1
     have g9 := (KG 9 _ rfl).1
     have g10 := (KG 10 _ rfl).1
     have o0 := (KO 0 _ rfl).1
     have o1 := (KO 1 _ rfl).1
     have o2 := (KO 2 _ rfl).1
     have y0 := (KO 0 _ rfl).2
     have y1 := (KO 1 _ rfl).2
     have y2 := (KO 2 _ rfl).2
     have b0 := (KB 0 _ rfl).1
     have b1 := (KB 1 _ rfl).1
     have b2 := (KB 2 _ rfl).1
     have x0 := (KB 0 _ rfl).2
     have x1 := (KB 1 _ rfl).2
     have x2 := (KB 2 _ rfl).2
     clear KG KO KB
     clear M1
     go_wp2_with fail
     refine (Hadd.out b b _ hb hb).mono ?_
     rintro e w4 ⟨rfl, hw4⟩
     generalize addF P.toNat A b b = d at *
     have M2 := (HM1.out.putO c).call hw4
     have HM2 := hide M2
     clear hw4 HM1 g0 g1 g2 g3 g4 g5 g6 g7 g8 g9 g10 o0 o1 o2 y0 y1 y2 b0 b1 b2 x0 x1 x2
     have KG := M2.gr
     have KO := M2.ot
     have KB := M2.pt
     have g0 := (KG 0 _ rfl).1
     have g1 := (KG 1 _ rfl).1
     have g2 := (KG 2 _ rfl).1
     have g3 := (KG 3 _ rfl).1
     have g4 := (KG 4 _ rfl).1
     have g5 := (KG 5 _ rfl).1
     have g6 := (KG 6 _ rfl).1
     have g7 := (KG 7 _ rfl).1
     have g8 := (KG 8 _ rfl).1
     have g9 := (KG 9 _ rfl).1
     have g10 := (KG 10 _ rfl).1
     have o0 := (KO 0 _ rfl).1
     have o1 := (KO 1 _ rfl).1
     have o2 := (KO 2 _ rfl).1
     have y0 := (KO 0 _ rfl).2
     have y1 := (KO 1 _ rfl).2
     have y2 := (KO 2 _ rfl).2
     have b0 := (KB 0 _ rfl).1
     have b1 := (KB 1 _ rfl).1
     have b2 := (KB 2 _ rfl).1
     have x0 := (KB 0 _ rfl).2
     have x1 := (KB 1 _ rfl).2
     have x2 := (KB 2 _ rfl).2
     clear KG KO KB
     clear M2
     go_wp2
     go_roundw
     case rel => exact ⟨K + 1, c, d, by go_num, by omega, Hob.out, Hbb.out, Ha2.out, HM2.out.putB d⟩
     case measure => simp [intOf]; omega
    ·have hbt : (bits .and .i64 ((n : Int) / 2 ^ K) 1 == 1) = false := by rw [bit_test]; simpa using hodd
     have Ha2 : Hid (mulAcc P.toNat A (64 - (K + 1)) (n / 2 ^ (K + 1)) o (addF P.toNat A b b) = R) := by have := Hac.out; rwa [if_neg hodd] at this
     clear Hac hodd
     go_wp2_with fail
     refine (Hadd.out b b _ hb hb).mono ?_
     rintro e w4 ⟨rfl, hw4⟩
     generalize addF P.toNat A b b = d at *
     have M2 := HM.out.call hw4
     have HM2 := hide M2
     clear hw4 HM g0 g1 g2 g3 g4 g5 g6 g7 g8 g9 g10 o0 o1 o2 y0 y1 y2 b0 b1 b2 x0 x1 x2
     have KG := M2.gr
     have KO := M2.ot
     have KB := M2.pt
     have g0 := (KG 0 _ rfl).1
     have g1 := (KG 1 _ rfl).1
     have g2 := (KG 2 _ rfl).1
     have g3 := (KG 3 _ rfl).1
     have g4 := (KG 4 _ rfl).1
     have g5 := (KG 5 _ rfl).1
     have g6 := (KG 6 _ rfl).1
     have g7 := (KG 7 _ rfl).1
     have g8 := (KG 8 _ rfl).1
     have g9 := (KG 9 _ rfl).1
     have g10 := (KG 10 _ rfl).1
     have o0 := (KO 0 _ rfl).1
     have o1 := (KO 1 _ rfl).1
     have o2 := (KO 2 _ rfl).1
     have y0 := (KO 0 _ rfl).2
     have y1 := (KO 1 _ rfl).2
     have y2 := (KO 2 _ rfl).2
     have b0 := (KB 0 _ rfl).1
     have b1 := (KB 1 _ rfl).1
     have b2 := (KB 2 _ rfl).1
     have x0 := (KB 0 _ rfl).2
     have x1 := (KB 1 _ rfl).2
     have x2 := (KB 2 _ rfl).2
     clear KG KO KB
     clear M2
     go_wp2
     go_roundw
     case rel => exact ⟨K + 1, o, d, by go_num, by omega, ho, Hbb.out, Ha2.out, HM2.out.putB d⟩
     case measure => simp [intOf]; omega
end Go.Proofs.YtfhiiakoilkbkaaGreatDoor
