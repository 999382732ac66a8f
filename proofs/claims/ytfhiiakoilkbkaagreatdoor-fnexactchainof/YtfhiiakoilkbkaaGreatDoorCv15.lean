/- Walks: the group of a curve of the program (impl.Point): generated that panics, group, sum. -/
import Derived.Test.YtfhiiakoilkbkaaGreatDoorCv14
namespace Go.Proofs.YtfhiiakoilkbkaaGreatDoor
set_option linter.unusedVariables false
set_option linter.unusedSimpArgs false
open Go.RowKit
theorem unitPt (w : World) : Calls Tryz.prog 178 #[] w fun e w' => e = .returned (.agg #[.int .i64 0, .int .i64 0, .bool true]) ∧ Ext w w' := farPoint_any w
theorem numPt_yes {P A B N : Int} (gx gy : Int) (h : CvNum P A B N) (w : World) : Calls Tryz.prog 177 #[.agg #[.int .i64 P, .int .i64 A, .int .i64 B, .int .i64 N, .int .i64 gx, .int .i64 gy]] w fun r w' => r = .returned (.bool true) ∧ Ext w w' :=
 (numbersOk_any P A B N gx gy w (by have := h.pM; omega) (by have := h.nM; omega)).mono fun r w' k => by
  obtain ⟨⟨ok, rfl, k1⟩, k2⟩ := k
  exact ⟨by rw [k1.2 h], k2⟩
theorem numPt_no {P A B N : Int} (gx gy : Int) (hP1 : P ≤ 9223372036854775807) (hN1 : N ≤ 9223372036854775807) (h : ¬ CvNum P A B N) (w : World) : Calls Tryz.prog 177 #[.agg #[.int .i64 P, .int .i64 A, .int .i64 B, .int .i64 N, .int .i64 gx, .int .i64 gy]] w fun r w' => r = .returned (.bool false) ∧ Ext w w' :=
 (numbersOk_any P A B N gx gy w hP1 hN1).mono fun r w' k => by
  obtain ⟨⟨ok, rfl, k1⟩, k2⟩ := k
  cases ok
  ·exact ⟨rfl, k2⟩
  ·exact absurd (k1.1 rfl) h
set_option maxHeartbeats 1600000 in
set_option maxRecDepth 100000 in
theorem genPt_off {P A B N : Int} (gx gy : Int) (h : CvNum P A B N) (m : Nat) (m1 : m ≤ 1099511627776) (hb : ¬ On P.toNat A B ⟨gx, gy, false⟩) (w : World) :
  Calls Tryz.prog 184 #[.agg #[.int .i64 0, .int .i64 0, .bool true, .int .i64 gx, .int .i64 gy, .bool false, .func (.func 179) #[.agg #[.int .i64 P, .int .i64 A, .int .i64 B, .int .i64 N, .int .i64 gx, .int .i64 gy]] #[], .func (.func 180) #[.agg #[.int .i64 P, .int .i64 A, .int .i64 B, .int .i64 N, .int .i64 gx, .int .i64 gy]] #[], .func (.func 181) #[.agg #[.int .i64 P, .int .i64 A, .int .i64 B, .int .i64 N, .int .i64 gx, .int .i64 gy]] #[], .func (.func 182) #[.agg #[.int .i64 P, .int .i64 A, .int .i64 B, .int .i64 N, .int .i64 gx, .int .i64 gy]] #[], .func (.func 183) #[] #[]], .int .i64 m] w fun e w' => e = .panicked [nrE] ∧ Ext w w' := by
 have HF : Hid (∀ w : World, Calls Tryz.prog 162 #[.agg #[.int .i64 0, .int .i64 0, .bool true, .int .i64 gx, .int .i64 gy, .bool false, .func (.func 179) #[.agg #[.int .i64 P, .int .i64 A, .int .i64 B, .int .i64 N, .int .i64 gx, .int .i64 gy]] #[], .func (.func 180) #[.agg #[.int .i64 P, .int .i64 A, .int .i64 B, .int .i64 N, .int .i64 gx, .int .i64 gy]] #[], .func (.func 181) #[.agg #[.int .i64 P, .int .i64 A, .int .i64 B, .int .i64 N, .int .i64 gx, .int .i64 gy]] #[], .func (.func 182) #[.agg #[.int .i64 P, .int .i64 A, .int .i64 B, .int .i64 N, .int .i64 gx, .int .i64 gy]] #[], .func (.func 183) #[] #[]], .int .i64 m, .agg #[.int .i64 gx, .int .i64 gy, .bool false]] w fun e w' => e = .panicked [nrE] ∧ Ext w w') := fun w => foldPt_no gx gy h (a := ⟨gx, gy, false⟩) m (fun k => hb k.2.2) w
 have u1 := sepPt gx gy
 clear h hb
 go_enter Tryz.func184, Tryz.ntmps184
 go_wp2
 obtain ⟨V, hV⟩ : ∃ V, (w.alloc (.cells #[.int .i64 0, .int .i64 0, .bool true, .int .i64 gx, .int .i64 gy, .bool false, .func (.func 179) #[.agg #[.int .i64 P, .int .i64 A, .int .i64 B, .int .i64 N, .int .i64 gx, .int .i64 gy]] #[], .func (.func 180) #[.agg #[.int .i64 P, .int .i64 A, .int .i64 B, .int .i64 N, .int .i64 gx, .int .i64 gy]] #[], .func (.func 181) #[.agg #[.int .i64 P, .int .i64 A, .int .i64 B, .int .i64 N, .int .i64 gx, .int .i64 gy]] #[], .func (.func 182) #[.agg #[.int .i64 P, .int .i64 A, .int .i64 B, .int .i64 N, .int .i64 gx, .int .i64 gy]] #[], .func (.func 183) #[] #[]] 176)).alloc (.cells #[.int .i64 0, .int .i64 0, .bool false, .int .i64 0, .int .i64 0, .bool false, .nilFunc, .nilFunc, .nilFunc, .nilFunc, .nilFunc] 176) = V := ⟨_, rfl⟩
 obtain ⟨B1, B2, hE, hz⟩ := box2 w [.int .i64 0, .int .i64 0, .bool true, .int .i64 gx, .int .i64 gy, .bool false, .func (.func 179) #[.agg #[.int .i64 P, .int .i64 A, .int .i64 B, .int .i64 N, .int .i64 gx, .int .i64 gy]] #[], .func (.func 180) #[.agg #[.int .i64 P, .int .i64 A, .int .i64 B, .int .i64 N, .int .i64 gx, .int .i64 gy]] #[], .func (.func 181) #[.agg #[.int .i64 P, .int .i64 A, .int .i64 B, .int .i64 N, .int .i64 gx, .int .i64 gy]] #[], .func (.func 182) #[.agg #[.int .i64 P, .int .i64 A, .int .i64 B, .int .i64 N, .int .i64 gx, .int .i64 gy]] #[], .func (.func 183) #[] #[]] [.int .i64 0, .int .i64 0, .bool false, .int .i64 0, .int .i64 0, .bool false, .nilFunc, .nilFunc, .nilFunc, .nilFunc, .nilFunc] 176 176 (hV ▸ Ext.refl _ : Ext ((w.alloc (.cells #[.int .i64 0, .int .i64 0, .bool true, .int .i64 gx, .int .i64 gy, .bool false, .func (.func 179) #[.agg #[.int .i64 P, .int .i64 A, .int .i64 B, .int .i64 N, .int .i64 gx, .int .i64 gy]] #[], .func (.func 180) #[.agg #[.int .i64 P, .int .i64 A, .int .i64 B, .int .i64 N, .int .i64 gx, .int .i64 gy]] #[], .func (.func 181) #[.agg #[.int .i64 P, .int .i64 A, .int .i64 B, .int .i64 N, .int .i64 gx, .int .i64 gy]] #[], .func (.func 182) #[.agg #[.int .i64 P, .int .i64 A, .int .i64 B, .int .i64 N, .int .i64 gx, .int .i64 gy]] #[], .func (.func 183) #[] #[]] 176)).alloc (.cells #[.int .i64 0, .int .i64 0, .bool false, .int .i64 0, .int .i64 0, .bool false, .nilFunc, .nilFunc, .nilFunc, .nilFunc, .nilFunc] 176)) V)
 simp only [hV]
 clear hV
 obtain ⟨X, hX⟩ : ∃ X : Nat → Prop, X = fun _ => False := ⟨_, rfl⟩
 have x0 : ∀ k, k < V.heap.size → ¬ X k := fun k h => by rw [hX]; exact fun e => e
 clear hX
 have g0 := cell_reC (B1 0 _ rfl).1 (x0 _ (by first | omega | (simp only; omega)))
 have g1 := cell_reC (B1 1 _ rfl).1 (x0 _ (by first | omega | (simp only; omega)))
 have g2 := cell_reC (B1 2 _ rfl).1 (x0 _ (by first | omega | (simp only; omega)))
 have g3 := cell_reC (B1 3 _ rfl).1 (x0 _ (by first | omega | (simp only; omega)))
 have g4 := cell_reC (B1 4 _ rfl).1 (x0 _ (by first | omega | (simp only; omega)))
 have g5 := cell_reC (B1 5 _ rfl).1 (x0 _ (by first | omega | (simp only; omega)))
 have g6 := cell_reC (B1 6 _ rfl).1 (x0 _ (by first | omega | (simp only; omega)))
 have g7 := cell_reC (B1 7 _ rfl).1 (x0 _ (by first | omega | (simp only; omega)))
 have g8 := cell_reC (B1 8 _ rfl).1 (x0 _ (by first | omega | (simp only; omega)))
 have g9 := cell_reC (B1 9 _ rfl).1 (x0 _ (by first | omega | (simp only; omega)))
 have g10 := cell_reC (B1 10 _ rfl).1 (x0 _ (by first | omega | (simp only; omega)))
 refine anyK_begin X 16 rfl (by kernel_rfl) ?_
 refine anyK_take 0 10 6 rfl (by decide) (by kernel_rfl) (fun _ _ d _ _ h => by cases d <;> exact h) ?_
 repeat (refine headC_step (fun K hK => ?_); go_simp; refine hK _ ?_; clear hK K)
 refine headC_nil ?_
 refine anyK_take 11 2 4 rfl (by decide) (by kernel_rfl) (fun _ _ d _ _ h => by cases d <;> exact h) ?_
 repeat (refine headC_step (fun K hK => ?_); go_simp; refine hK _ ?_; clear hK K)
 refine headC_nil ?_
 clear g0 g1 g2 g3 g4 g5 g6 g7 g8 g9 g10
 refine anyK_one 10 (by kernel_rfl) ?_
 refine stepK_run rfl ?_
 intro w2 h2 K hK
 go_simp
 refine (HF.out _).mono ?_
 rintro e w3 ⟨rfl, h3⟩
 exact ⟨rfl, rfl, (hE.trans h2).trans h3⟩
set_option maxHeartbeats 1600000 in
set_option maxRecDepth 100000 in
theorem genPt_other {P A B N : Int} (gx gy : Int) (h : CvNum P A B N) (m : Nat) (m1 : m ≤ 1099511627776) (hb : On P.toNat A B ⟨gx, gy, false⟩) (hR : mulF P.toNat A m ⟨gx, gy, false⟩ ≠ farP) (w : World) :
  Calls Tryz.prog 184 #[.agg #[.int .i64 0, .int .i64 0, .bool true, .int .i64 gx, .int .i64 gy, .bool false, .func (.func 179) #[.agg #[.int .i64 P, .int .i64 A, .int .i64 B, .int .i64 N, .int .i64 gx, .int .i64 gy]] #[], .func (.func 180) #[.agg #[.int .i64 P, .int .i64 A, .int .i64 B, .int .i64 N, .int .i64 gx, .int .i64 gy]] #[], .func (.func 181) #[.agg #[.int .i64 P, .int .i64 A, .int .i64 B, .int .i64 N, .int .i64 gx, .int .i64 gy]] #[], .func (.func 182) #[.agg #[.int .i64 P, .int .i64 A, .int .i64 B, .int .i64 N, .int .i64 gx, .int .i64 gy]] #[], .func (.func 183) #[] #[]], .int .i64 m] w fun e w' => e = .panicked [nrE] ∧ Ext w w' := by
 have HF : Hid (∀ w : World, Calls Tryz.prog 162 #[.agg #[.int .i64 0, .int .i64 0, .bool true, .int .i64 gx, .int .i64 gy, .bool false, .func (.func 179) #[.agg #[.int .i64 P, .int .i64 A, .int .i64 B, .int .i64 N, .int .i64 gx, .int .i64 gy]] #[], .func (.func 180) #[.agg #[.int .i64 P, .int .i64 A, .int .i64 B, .int .i64 N, .int .i64 gx, .int .i64 gy]] #[], .func (.func 181) #[.agg #[.int .i64 P, .int .i64 A, .int .i64 B, .int .i64 N, .int .i64 gx, .int .i64 gy]] #[], .func (.func 182) #[.agg #[.int .i64 P, .int .i64 A, .int .i64 B, .int .i64 N, .int .i64 gx, .int .i64 gy]] #[], .func (.func 183) #[] #[]], .int .i64 m, .agg #[.int .i64 gx, .int .i64 gy, .bool false]] w fun e w' => e = .returned (.agg #[.int .i64 (mulF P.toNat A m ⟨gx, gy, false⟩).x, .int .i64 (mulF P.toNat A m ⟨gx, gy, false⟩).y, .bool (mulF P.toNat A m ⟨gx, gy, false⟩).far]) ∧ Ext w w') := fun w => foldPt_yes gx gy h (a := ⟨gx, gy, false⟩) hb m m1 rfl w
 have u1 := sepPt gx gy
 have u2 := otherUnitPt hR
 clear h hb hR
 generalize mulF P.toNat A m ⟨gx, gy, false⟩ = R at *
 go_enter Tryz.func184, Tryz.ntmps184
 go_wp2
 obtain ⟨V, hV⟩ : ∃ V, (w.alloc (.cells #[.int .i64 0, .int .i64 0, .bool true, .int .i64 gx, .int .i64 gy, .bool false, .func (.func 179) #[.agg #[.int .i64 P, .int .i64 A, .int .i64 B, .int .i64 N, .int .i64 gx, .int .i64 gy]] #[], .func (.func 180) #[.agg #[.int .i64 P, .int .i64 A, .int .i64 B, .int .i64 N, .int .i64 gx, .int .i64 gy]] #[], .func (.func 181) #[.agg #[.int .i64 P, .int .i64 A, .int .i64 B, .int .i64 N, .int .i64 gx, .int .i64 gy]] #[], .func (.func 182) #[.agg #[.int .i64 P, .int .i64 A, .int .i64 B, .int .i64 N, .int .i64 gx, .int .i64 gy]] #[], .func (.func 183) #[] #[]] 176)).alloc (.cells #[.int .i64 0, .int .i64 0, .bool false, .int .i64 0, .int .i64 0, .bool false, .nilFunc, .nilFunc, .nilFunc, .nilFunc, .nilFunc] 176) = V := ⟨_, rfl⟩
 obtain ⟨B1, B2, hE, hz⟩ := box2 w [.int .i64 0, .int .i64 0, .bool true, .int .i64 gx, .int .i64 gy, .bool false, .func (.func 179) #[.agg #[.int .i64 P, .int .i64 A, .int .i64 B, .int .i64 N, .int .i64 gx, .int .i64 gy]] #[], .func (.func 180) #[.agg #[.int .i64 P, .int .i64 A, .int .i64 B, .int .i64 N, .int .i64 gx, .int .i64 gy]] #[], .func (.func 181) #[.agg #[.int .i64 P, .int .i64 A, .int .i64 B, .int .i64 N, .int .i64 gx, .int .i64 gy]] #[], .func (.func 182) #[.agg #[.int .i64 P, .int .i64 A, .int .i64 B, .int .i64 N, .int .i64 gx, .int .i64 gy]] #[], .func (.func 183) #[] #[]] [.int .i64 0, .int .i64 0, .bool false, .int .i64 0, .int .i64 0, .bool false, .nilFunc, .nilFunc, .nilFunc, .nilFunc, .nilFunc] 176 176 (hV ▸ Ext.refl _ : Ext ((w.alloc (.cells #[.int .i64 0, .int .i64 0, .bool true, .int .i64 gx, .int .i64 gy, .bool false, .func (.func 179) #[.agg #[.int .i64 P, .int .i64 A, .int .i64 B, .int .i64 N, .int .i64 gx, .int .i64 gy]] #[], .func (.func 180) #[.agg #[.int .i64 P, .int .i64 A, .int .i64 B, .int .i64 N, .int .i64 gx, .int .i64 gy]] #[], .func (.func 181) #[.agg #[.int .i64 P, .int .i64 A, .int .i64 B, .int .i64 N, .int .i64 gx, .int .i64 gy]] #[], .func (.func 182) #[.agg #[.int .i64 P, .int .i64 A, .int .i64 B, .int .i64 N, .int .i64 gx, .int .i64 gy]] #[], .func (.func 183) #[] #[]] 176)).alloc (.cells #[.int .i64 0, .int .i64 0, .bool false, .int .i64 0, .int .i64 0, .bool false, .nilFunc, .nilFunc, .nilFunc, .nilFunc, .nilFunc] 176)) V)
 simp only [hV]
 clear hV
 obtain ⟨X, hX⟩ : ∃ X : Nat → Prop, X = fun _ => False := ⟨_, rfl⟩
 have x0 : ∀ k, k < V.heap.size → ¬ X k := fun k h => by rw [hX]; exact fun e => e
 clear hX
 have g0 := cell_reC (B1 0 _ rfl).1 (x0 _ (by first | omega | (simp only; omega)))
 have g1 := cell_reC (B1 1 _ rfl).1 (x0 _ (by first | omega | (simp only; omega)))
 have g2 := cell_reC (B1 2 _ rfl).1 (x0 _ (by first | omega | (simp only; omega)))
 have g3 := cell_reC (B1 3 _ rfl).1 (x0 _ (by first | omega | (simp only; omega)))
 have g4 := cell_reC (B1 4 _ rfl).1 (x0 _ (by first | omega | (simp only; omega)))
 have g5 := cell_reC (B1 5 _ rfl).1 (x0 _ (by first | omega | (simp only; omega)))
 have g6 := cell_reC (B1 6 _ rfl).1 (x0 _ (by first | omega | (simp only; omega)))
 have g7 := cell_reC (B1 7 _ rfl).1 (x0 _ (by first | omega | (simp only; omega)))
 have g8 := cell_reC (B1 8 _ rfl).1 (x0 _ (by first | omega | (simp only; omega)))
 have g9 := cell_reC (B1 9 _ rfl).1 (x0 _ (by first | omega | (simp only; omega)))
 have g10 := cell_reC (B1 10 _ rfl).1 (x0 _ (by first | omega | (simp only; omega)))
 refine anyK_begin X 16 rfl (by kernel_rfl) ?_
 refine anyK_take 0 15 1 rfl (by decide) (by kernel_rfl) (fun _ _ d _ _ h => by cases d <;> exact h) ?_
 repeat (refine headC_step (fun K hK => ?_); go_simp; first | (refine hK _ ?_; clear hK K) | (apply Exists.intro; refine ⟨fun _ => ?_, hK _ ?_⟩; (exact Calls.re_of (HF.out _)); clear hK K))
 refine headC_nil ?_
 clear g0 g1 g2 g3 g4 g5 g6 g7 g8 g9 g10
 refine anyK_one 15 (by kernel_rfl) ?_
 refine stepK_run rfl ?_
 intro w2 h2 K hK
 go_simp
 refine (want_no _).mono ?_
 rintro e w3 ⟨rfl, rfl⟩
 exact ⟨rfl, rfl, hE.trans h2⟩
theorem genPt_no {P A B N : Int} (gx gy : Int) (h : CvNum P A B N) (m : Nat) (m1 : m ≤ 1099511627776) (hn : ¬ (On P.toNat A B ⟨gx, gy, false⟩ ∧ mulF P.toNat A m ⟨gx, gy, false⟩ = farP)) (w : World) :
  Calls Tryz.prog 184 #[.agg #[.int .i64 0, .int .i64 0, .bool true, .int .i64 gx, .int .i64 gy, .bool false, .func (.func 179) #[.agg #[.int .i64 P, .int .i64 A, .int .i64 B, .int .i64 N, .int .i64 gx, .int .i64 gy]] #[], .func (.func 180) #[.agg #[.int .i64 P, .int .i64 A, .int .i64 B, .int .i64 N, .int .i64 gx, .int .i64 gy]] #[], .func (.func 181) #[.agg #[.int .i64 P, .int .i64 A, .int .i64 B, .int .i64 N, .int .i64 gx, .int .i64 gy]] #[], .func (.func 182) #[.agg #[.int .i64 P, .int .i64 A, .int .i64 B, .int .i64 N, .int .i64 gx, .int .i64 gy]] #[], .func (.func 183) #[] #[]], .int .i64 m] w fun e w' => e = .panicked [nrE] ∧ Ext w w' := by
 by_cases hb : On P.toNat A B ⟨gx, gy, false⟩
 ·exact genPt_other gx gy h m m1 hb (fun e => hn ⟨hb, e⟩) w
 ·exact genPt_off gx gy h m m1 hb w
set_option maxHeartbeats 1600000 in
set_option maxRecDepth 100000 in
theorem groupPt_yes (P A B N gx gy : Int) (hk : CvOk P A B N gx gy) (w : World) :
  Calls Tryz.prog 161 #[.agg #[.int .i64 P, .int .i64 A, .int .i64 B, .int .i64 N, .int .i64 gx, .int .i64 gy]] w fun e w' => e = .returned (.agg #[.int .i64 0, .int .i64 0, .bool true, .int .i64 gx, .int .i64 gy, .bool false, .func (.func 179) #[.agg #[.int .i64 P, .int .i64 A, .int .i64 B, .int .i64 N, .int .i64 gx, .int .i64 gy]] #[], .func (.func 180) #[.agg #[.int .i64 P, .int .i64 A, .int .i64 B, .int .i64 N, .int .i64 gx, .int .i64 gy]] #[], .func (.func 181) #[.agg #[.int .i64 P, .int .i64 A, .int .i64 B, .int .i64 N, .int .i64 gx, .int .i64 gy]] #[], .func (.func 182) #[.agg #[.int .i64 P, .int .i64 A, .int .i64 B, .int .i64 N, .int .i64 gx, .int .i64 gy]] #[], .func (.func 183) #[] #[]]) ∧ Ext w w' := by
 have hmf : ∀ (fn : Fn) (first cap : Array Value) (w : World), (Instr.makeFunc fn first cap).run Tryz.prog w = .ok (.func fn first cap) w := fun _ _ _ _ => rfl
 have HN := hide (numPt_yes gx gy (CvOk.num hk))
 have HG : Hid (∀ w : World, Calls Tryz.prog 184 #[.agg #[.int .i64 0, .int .i64 0, .bool true, .int .i64 gx, .int .i64 gy, .bool false, .func (.func 179) #[.agg #[.int .i64 P, .int .i64 A, .int .i64 B, .int .i64 N, .int .i64 gx, .int .i64 gy]] #[], .func (.func 180) #[.agg #[.int .i64 P, .int .i64 A, .int .i64 B, .int .i64 N, .int .i64 gx, .int .i64 gy]] #[], .func (.func 181) #[.agg #[.int .i64 P, .int .i64 A, .int .i64 B, .int .i64 N, .int .i64 gx, .int .i64 gy]] #[], .func (.func 182) #[.agg #[.int .i64 P, .int .i64 A, .int .i64 B, .int .i64 N, .int .i64 gx, .int .i64 gy]] #[], .func (.func 183) #[] #[]], .int .i64 N] w fun e w' => e = .returned (.agg #[.int .i64 0, .int .i64 0, .bool true, .int .i64 gx, .int .i64 gy, .bool false, .func (.func 179) #[.agg #[.int .i64 P, .int .i64 A, .int .i64 B, .int .i64 N, .int .i64 gx, .int .i64 gy]] #[], .func (.func 180) #[.agg #[.int .i64 P, .int .i64 A, .int .i64 B, .int .i64 N, .int .i64 gx, .int .i64 gy]] #[], .func (.func 181) #[.agg #[.int .i64 P, .int .i64 A, .int .i64 B, .int .i64 N, .int .i64 gx, .int .i64 gy]] #[], .func (.func 182) #[.agg #[.int .i64 P, .int .i64 A, .int .i64 B, .int .i64 N, .int .i64 gx, .int .i64 gy]] #[], .func (.func 183) #[] #[]]) ∧ Ext w w') := fun w => by
  have h := CvOk.num hk
  have h5 := h.n5; have hM := h.nM
  have := genPt_yes gx gy h N.toNat (by omega) (CvOk.parts hk) w
  rwa [show ((N.toNat : Nat) : Int) = N by omega] at this
 clear hk
 go_enter Tryz.func161, Tryz.ntmps161
 go_wp2_with fail
 refine (HN.out _).mono ?_
 rintro r w1 ⟨rfl, hw1⟩
 obtain ⟨B1, B2, hE, hz⟩ := box2 w [.int .i64 P, .int .i64 A, .int .i64 B, .int .i64 N, .int .i64 gx, .int .i64 gy] [.int .i64 0, .int .i64 0, .bool false, .int .i64 0, .int .i64 0, .bool false, .nilFunc, .nilFunc, .nilFunc, .nilFunc, .nilFunc] 46 176 hw1
 clear hw1
 go_wp2_with fail
 refine (want_yes _).mono ?_
 rintro r w' ⟨rfl, rfl⟩
 go_wp2
 obtain ⟨X, hX⟩ : ∃ X : Nat → Prop, X = fun k => w'.heap.size ≤ k := ⟨_, rfl⟩
 have x0 : ∀ k, k < w'.heap.size → ¬ X k := fun k h => by rw [hX]; simp; omega
 have x1 : ∀ k, w'.heap.size ≤ k → X k := fun k h => by rw [hX]; exact h
 clear hX
 have k0 := cell_reC (B1 0 _ rfl).1 (x0 _ (by first | omega | (simp only; omega)))
 have k1 := cell_reC (B1 1 _ rfl).1 (x0 _ (by first | omega | (simp only; omega)))
 have k2 := cell_reC (B1 2 _ rfl).1 (x0 _ (by first | omega | (simp only; omega)))
 have k3 := cell_reC (B1 3 _ rfl).1 (x0 _ (by first | omega | (simp only; omega)))
 have k4 := cell_reC (B1 4 _ rfl).1 (x0 _ (by first | omega | (simp only; omega)))
 have k5 := cell_reC (B1 5 _ rfl).1 (x0 _ (by first | omega | (simp only; omega)))
 refine anyK_begin X 17 rfl (by kernel_rfl) ?_
 refine anyK_take 0 15 2 rfl (by decide) (by kernel_rfl) (fun _ _ d _ _ h => by cases d <;> exact h) ?_
 repeat (refine headC_step (fun K hK => ?_); go_simp; first | (refine hK _ ?_; clear hK K) | (apply Exists.intro; refine ⟨fun _ => ?_, hK _ ?_⟩; (exact Calls.re_of (unitPt _)); clear hK K))
 refine headC_nil ?_
 clear k0 k1 k2 k3 k4 k5
 refine anyK_one 15 (by kernel_rfl) ?_
 refine stepK_run rfl ?_
 intro w2 h2 K hK
 go_simp
 refine hK _ _ (.of_ext (h2.trans (Ext.alloc _ _))) ?_
 clear hK K
 refine anyK_one 16 (by kernel_rfl) ?_
 refine stepK_run rfl ?_
 intro w3 h3 K hK
 obtain ⟨BS, h23, sS⟩ := box1 w2 [.int .i64 0, .int .i64 0, .bool false, .int .i64 0, .int .i64 0, .bool false, .nilFunc, .nilFunc, .nilFunc, .nilFunc, .nilFunc] 176 h3
 have lS := Below.size h2
 have hV3 := h2.trans h23
 clear h2 h3 h23
 generalize w2.heap.size = S at *
 have s0 := (BS 0 _ rfl).1
 have s1 := (BS 1 _ rfl).1
 have s2 := (BS 2 _ rfl).1
 have s3 := (BS 3 _ rfl).1
 have s4 := (BS 4 _ rfl).1
 have s5 := (BS 5 _ rfl).1
 have s6 := (BS 6 _ rfl).1
 have s7 := (BS 7 _ rfl).1
 have s8 := (BS 8 _ rfl).1
 have s9 := (BS 9 _ rfl).1
 have s10 := (BS 10 _ rfl).1
 have y0 := (BS 0 _ rfl).2
 have y1 := (BS 1 _ rfl).2
 have y2 := (BS 2 _ rfl).2
 have y3 := (BS 3 _ rfl).2
 have y4 := (BS 4 _ rfl).2
 have y5 := (BS 5 _ rfl).2
 have y6 := (BS 6 _ rfl).2
 have y7 := (BS 7 _ rfl).2
 have y8 := (BS 8 _ rfl).2
 have y9 := (BS 9 _ rfl).2
 have y10 := (BS 10 _ rfl).2
 go_simp
 refine hK _ _ (show Grw X w' (putL S 0 [.int .i64 0, .int .i64 0, .bool true, .int .i64 gx, .int .i64 gy, .bool false, .func (.func 179) #[.agg #[.int .i64 P, .int .i64 A, .int .i64 B, .int .i64 N, .int .i64 gx, .int .i64 gy]] #[], .func (.func 180) #[.agg #[.int .i64 P, .int .i64 A, .int .i64 B, .int .i64 N, .int .i64 gx, .int .i64 gy]] #[], .func (.func 181) #[.agg #[.int .i64 P, .int .i64 A, .int .i64 B, .int .i64 N, .int .i64 gx, .int .i64 gy]] #[], .func (.func 182) #[.agg #[.int .i64 P, .int .i64 A, .int .i64 B, .int .i64 N, .int .i64 gx, .int .i64 gy]] #[], .func (.func 183) #[] #[]] w3) from Grw.putL (x1 _ lS) _ _ _ (.of_ext hV3)) ?_
 clear hK K s0 s1 s2 s3 s4 s5 s6 s7 s8 s9 s10 y0 y1 y2 y3 y4 y5 y6 y7 y8 y9 y10
 refine anyK_done (by kernel_rfl) ?_ 0
 intro w4 h4
 replace h4 : Ext (putL S 0 [.int .i64 0, .int .i64 0, .bool true, .int .i64 gx, .int .i64 gy, .bool false, .func (.func 179) #[.agg #[.int .i64 P, .int .i64 A, .int .i64 B, .int .i64 N, .int .i64 gx, .int .i64 gy]] #[], .func (.func 180) #[.agg #[.int .i64 P, .int .i64 A, .int .i64 B, .int .i64 N, .int .i64 gx, .int .i64 gy]] #[], .func (.func 181) #[.agg #[.int .i64 P, .int .i64 A, .int .i64 B, .int .i64 N, .int .i64 gx, .int .i64 gy]] #[], .func (.func 182) #[.agg #[.int .i64 P, .int .i64 A, .int .i64 B, .int .i64 N, .int .i64 gx, .int .i64 gy]] #[], .func (.func 183) #[] #[]] w3) w4 := h4
 have D1 := B1.ext ((hV3.putL lS [.int .i64 0, .int .i64 0, .bool true, .int .i64 gx, .int .i64 gy, .bool false, .func (.func 179) #[.agg #[.int .i64 P, .int .i64 A, .int .i64 B, .int .i64 N, .int .i64 gx, .int .i64 gy]] #[], .func (.func 180) #[.agg #[.int .i64 P, .int .i64 A, .int .i64 B, .int .i64 N, .int .i64 gx, .int .i64 gy]] #[], .func (.func 181) #[.agg #[.int .i64 P, .int .i64 A, .int .i64 B, .int .i64 N, .int .i64 gx, .int .i64 gy]] #[], .func (.func 182) #[.agg #[.int .i64 P, .int .i64 A, .int .i64 B, .int .i64 N, .int .i64 gx, .int .i64 gy]] #[], .func (.func 183) #[] #[]]).trans h4) (by omega)
 have D2 := B2.ext ((hV3.putL lS [.int .i64 0, .int .i64 0, .bool true, .int .i64 gx, .int .i64 gy, .bool false, .func (.func 179) #[.agg #[.int .i64 P, .int .i64 A, .int .i64 B, .int .i64 N, .int .i64 gx, .int .i64 gy]] #[], .func (.func 180) #[.agg #[.int .i64 P, .int .i64 A, .int .i64 B, .int .i64 N, .int .i64 gx, .int .i64 gy]] #[], .func (.func 181) #[.agg #[.int .i64 P, .int .i64 A, .int .i64 B, .int .i64 N, .int .i64 gx, .int .i64 gy]] #[], .func (.func 182) #[.agg #[.int .i64 P, .int .i64 A, .int .i64 B, .int .i64 N, .int .i64 gx, .int .i64 gy]] #[], .func (.func 183) #[] #[]]).trans h4) (by omega)
 have DG := (BS.put [.int .i64 0, .int .i64 0, .bool true, .int .i64 gx, .int .i64 gy, .bool false, .func (.func 179) #[.agg #[.int .i64 P, .int .i64 A, .int .i64 B, .int .i64 N, .int .i64 gx, .int .i64 gy]] #[], .func (.func 180) #[.agg #[.int .i64 P, .int .i64 A, .int .i64 B, .int .i64 N, .int .i64 gx, .int .i64 gy]] #[], .func (.func 181) #[.agg #[.int .i64 P, .int .i64 A, .int .i64 B, .int .i64 N, .int .i64 gx, .int .i64 gy]] #[], .func (.func 182) #[.agg #[.int .i64 P, .int .i64 A, .int .i64 B, .int .i64 N, .int .i64 gx, .int .i64 gy]] #[], .func (.func 183) #[] #[]] rfl).ext h4 (by rw [size_putL]; omega)
 have hE4 := hE.trans ((hV3.putL lS [.int .i64 0, .int .i64 0, .bool true, .int .i64 gx, .int .i64 gy, .bool false, .func (.func 179) #[.agg #[.int .i64 P, .int .i64 A, .int .i64 B, .int .i64 N, .int .i64 gx, .int .i64 gy]] #[], .func (.func 180) #[.agg #[.int .i64 P, .int .i64 A, .int .i64 B, .int .i64 N, .int .i64 gx, .int .i64 gy]] #[], .func (.func 181) #[.agg #[.int .i64 P, .int .i64 A, .int .i64 B, .int .i64 N, .int .i64 gx, .int .i64 gy]] #[], .func (.func 182) #[.agg #[.int .i64 P, .int .i64 A, .int .i64 B, .int .i64 N, .int .i64 gx, .int .i64 gy]] #[], .func (.func 183) #[] #[]]).trans h4)
 have hz4 : w.heap.size + 2 ≤ w4.heap.size := by have := Below.size h4; rw [size_putL] at this; omega
 clear B1 B2 BS hV3 h4 lS sS x0 x1 hE hz w2 w3
 have k0 := (D1 0 _ rfl).1
 have k1 := (D1 1 _ rfl).1
 have k2 := (D1 2 _ rfl).1
 have k3 := (D1 3 _ rfl).1
 have k4 := (D1 4 _ rfl).1
 have k5 := (D1 5 _ rfl).1
 have g0 := (DG 0 _ rfl).1
 have g1 := (DG 1 _ rfl).1
 have g2 := (DG 2 _ rfl).1
 have g3 := (DG 3 _ rfl).1
 have g4 := (DG 4 _ rfl).1
 have g5 := (DG 5 _ rfl).1
 have g6 := (DG 6 _ rfl).1
 have g7 := (DG 7 _ rfl).1
 have g8 := (DG 8 _ rfl).1
 have g9 := (DG 9 _ rfl).1
 have g10 := (DG 10 _ rfl).1
 clear D1 DG
 go_wp2_with fail
 refine (HG.out _).mono ?_
 rintro r w5 ⟨rfl, hw5⟩
 have C2 := D2.ext hw5 (by first | omega | (simp; omega))
 have hE1 := hE4.trans hw5
 clear D2 hw5
 have d0 := (C2 0 _ rfl).1
 have d1 := (C2 1 _ rfl).1
 have d2 := (C2 2 _ rfl).1
 have d3 := (C2 3 _ rfl).1
 have d4 := (C2 4 _ rfl).1
 have d5 := (C2 5 _ rfl).1
 have d6 := (C2 6 _ rfl).1
 have d7 := (C2 7 _ rfl).1
 have d8 := (C2 8 _ rfl).1
 have d9 := (C2 9 _ rfl).1
 have d10 := (C2 10 _ rfl).1
 have z0 := (C2 0 _ rfl).2
 have z1 := (C2 1 _ rfl).2
 have z2 := (C2 2 _ rfl).2
 have z3 := (C2 3 _ rfl).2
 have z4 := (C2 4 _ rfl).2
 have z5 := (C2 5 _ rfl).2
 have z6 := (C2 6 _ rfl).2
 have z7 := (C2 7 _ rfl).2
 have z8 := (C2 8 _ rfl).2
 have z9 := (C2 9 _ rfl).2
 have z10 := (C2 10 _ rfl).2
 go_wp2
 obtain ⟨W, hW⟩ : ∃ W, putL (w.heap.size + 1) 0 [.int .i64 0, .int .i64 0, .bool true, .int .i64 gx, .int .i64 gy, .bool false, .func (.func 179) #[.agg #[.int .i64 P, .int .i64 A, .int .i64 B, .int .i64 N, .int .i64 gx, .int .i64 gy]] #[], .func (.func 180) #[.agg #[.int .i64 P, .int .i64 A, .int .i64 B, .int .i64 N, .int .i64 gx, .int .i64 gy]] #[], .func (.func 181) #[.agg #[.int .i64 P, .int .i64 A, .int .i64 B, .int .i64 N, .int .i64 gx, .int .i64 gy]] #[], .func (.func 182) #[.agg #[.int .i64 P, .int .i64 A, .int .i64 B, .int .i64 N, .int .i64 gx, .int .i64 gy]] #[], .func (.func 183) #[] #[]] w5 = W := ⟨_, rfl⟩
 have BW := Blk.put C2 [.int .i64 0, .int .i64 0, .bool true, .int .i64 gx, .int .i64 gy, .bool false, .func (.func 179) #[.agg #[.int .i64 P, .int .i64 A, .int .i64 B, .int .i64 N, .int .i64 gx, .int .i64 gy]] #[], .func (.func 180) #[.agg #[.int .i64 P, .int .i64 A, .int .i64 B, .int .i64 N, .int .i64 gx, .int .i64 gy]] #[], .func (.func 181) #[.agg #[.int .i64 P, .int .i64 A, .int .i64 B, .int .i64 N, .int .i64 gx, .int .i64 gy]] #[], .func (.func 182) #[.agg #[.int .i64 P, .int .i64 A, .int .i64 B, .int .i64 N, .int .i64 gx, .int .i64 gy]] #[], .func (.func 183) #[] #[]] rfl
 rw [hW] at BW
 have hF : Ext w W := hW ▸ hE1.putL (by omega) _
 simp only [putL, Nat.zero_add, Nat.reduceAdd] at hW
 simp only [hW]
 have q0 := (BW 0 _ rfl).1
 have q1 := (BW 1 _ rfl).1
 have q2 := (BW 2 _ rfl).1
 have q3 := (BW 3 _ rfl).1
 have q4 := (BW 4 _ rfl).1
 have q5 := (BW 5 _ rfl).1
 have q6 := (BW 6 _ rfl).1
 have q7 := (BW 7 _ rfl).1
 have q8 := (BW 8 _ rfl).1
 have q9 := (BW 9 _ rfl).1
 have q10 := (BW 10 _ rfl).1
 refine bodyPost_ret (v := .agg #[.int .i64 0, .int .i64 0, .bool true, .int .i64 gx, .int .i64 gy, .bool false, .func (.func 179) #[.agg #[.int .i64 P, .int .i64 A, .int .i64 B, .int .i64 N, .int .i64 gx, .int .i64 gy]] #[], .func (.func 180) #[.agg #[.int .i64 P, .int .i64 A, .int .i64 B, .int .i64 N, .int .i64 gx, .int .i64 gy]] #[], .func (.func 181) #[.agg #[.int .i64 P, .int .i64 A, .int .i64 B, .int .i64 N, .int .i64 gx, .int .i64 gy]] #[], .func (.func 182) #[.agg #[.int .i64 P, .int .i64 A, .int .i64 B, .int .i64 N, .int .i64 gx, .int .i64 gy]] #[], .func (.func 183) #[] #[]]) (by simp [results, Tryz.results161, go_sem, q0, q1, q2, q3, q4, q5, q6, q7, q8, q9, q10]) rfl ⟨rfl, hF⟩
set_option maxHeartbeats 1600000 in
set_option maxRecDepth 100000 in
theorem groupPt_no (P A B N gx gy : Int) (hP1 : P ≤ 9223372036854775807) (hN1 : N ≤ 9223372036854775807) (hk : ¬ CvOk P A B N gx gy) (w : World) :
  Calls Tryz.prog 161 #[.agg #[.int .i64 P, .int .i64 A, .int .i64 B, .int .i64 N, .int .i64 gx, .int .i64 gy]] w fun e w' => e = .panicked [nrE] ∧ Ext w w' := by
 have hmf : ∀ (fn : Fn) (first cap : Array Value) (w : World), (Instr.makeFunc fn first cap).run Tryz.prog w = .ok (.func fn first cap) w := fun _ _ _ _ => rfl
 by_cases h : CvNum P A B N
 rotate_left
 ·have HN := hide (numPt_no gx gy hP1 hN1 h)
  clear hk h
  go_enter Tryz.func161, Tryz.ntmps161
  go_wp2_with fail
  refine (HN.out _).mono ?_
  rintro r w1 ⟨rfl, hw1⟩
  obtain ⟨B1, B2, hE, hz⟩ := box2 w [.int .i64 P, .int .i64 A, .int .i64 B, .int .i64 N, .int .i64 gx, .int .i64 gy] [.int .i64 0, .int .i64 0, .bool false, .int .i64 0, .int .i64 0, .bool false, .nilFunc, .nilFunc, .nilFunc, .nilFunc, .nilFunc] 46 176 hw1
  clear hw1
  go_wp2_with fail
  refine (want_no _).mono ?_
  rintro r w' ⟨rfl, rfl⟩
  exact ⟨rfl, rfl, hE⟩
 have HN := hide (numPt_yes gx gy h)
 have HG : Hid (∀ w : World, Calls Tryz.prog 184 #[.agg #[.int .i64 0, .int .i64 0, .bool true, .int .i64 gx, .int .i64 gy, .bool false, .func (.func 179) #[.agg #[.int .i64 P, .int .i64 A, .int .i64 B, .int .i64 N, .int .i64 gx, .int .i64 gy]] #[], .func (.func 180) #[.agg #[.int .i64 P, .int .i64 A, .int .i64 B, .int .i64 N, .int .i64 gx, .int .i64 gy]] #[], .func (.func 181) #[.agg #[.int .i64 P, .int .i64 A, .int .i64 B, .int .i64 N, .int .i64 gx, .int .i64 gy]] #[], .func (.func 182) #[.agg #[.int .i64 P, .int .i64 A, .int .i64 B, .int .i64 N, .int .i64 gx, .int .i64 gy]] #[], .func (.func 183) #[] #[]], .int .i64 N] w fun e w' => e = .panicked [nrE] ∧ Ext w w') := fun w => by
  have h5 := h.n5; have hM := h.nM
  have := genPt_no gx gy h N.toNat (by omega) (fun k => hk (CvOk.of_parts h k)) w
  rwa [show ((N.toNat : Nat) : Int) = N by omega] at this
 clear hk h
 go_enter Tryz.func161, Tryz.ntmps161
 go_wp2_with fail
 refine (HN.out _).mono ?_
 rintro r w1 ⟨rfl, hw1⟩
 obtain ⟨B1, B2, hE, hz⟩ := box2 w [.int .i64 P, .int .i64 A, .int .i64 B, .int .i64 N, .int .i64 gx, .int .i64 gy] [.int .i64 0, .int .i64 0, .bool false, .int .i64 0, .int .i64 0, .bool false, .nilFunc, .nilFunc, .nilFunc, .nilFunc, .nilFunc] 46 176 hw1
 clear hw1
 go_wp2_with fail
 refine (want_yes _).mono ?_
 rintro r w' ⟨rfl, rfl⟩
 go_wp2
 obtain ⟨X, hX⟩ : ∃ X : Nat → Prop, X = fun k => w'.heap.size ≤ k := ⟨_, rfl⟩
 have x0 : ∀ k, k < w'.heap.size → ¬ X k := fun k h => by rw [hX]; simp; omega
 have x1 : ∀ k, w'.heap.size ≤ k → X k := fun k h => by rw [hX]; exact h
 clear hX
 have k0 := cell_reC (B1 0 _ rfl).1 (x0 _ (by first | omega | (simp only; omega)))
 have k1 := cell_reC (B1 1 _ rfl).1 (x0 _ (by first | omega | (simp only; omega)))
 have k2 := cell_reC (B1 2 _ rfl).1 (x0 _ (by first | omega | (simp only; omega)))
 have k3 := cell_reC (B1 3 _ rfl).1 (x0 _ (by first | omega | (simp only; omega)))
 have k4 := cell_reC (B1 4 _ rfl).1 (x0 _ (by first | omega | (simp only; omega)))
 have k5 := cell_reC (B1 5 _ rfl).1 (x0 _ (by first | omega | (simp only; omega)))
 refine anyK_begin X 17 rfl (by kernel_rfl) ?_
 refine anyK_take 0 15 2 rfl (by decide) (by kernel_rfl) (fun _ _ d _ _ h => by cases d <;> exact h) ?_
 repeat (refine headC_step (fun K hK => ?_); go_simp; first | (refine hK _ ?_; clear hK K) | (apply Exists.intro; refine ⟨fun _ => ?_, hK _ ?_⟩; (exact Calls.re_of (unitPt _)); clear hK K))
 refine headC_nil ?_
 clear k0 k1 k2 k3 k4 k5
 refine anyK_one 15 (by kernel_rfl) ?_
 refine stepK_run rfl ?_
 intro w2 h2 K hK
 go_simp
 refine hK _ _ (.of_ext (h2.trans (Ext.alloc _ _))) ?_
 clear hK K
 refine anyK_one 16 (by kernel_rfl) ?_
 refine stepK_run rfl ?_
 intro w3 h3 K hK
 obtain ⟨BS, h23, sS⟩ := box1 w2 [.int .i64 0, .int .i64 0, .bool false, .int .i64 0, .int .i64 0, .bool false, .nilFunc, .nilFunc, .nilFunc, .nilFunc, .nilFunc] 176 h3
 have lS := Below.size h2
 have hV3 := h2.trans h23
 clear h2 h3 h23
 generalize w2.heap.size = S at *
 have s0 := (BS 0 _ rfl).1
 have s1 := (BS 1 _ rfl).1
 have s2 := (BS 2 _ rfl).1
 have s3 := (BS 3 _ rfl).1
 have s4 := (BS 4 _ rfl).1
 have s5 := (BS 5 _ rfl).1
 have s6 := (BS 6 _ rfl).1
 have s7 := (BS 7 _ rfl).1
 have s8 := (BS 8 _ rfl).1
 have s9 := (BS 9 _ rfl).1
 have s10 := (BS 10 _ rfl).1
 have y0 := (BS 0 _ rfl).2
 have y1 := (BS 1 _ rfl).2
 have y2 := (BS 2 _ rfl).2
 have y3 := (BS 3 _ rfl).2
 have y4 := (BS 4 _ rfl).2
 have y5 := (BS 5 _ rfl).2
 have y6 := (BS 6 _ rfl).2
 have y7 := (BS 7 _ rfl).2
 have y8 := (BS 8 _ rfl).2
 have y9 := (BS 9 _ rfl).2
 have y10 := (BS 10 _ rfl).2
 go_simp
 refine hK _ _ (show Grw X w' (putL S 0 [.int .i64 0, .int .i64 0, .bool true, .int .i64 gx, .int .i64 gy, .bool false, .func (.func 179) #[.agg #[.int .i64 P, .int .i64 A, .int .i64 B, .int .i64 N, .int .i64 gx, .int .i64 gy]] #[], .func (.func 180) #[.agg #[.int .i64 P, .int .i64 A, .int .i64 B, .int .i64 N, .int .i64 gx, .int .i64 gy]] #[], .func (.func 181) #[.agg #[.int .i64 P, .int .i64 A, .int .i64 B, .int .i64 N, .int .i64 gx, .int .i64 gy]] #[], .func (.func 182) #[.agg #[.int .i64 P, .int .i64 A, .int .i64 B, .int .i64 N, .int .i64 gx, .int .i64 gy]] #[], .func (.func 183) #[] #[]] w3) from Grw.putL (x1 _ lS) _ _ _ (.of_ext hV3)) ?_
 clear hK K s0 s1 s2 s3 s4 s5 s6 s7 s8 s9 s10 y0 y1 y2 y3 y4 y5 y6 y7 y8 y9 y10
 refine anyK_done (by kernel_rfl) ?_ 0
 intro w4 h4
 replace h4 : Ext (putL S 0 [.int .i64 0, .int .i64 0, .bool true, .int .i64 gx, .int .i64 gy, .bool false, .func (.func 179) #[.agg #[.int .i64 P, .int .i64 A, .int .i64 B, .int .i64 N, .int .i64 gx, .int .i64 gy]] #[], .func (.func 180) #[.agg #[.int .i64 P, .int .i64 A, .int .i64 B, .int .i64 N, .int .i64 gx, .int .i64 gy]] #[], .func (.func 181) #[.agg #[.int .i64 P, .int .i64 A, .int .i64 B, .int .i64 N, .int .i64 gx, .int .i64 gy]] #[], .func (.func 182) #[.agg #[.int .i64 P, .int .i64 A, .int .i64 B, .int .i64 N, .int .i64 gx, .int .i64 gy]] #[], .func (.func 183) #[] #[]] w3) w4 := h4
 have D1 := B1.ext ((hV3.putL lS [.int .i64 0, .int .i64 0, .bool true, .int .i64 gx, .int .i64 gy, .bool false, .func (.func 179) #[.agg #[.int .i64 P, .int .i64 A, .int .i64 B, .int .i64 N, .int .i64 gx, .int .i64 gy]] #[], .func (.func 180) #[.agg #[.int .i64 P, .int .i64 A, .int .i64 B, .int .i64 N, .int .i64 gx, .int .i64 gy]] #[], .func (.func 181) #[.agg #[.int .i64 P, .int .i64 A, .int .i64 B, .int .i64 N, .int .i64 gx, .int .i64 gy]] #[], .func (.func 182) #[.agg #[.int .i64 P, .int .i64 A, .int .i64 B, .int .i64 N, .int .i64 gx, .int .i64 gy]] #[], .func (.func 183) #[] #[]]).trans h4) (by omega)
 have D2 := B2.ext ((hV3.putL lS [.int .i64 0, .int .i64 0, .bool true, .int .i64 gx, .int .i64 gy, .bool false, .func (.func 179) #[.agg #[.int .i64 P, .int .i64 A, .int .i64 B, .int .i64 N, .int .i64 gx, .int .i64 gy]] #[], .func (.func 180) #[.agg #[.int .i64 P, .int .i64 A, .int .i64 B, .int .i64 N, .int .i64 gx, .int .i64 gy]] #[], .func (.func 181) #[.agg #[.int .i64 P, .int .i64 A, .int .i64 B, .int .i64 N, .int .i64 gx, .int .i64 gy]] #[], .func (.func 182) #[.agg #[.int .i64 P, .int .i64 A, .int .i64 B, .int .i64 N, .int .i64 gx, .int .i64 gy]] #[], .func (.func 183) #[] #[]]).trans h4) (by omega)
 have DG := (BS.put [.int .i64 0, .int .i64 0, .bool true, .int .i64 gx, .int .i64 gy, .bool false, .func (.func 179) #[.agg #[.int .i64 P, .int .i64 A, .int .i64 B, .int .i64 N, .int .i64 gx, .int .i64 gy]] #[], .func (.func 180) #[.agg #[.int .i64 P, .int .i64 A, .int .i64 B, .int .i64 N, .int .i64 gx, .int .i64 gy]] #[], .func (.func 181) #[.agg #[.int .i64 P, .int .i64 A, .int .i64 B, .int .i64 N, .int .i64 gx, .int .i64 gy]] #[], .func (.func 182) #[.agg #[.int .i64 P, .int .i64 A, .int .i64 B, .int .i64 N, .int .i64 gx, .int .i64 gy]] #[], .func (.func 183) #[] #[]] rfl).ext h4 (by rw [size_putL]; omega)
 have hE4 := hE.trans ((hV3.putL lS [.int .i64 0, .int .i64 0, .bool true, .int .i64 gx, .int .i64 gy, .bool false, .func (.func 179) #[.agg #[.int .i64 P, .int .i64 A, .int .i64 B, .int .i64 N, .int .i64 gx, .int .i64 gy]] #[], .func (.func 180) #[.agg #[.int .i64 P, .int .i64 A, .int .i64 B, .int .i64 N, .int .i64 gx, .int .i64 gy]] #[], .func (.func 181) #[.agg #[.int .i64 P, .int .i64 A, .int .i64 B, .int .i64 N, .int .i64 gx, .int .i64 gy]] #[], .func (.func 182) #[.agg #[.int .i64 P, .int .i64 A, .int .i64 B, .int .i64 N, .int .i64 gx, .int .i64 gy]] #[], .func (.func 183) #[] #[]]).trans h4)
 have hz4 : w.heap.size + 2 ≤ w4.heap.size := by have := Below.size h4; rw [size_putL] at this; omega
 clear B1 B2 BS hV3 h4 lS sS x0 x1 hE hz w2 w3
 have k0 := (D1 0 _ rfl).1
 have k1 := (D1 1 _ rfl).1
 have k2 := (D1 2 _ rfl).1
 have k3 := (D1 3 _ rfl).1
 have k4 := (D1 4 _ rfl).1
 have k5 := (D1 5 _ rfl).1
 have g0 := (DG 0 _ rfl).1
 have g1 := (DG 1 _ rfl).1
 have g2 := (DG 2 _ rfl).1
 have g3 := (DG 3 _ rfl).1
 have g4 := (DG 4 _ rfl).1
 have g5 := (DG 5 _ rfl).1
 have g6 := (DG 6 _ rfl).1
 have g7 := (DG 7 _ rfl).1
 have g8 := (DG 8 _ rfl).1
 have g9 := (DG 9 _ rfl).1
 have g10 := (DG 10 _ rfl).1
 clear D1 DG
 go_wp2_with fail
 refine (HG.out _).mono ?_
 rintro r w5 ⟨rfl, hw5⟩
 exact ⟨rfl, rfl, hE4.trans hw5⟩
end Go.Proofs.YtfhiiakoilkbkaaGreatDoor
