/- Walks: the group of a curve of the program (impl.Pair): generated that panics, group, sum. -/
import Derived.Test.YtfhiiakoilkbkaaGreatDoorCv25
namespace Go.Proofs.YtfhiiakoilkbkaaGreatDoor
set_option linter.unusedVariables false
set_option linter.unusedSimpArgs false
open Go.RowKit
set_option maxHeartbeats 1600000 in
set_option maxRecDepth 100000 in
theorem genPr_off {P D L : Int} (bx cy : Int) (h : EvNum P D L) (m : Nat) (m1 : m ≤ 1099511627776) (hb : ¬ OnE P.toNat D ⟨bx, cy⟩) (w : World) :
  Calls Tryz.prog 171 #[.agg #[.int .i64 0, .int .i64 1, .int .i64 bx, .int .i64 cy, .func (.func 166) #[.agg #[.int .i64 P, .int .i64 D, .int .i64 L, .int .i64 bx, .int .i64 cy]] #[], .func (.func 167) #[.agg #[.int .i64 P, .int .i64 D, .int .i64 L, .int .i64 bx, .int .i64 cy]] #[], .func (.func 168) #[.agg #[.int .i64 P, .int .i64 D, .int .i64 L, .int .i64 bx, .int .i64 cy]] #[], .func (.func 169) #[.agg #[.int .i64 P, .int .i64 D, .int .i64 L, .int .i64 bx, .int .i64 cy]] #[], .func (.func 170) #[] #[]], .int .i64 m] w fun e w' => e = .panicked [nrE] ∧ Ext w w' := by
 have HF : Hid (∀ w : World, Calls Tryz.prog 194 #[.agg #[.int .i64 0, .int .i64 1, .int .i64 bx, .int .i64 cy, .func (.func 166) #[.agg #[.int .i64 P, .int .i64 D, .int .i64 L, .int .i64 bx, .int .i64 cy]] #[], .func (.func 167) #[.agg #[.int .i64 P, .int .i64 D, .int .i64 L, .int .i64 bx, .int .i64 cy]] #[], .func (.func 168) #[.agg #[.int .i64 P, .int .i64 D, .int .i64 L, .int .i64 bx, .int .i64 cy]] #[], .func (.func 169) #[.agg #[.int .i64 P, .int .i64 D, .int .i64 L, .int .i64 bx, .int .i64 cy]] #[], .func (.func 170) #[] #[]], .int .i64 m, .agg #[.int .i64 bx, .int .i64 cy]] w fun e w' => e = .panicked [nrE] ∧ Ext w w') := fun w => foldPr_no bx cy h (a := ⟨bx, cy⟩) m (fun k => hb k.2.2) w
 have u1 := sepPr (fun (e : bx = 0 ∧ cy = 1) => hb (by rw [e.1, e.2]; exact EvNum.unitPr_on h))
 clear h hb
 go_enter Tryz.func171, Tryz.ntmps171
 go_wp2
 obtain ⟨V, hV⟩ : ∃ V, (w.alloc (.cells #[.int .i64 0, .int .i64 1, .int .i64 bx, .int .i64 cy, .func (.func 166) #[.agg #[.int .i64 P, .int .i64 D, .int .i64 L, .int .i64 bx, .int .i64 cy]] #[], .func (.func 167) #[.agg #[.int .i64 P, .int .i64 D, .int .i64 L, .int .i64 bx, .int .i64 cy]] #[], .func (.func 168) #[.agg #[.int .i64 P, .int .i64 D, .int .i64 L, .int .i64 bx, .int .i64 cy]] #[], .func (.func 169) #[.agg #[.int .i64 P, .int .i64 D, .int .i64 L, .int .i64 bx, .int .i64 cy]] #[], .func (.func 170) #[] #[]] 158)).alloc (.cells #[.int .i64 0, .int .i64 0, .int .i64 0, .int .i64 0, .nilFunc, .nilFunc, .nilFunc, .nilFunc, .nilFunc] 158) = V := ⟨_, rfl⟩
 obtain ⟨B1, B2, hE, hz⟩ := box2 w [.int .i64 0, .int .i64 1, .int .i64 bx, .int .i64 cy, .func (.func 166) #[.agg #[.int .i64 P, .int .i64 D, .int .i64 L, .int .i64 bx, .int .i64 cy]] #[], .func (.func 167) #[.agg #[.int .i64 P, .int .i64 D, .int .i64 L, .int .i64 bx, .int .i64 cy]] #[], .func (.func 168) #[.agg #[.int .i64 P, .int .i64 D, .int .i64 L, .int .i64 bx, .int .i64 cy]] #[], .func (.func 169) #[.agg #[.int .i64 P, .int .i64 D, .int .i64 L, .int .i64 bx, .int .i64 cy]] #[], .func (.func 170) #[] #[]] [.int .i64 0, .int .i64 0, .int .i64 0, .int .i64 0, .nilFunc, .nilFunc, .nilFunc, .nilFunc, .nilFunc] 158 158 (hV ▸ Ext.refl _ : Ext ((w.alloc (.cells #[.int .i64 0, .int .i64 1, .int .i64 bx, .int .i64 cy, .func (.func 166) #[.agg #[.int .i64 P, .int .i64 D, .int .i64 L, .int .i64 bx, .int .i64 cy]] #[], .func (.func 167) #[.agg #[.int .i64 P, .int .i64 D, .int .i64 L, .int .i64 bx, .int .i64 cy]] #[], .func (.func 168) #[.agg #[.int .i64 P, .int .i64 D, .int .i64 L, .int .i64 bx, .int .i64 cy]] #[], .func (.func 169) #[.agg #[.int .i64 P, .int .i64 D, .int .i64 L, .int .i64 bx, .int .i64 cy]] #[], .func (.func 170) #[] #[]] 158)).alloc (.cells #[.int .i64 0, .int .i64 0, .int .i64 0, .int .i64 0, .nilFunc, .nilFunc, .nilFunc, .nilFunc, .nilFunc] 158)) V)
 simp only [hV]
 clear hV
 obtain ⟨X, hX⟩ : ∃ X : Nat → Prop, X = fun _ => False := ⟨_, rfl⟩
 have x0 : ∀ k, k < V.heap.size → ¬ X k := fun k h => by rw [hX]; exact fun e => e
 clear hX
 have g0 := cell_reC (B1 0 _ rfl).1 (x0 _ (by first | omega | (simp only; omega)))
 have g1 := cell_reC (B1 1 _ rfl).1 (x0 _ (by first | omega | (simp only; omega)))
 have g2 := cell_reC (B1 2 _ rfl).1 (x0 _ (by first | omega | (simp only; omega)))
 have g3 := cell_reC (B1 3 _ rfl).1 (x0 _ (by first | omega | (simp only; omega)))
 have g4 := cell_reC (B1 4 _ rfl).1 (x0 _ (by first | omega | (simp only; omega)))
 have g5 := cell_reC (B1 5 _ rfl).1 (x0 _ (by first | omega | (simp only; omega)))
 have g6 := cell_reC (B1 6 _ rfl).1 (x0 _ (by first | omega | (simp only; omega)))
 have g7 := cell_reC (B1 7 _ rfl).1 (x0 _ (by first | omega | (simp only; omega)))
 have g8 := cell_reC (B1 8 _ rfl).1 (x0 _ (by first | omega | (simp only; omega)))
 refine anyK_begin X 16 rfl (by kernel_rfl) ?_
 refine anyK_take 0 10 6 rfl (by decide) (by kernel_rfl) (fun _ _ d _ _ h => by cases d <;> exact h) ?_
 repeat (refine headC_step (fun K hK => ?_); go_simp; refine hK _ ?_; clear hK K)
 refine headC_nil ?_
 refine anyK_take 11 2 4 rfl (by decide) (by kernel_rfl) (fun _ _ d _ _ h => by cases d <;> exact h) ?_
 repeat (refine headC_step (fun K hK => ?_); go_simp; refine hK _ ?_; clear hK K)
 refine headC_nil ?_
 clear g0 g1 g2 g3 g4 g5 g6 g7 g8
 refine anyK_one 10 (by kernel_rfl) ?_
 refine stepK_run rfl ?_
 intro w2 h2 K hK
 go_simp
 refine (HF.out _).mono ?_
 rintro e w3 ⟨rfl, h3⟩
 exact ⟨rfl, rfl, (hE.trans h2).trans h3⟩
set_option maxHeartbeats 1600000 in
set_option maxRecDepth 100000 in
theorem genPr_other {P D L : Int} (bx cy : Int) (h : EvNum P D L) (m : Nat) (m1 : m ≤ 1099511627776) (hb : OnE P.toNat D ⟨bx, cy⟩) (hne : ¬ (bx = 0 ∧ cy = 1)) (hR : mulE P.toNat D m ⟨bx, cy⟩ ≠ oneE) (w : World) :
  Calls Tryz.prog 171 #[.agg #[.int .i64 0, .int .i64 1, .int .i64 bx, .int .i64 cy, .func (.func 166) #[.agg #[.int .i64 P, .int .i64 D, .int .i64 L, .int .i64 bx, .int .i64 cy]] #[], .func (.func 167) #[.agg #[.int .i64 P, .int .i64 D, .int .i64 L, .int .i64 bx, .int .i64 cy]] #[], .func (.func 168) #[.agg #[.int .i64 P, .int .i64 D, .int .i64 L, .int .i64 bx, .int .i64 cy]] #[], .func (.func 169) #[.agg #[.int .i64 P, .int .i64 D, .int .i64 L, .int .i64 bx, .int .i64 cy]] #[], .func (.func 170) #[] #[]], .int .i64 m] w fun e w' => e = .panicked [nrE] ∧ Ext w w' := by
 have HF : Hid (∀ w : World, Calls Tryz.prog 194 #[.agg #[.int .i64 0, .int .i64 1, .int .i64 bx, .int .i64 cy, .func (.func 166) #[.agg #[.int .i64 P, .int .i64 D, .int .i64 L, .int .i64 bx, .int .i64 cy]] #[], .func (.func 167) #[.agg #[.int .i64 P, .int .i64 D, .int .i64 L, .int .i64 bx, .int .i64 cy]] #[], .func (.func 168) #[.agg #[.int .i64 P, .int .i64 D, .int .i64 L, .int .i64 bx, .int .i64 cy]] #[], .func (.func 169) #[.agg #[.int .i64 P, .int .i64 D, .int .i64 L, .int .i64 bx, .int .i64 cy]] #[], .func (.func 170) #[] #[]], .int .i64 m, .agg #[.int .i64 bx, .int .i64 cy]] w fun e w' => e = .returned (.agg #[.int .i64 (mulE P.toNat D m ⟨bx, cy⟩).x, .int .i64 (mulE P.toNat D m ⟨bx, cy⟩).y]) ∧ Ext w w') := fun w => foldPr_yes bx cy h (a := ⟨bx, cy⟩) hb m m1 rfl w
 have u1 := sepPr hne
 have u2 := otherUnitPr hR
 clear h hb hR
 generalize mulE P.toNat D m ⟨bx, cy⟩ = R at *
 go_enter Tryz.func171, Tryz.ntmps171
 go_wp2
 obtain ⟨V, hV⟩ : ∃ V, (w.alloc (.cells #[.int .i64 0, .int .i64 1, .int .i64 bx, .int .i64 cy, .func (.func 166) #[.agg #[.int .i64 P, .int .i64 D, .int .i64 L, .int .i64 bx, .int .i64 cy]] #[], .func (.func 167) #[.agg #[.int .i64 P, .int .i64 D, .int .i64 L, .int .i64 bx, .int .i64 cy]] #[], .func (.func 168) #[.agg #[.int .i64 P, .int .i64 D, .int .i64 L, .int .i64 bx, .int .i64 cy]] #[], .func (.func 169) #[.agg #[.int .i64 P, .int .i64 D, .int .i64 L, .int .i64 bx, .int .i64 cy]] #[], .func (.func 170) #[] #[]] 158)).alloc (.cells #[.int .i64 0, .int .i64 0, .int .i64 0, .int .i64 0, .nilFunc, .nilFunc, .nilFunc, .nilFunc, .nilFunc] 158) = V := ⟨_, rfl⟩
 obtain ⟨B1, B2, hE, hz⟩ := box2 w [.int .i64 0, .int .i64 1, .int .i64 bx, .int .i64 cy, .func (.func 166) #[.agg #[.int .i64 P, .int .i64 D, .int .i64 L, .int .i64 bx, .int .i64 cy]] #[], .func (.func 167) #[.agg #[.int .i64 P, .int .i64 D, .int .i64 L, .int .i64 bx, .int .i64 cy]] #[], .func (.func 168) #[.agg #[.int .i64 P, .int .i64 D, .int .i64 L, .int .i64 bx, .int .i64 cy]] #[], .func (.func 169) #[.agg #[.int .i64 P, .int .i64 D, .int .i64 L, .int .i64 bx, .int .i64 cy]] #[], .func (.func 170) #[] #[]] [.int .i64 0, .int .i64 0, .int .i64 0, .int .i64 0, .nilFunc, .nilFunc, .nilFunc, .nilFunc, .nilFunc] 158 158 (hV ▸ Ext.refl _ : Ext ((w.alloc (.cells #[.int .i64 0, .int .i64 1, .int .i64 bx, .int .i64 cy, .func (.func 166) #[.agg #[.int .i64 P, .int .i64 D, .int .i64 L, .int .i64 bx, .int .i64 cy]] #[], .func (.func 167) #[.agg #[.int .i64 P, .int .i64 D, .int .i64 L, .int .i64 bx, .int .i64 cy]] #[], .func (.func 168) #[.agg #[.int .i64 P, .int .i64 D, .int .i64 L, .int .i64 bx, .int .i64 cy]] #[], .func (.func 169) #[.agg #[.int .i64 P, .int .i64 D, .int .i64 L, .int .i64 bx, .int .i64 cy]] #[], .func (.func 170) #[] #[]] 158)).alloc (.cells #[.int .i64 0, .int .i64 0, .int .i64 0, .int .i64 0, .nilFunc, .nilFunc, .nilFunc, .nilFunc, .nilFunc] 158)) V)
 simp only [hV]
 clear hV
 obtain ⟨X, hX⟩ : ∃ X : Nat → Prop, X = fun _ => False := ⟨_, rfl⟩
 have x0 : ∀ k, k < V.heap.size → ¬ X k := fun k h => by rw [hX]; exact fun e => e
 clear hX
 have g0 := cell_reC (B1 0 _ rfl).1 (x0 _ (by first | omega | (simp only; omega)))
 have g1 := cell_reC (B1 1 _ rfl).1 (x0 _ (by first | omega | (simp only; omega)))
 have g2 := cell_reC (B1 2 _ rfl).1 (x0 _ (by first | omega | (simp only; omega)))
 have g3 := cell_reC (B1 3 _ rfl).1 (x0 _ (by first | omega | (simp only; omega)))
 have g4 := cell_reC (B1 4 _ rfl).1 (x0 _ (by first | omega | (simp only; omega)))
 have g5 := cell_reC (B1 5 _ rfl).1 (x0 _ (by first | omega | (simp only; omega)))
 have g6 := cell_reC (B1 6 _ rfl).1 (x0 _ (by first | omega | (simp only; omega)))
 have g7 := cell_reC (B1 7 _ rfl).1 (x0 _ (by first | omega | (simp only; omega)))
 have g8 := cell_reC (B1 8 _ rfl).1 (x0 _ (by first | omega | (simp only; omega)))
 refine anyK_begin X 16 rfl (by kernel_rfl) ?_
 refine anyK_take 0 15 1 rfl (by decide) (by kernel_rfl) (fun _ _ d _ _ h => by cases d <;> exact h) ?_
 repeat (refine headC_step (fun K hK => ?_); go_simp; first | (refine hK _ ?_; clear hK K) | (apply Exists.intro; refine ⟨fun _ => ?_, hK _ ?_⟩; (exact Calls.re_of (HF.out _)); clear hK K))
 refine headC_nil ?_
 clear g0 g1 g2 g3 g4 g5 g6 g7 g8
 refine anyK_one 15 (by kernel_rfl) ?_
 refine stepK_run rfl ?_
 intro w2 h2 K hK
 go_simp
 refine (want_no _).mono ?_
 rintro e w3 ⟨rfl, rfl⟩
 exact ⟨rfl, rfl, hE.trans h2⟩
set_option maxHeartbeats 1600000 in
set_option maxRecDepth 100000 in
theorem genPr_unit {P D L : Int} (bx cy : Int) (h : EvNum P D L) (m : Nat) (m1 : m ≤ 1099511627776) (hne : bx = 0 ∧ cy = 1) (w : World) :
  Calls Tryz.prog 171 #[.agg #[.int .i64 0, .int .i64 1, .int .i64 bx, .int .i64 cy, .func (.func 166) #[.agg #[.int .i64 P, .int .i64 D, .int .i64 L, .int .i64 bx, .int .i64 cy]] #[], .func (.func 167) #[.agg #[.int .i64 P, .int .i64 D, .int .i64 L, .int .i64 bx, .int .i64 cy]] #[], .func (.func 168) #[.agg #[.int .i64 P, .int .i64 D, .int .i64 L, .int .i64 bx, .int .i64 cy]] #[], .func (.func 169) #[.agg #[.int .i64 P, .int .i64 D, .int .i64 L, .int .i64 bx, .int .i64 cy]] #[], .func (.func 170) #[] #[]], .int .i64 m] w fun e w' => e = .panicked [nrE] ∧ Ext w w' := by
 have u1 := samePr hne
 clear h hne
 go_enter Tryz.func171, Tryz.ntmps171
 go_wp2
 obtain ⟨V, hV⟩ : ∃ V, (w.alloc (.cells #[.int .i64 0, .int .i64 1, .int .i64 bx, .int .i64 cy, .func (.func 166) #[.agg #[.int .i64 P, .int .i64 D, .int .i64 L, .int .i64 bx, .int .i64 cy]] #[], .func (.func 167) #[.agg #[.int .i64 P, .int .i64 D, .int .i64 L, .int .i64 bx, .int .i64 cy]] #[], .func (.func 168) #[.agg #[.int .i64 P, .int .i64 D, .int .i64 L, .int .i64 bx, .int .i64 cy]] #[], .func (.func 169) #[.agg #[.int .i64 P, .int .i64 D, .int .i64 L, .int .i64 bx, .int .i64 cy]] #[], .func (.func 170) #[] #[]] 158)).alloc (.cells #[.int .i64 0, .int .i64 0, .int .i64 0, .int .i64 0, .nilFunc, .nilFunc, .nilFunc, .nilFunc, .nilFunc] 158) = V := ⟨_, rfl⟩
 obtain ⟨B1, B2, hE, hz⟩ := box2 w [.int .i64 0, .int .i64 1, .int .i64 bx, .int .i64 cy, .func (.func 166) #[.agg #[.int .i64 P, .int .i64 D, .int .i64 L, .int .i64 bx, .int .i64 cy]] #[], .func (.func 167) #[.agg #[.int .i64 P, .int .i64 D, .int .i64 L, .int .i64 bx, .int .i64 cy]] #[], .func (.func 168) #[.agg #[.int .i64 P, .int .i64 D, .int .i64 L, .int .i64 bx, .int .i64 cy]] #[], .func (.func 169) #[.agg #[.int .i64 P, .int .i64 D, .int .i64 L, .int .i64 bx, .int .i64 cy]] #[], .func (.func 170) #[] #[]] [.int .i64 0, .int .i64 0, .int .i64 0, .int .i64 0, .nilFunc, .nilFunc, .nilFunc, .nilFunc, .nilFunc] 158 158 (hV ▸ Ext.refl _ : Ext ((w.alloc (.cells #[.int .i64 0, .int .i64 1, .int .i64 bx, .int .i64 cy, .func (.func 166) #[.agg #[.int .i64 P, .int .i64 D, .int .i64 L, .int .i64 bx, .int .i64 cy]] #[], .func (.func 167) #[.agg #[.int .i64 P, .int .i64 D, .int .i64 L, .int .i64 bx, .int .i64 cy]] #[], .func (.func 168) #[.agg #[.int .i64 P, .int .i64 D, .int .i64 L, .int .i64 bx, .int .i64 cy]] #[], .func (.func 169) #[.agg #[.int .i64 P, .int .i64 D, .int .i64 L, .int .i64 bx, .int .i64 cy]] #[], .func (.func 170) #[] #[]] 158)).alloc (.cells #[.int .i64 0, .int .i64 0, .int .i64 0, .int .i64 0, .nilFunc, .nilFunc, .nilFunc, .nilFunc, .nilFunc] 158)) V)
 simp only [hV]
 clear hV
 obtain ⟨X, hX⟩ : ∃ X : Nat → Prop, X = fun _ => False := ⟨_, rfl⟩
 have x0 : ∀ k, k < V.heap.size → ¬ X k := fun k h => by rw [hX]; exact fun e => e
 clear hX
 have g0 := cell_reC (B1 0 _ rfl).1 (x0 _ (by first | omega | (simp only; omega)))
 have g1 := cell_reC (B1 1 _ rfl).1 (x0 _ (by first | omega | (simp only; omega)))
 have g2 := cell_reC (B1 2 _ rfl).1 (x0 _ (by first | omega | (simp only; omega)))
 have g3 := cell_reC (B1 3 _ rfl).1 (x0 _ (by first | omega | (simp only; omega)))
 have g4 := cell_reC (B1 4 _ rfl).1 (x0 _ (by first | omega | (simp only; omega)))
 have g5 := cell_reC (B1 5 _ rfl).1 (x0 _ (by first | omega | (simp only; omega)))
 have g6 := cell_reC (B1 6 _ rfl).1 (x0 _ (by first | omega | (simp only; omega)))
 have g7 := cell_reC (B1 7 _ rfl).1 (x0 _ (by first | omega | (simp only; omega)))
 have g8 := cell_reC (B1 8 _ rfl).1 (x0 _ (by first | omega | (simp only; omega)))
 refine anyK_begin X 16 rfl (by kernel_rfl) ?_
 refine anyK_take 0 15 1 rfl (by decide) (by kernel_rfl) (fun _ _ d _ _ h => by cases d <;> exact h) ?_
 repeat (refine headC_step (fun K hK => ?_); go_simp; refine hK _ ?_; clear hK K)
 refine headC_nil ?_
 clear g0 g1 g2 g3 g4 g5 g6 g7 g8
 refine anyK_one 15 (by kernel_rfl) ?_
 refine stepK_run rfl ?_
 intro w2 h2 K hK
 go_simp
 refine (want_no _).mono ?_
 rintro e w3 ⟨rfl, rfl⟩
 exact ⟨rfl, rfl, hE.trans h2⟩
theorem genPr_no {P D L : Int} (bx cy : Int) (h : EvNum P D L) (m : Nat) (m1 : m ≤ 1099511627776) (hn : ¬ (OnE P.toNat D ⟨bx, cy⟩ ∧ ¬ (bx = 0 ∧ cy = 1) ∧ mulE P.toNat D m ⟨bx, cy⟩ = oneE)) (w : World) :
  Calls Tryz.prog 171 #[.agg #[.int .i64 0, .int .i64 1, .int .i64 bx, .int .i64 cy, .func (.func 166) #[.agg #[.int .i64 P, .int .i64 D, .int .i64 L, .int .i64 bx, .int .i64 cy]] #[], .func (.func 167) #[.agg #[.int .i64 P, .int .i64 D, .int .i64 L, .int .i64 bx, .int .i64 cy]] #[], .func (.func 168) #[.agg #[.int .i64 P, .int .i64 D, .int .i64 L, .int .i64 bx, .int .i64 cy]] #[], .func (.func 169) #[.agg #[.int .i64 P, .int .i64 D, .int .i64 L, .int .i64 bx, .int .i64 cy]] #[], .func (.func 170) #[] #[]], .int .i64 m] w fun e w' => e = .panicked [nrE] ∧ Ext w w' := by
 by_cases hb : OnE P.toNat D ⟨bx, cy⟩
 ·by_cases hne : bx = 0 ∧ cy = 1
  ·exact genPr_unit bx cy h m m1 hne w
  exact genPr_other bx cy h m m1 hb hne (fun e => hn ⟨hb, hne, e⟩) w
 ·exact genPr_off bx cy h m m1 hb w
set_option maxHeartbeats 1600000 in
set_option maxRecDepth 100000 in
theorem groupPr_yes (P D L bx cy : Int) (hk : EvOk P D L bx cy) (w : World) :
  Calls Tryz.prog 139 #[.agg #[.int .i64 P, .int .i64 D, .int .i64 L, .int .i64 bx, .int .i64 cy]] w fun e w' => e = .returned (.agg #[.int .i64 0, .int .i64 1, .int .i64 bx, .int .i64 cy, .func (.func 166) #[.agg #[.int .i64 P, .int .i64 D, .int .i64 L, .int .i64 bx, .int .i64 cy]] #[], .func (.func 167) #[.agg #[.int .i64 P, .int .i64 D, .int .i64 L, .int .i64 bx, .int .i64 cy]] #[], .func (.func 168) #[.agg #[.int .i64 P, .int .i64 D, .int .i64 L, .int .i64 bx, .int .i64 cy]] #[], .func (.func 169) #[.agg #[.int .i64 P, .int .i64 D, .int .i64 L, .int .i64 bx, .int .i64 cy]] #[], .func (.func 170) #[] #[]]) ∧ Ext w w' := by
 have hmf : ∀ (fn : Fn) (first cap : Array Value) (w : World), (Instr.makeFunc fn first cap).run Tryz.prog w = .ok (.func fn first cap) w := fun _ _ _ _ => rfl
 have HN := hide (numPr_yes bx cy (EvOk.num hk))
 have HG : Hid (∀ w : World, Calls Tryz.prog 171 #[.agg #[.int .i64 0, .int .i64 1, .int .i64 bx, .int .i64 cy, .func (.func 166) #[.agg #[.int .i64 P, .int .i64 D, .int .i64 L, .int .i64 bx, .int .i64 cy]] #[], .func (.func 167) #[.agg #[.int .i64 P, .int .i64 D, .int .i64 L, .int .i64 bx, .int .i64 cy]] #[], .func (.func 168) #[.agg #[.int .i64 P, .int .i64 D, .int .i64 L, .int .i64 bx, .int .i64 cy]] #[], .func (.func 169) #[.agg #[.int .i64 P, .int .i64 D, .int .i64 L, .int .i64 bx, .int .i64 cy]] #[], .func (.func 170) #[] #[]], .int .i64 L] w fun e w' => e = .returned (.agg #[.int .i64 0, .int .i64 1, .int .i64 bx, .int .i64 cy, .func (.func 166) #[.agg #[.int .i64 P, .int .i64 D, .int .i64 L, .int .i64 bx, .int .i64 cy]] #[], .func (.func 167) #[.agg #[.int .i64 P, .int .i64 D, .int .i64 L, .int .i64 bx, .int .i64 cy]] #[], .func (.func 168) #[.agg #[.int .i64 P, .int .i64 D, .int .i64 L, .int .i64 bx, .int .i64 cy]] #[], .func (.func 169) #[.agg #[.int .i64 P, .int .i64 D, .int .i64 L, .int .i64 bx, .int .i64 cy]] #[], .func (.func 170) #[] #[]]) ∧ Ext w w') := fun w => by
  have h := EvOk.num hk
  have h5 := h.l5; have hM := h.lM
  have := genPr_yes bx cy h L.toNat (by omega) (EvOk.parts hk) w
  rwa [show ((L.toNat : Nat) : Int) = L by omega] at this
 clear hk
 go_enter Tryz.func139, Tryz.ntmps139
 go_wp2_with fail
 refine (HN.out _).mono ?_
 rintro r w1 ⟨rfl, hw1⟩
 obtain ⟨B1, B2, hE, hz⟩ := box2 w [.int .i64 P, .int .i64 D, .int .i64 L, .int .i64 bx, .int .i64 cy] [.int .i64 0, .int .i64 0, .int .i64 0, .int .i64 0, .nilFunc, .nilFunc, .nilFunc, .nilFunc, .nilFunc] 48 158 hw1
 clear hw1
 go_wp2_with fail
 refine (want_yes _).mono ?_
 rintro r w' ⟨rfl, rfl⟩
 have D2 := B2.ext (Ext.alloc w' (.cells #[.int .i64 0, .int .i64 1, .int .i64 bx, .int .i64 cy, .func (.func 166) #[.agg #[.int .i64 P, .int .i64 D, .int .i64 L, .int .i64 bx, .int .i64 cy]] #[], .func (.func 167) #[.agg #[.int .i64 P, .int .i64 D, .int .i64 L, .int .i64 bx, .int .i64 cy]] #[], .func (.func 168) #[.agg #[.int .i64 P, .int .i64 D, .int .i64 L, .int .i64 bx, .int .i64 cy]] #[], .func (.func 169) #[.agg #[.int .i64 P, .int .i64 D, .int .i64 L, .int .i64 bx, .int .i64 cy]] #[], .func (.func 170) #[] #[]] 158)) (by omega)
 have BA := B1.ext (Ext.alloc w' (.cells #[.int .i64 0, .int .i64 1, .int .i64 bx, .int .i64 cy, .func (.func 166) #[.agg #[.int .i64 P, .int .i64 D, .int .i64 L, .int .i64 bx, .int .i64 cy]] #[], .func (.func 167) #[.agg #[.int .i64 P, .int .i64 D, .int .i64 L, .int .i64 bx, .int .i64 cy]] #[], .func (.func 168) #[.agg #[.int .i64 P, .int .i64 D, .int .i64 L, .int .i64 bx, .int .i64 cy]] #[], .func (.func 169) #[.agg #[.int .i64 P, .int .i64 D, .int .i64 L, .int .i64 bx, .int .i64 cy]] #[], .func (.func 170) #[] #[]] 158)) (by omega)
 have hE4 := hE.trans (Ext.alloc w' (.cells #[.int .i64 0, .int .i64 1, .int .i64 bx, .int .i64 cy, .func (.func 166) #[.agg #[.int .i64 P, .int .i64 D, .int .i64 L, .int .i64 bx, .int .i64 cy]] #[], .func (.func 167) #[.agg #[.int .i64 P, .int .i64 D, .int .i64 L, .int .i64 bx, .int .i64 cy]] #[], .func (.func 168) #[.agg #[.int .i64 P, .int .i64 D, .int .i64 L, .int .i64 bx, .int .i64 cy]] #[], .func (.func 169) #[.agg #[.int .i64 P, .int .i64 D, .int .i64 L, .int .i64 bx, .int .i64 cy]] #[], .func (.func 170) #[] #[]] 158))
 have k0 := (B1 0 _ rfl).1
 have k1 := (B1 1 _ rfl).1
 have k2 := (B1 2 _ rfl).1
 have k3 := (B1 3 _ rfl).1
 have k4 := (B1 4 _ rfl).1
 have j0 := (BA 0 _ rfl).1
 have j1 := (BA 1 _ rfl).1
 have j2 := (BA 2 _ rfl).1
 have j3 := (BA 3 _ rfl).1
 have j4 := (BA 4 _ rfl).1
 clear BA
 go_wp2_with fail
 refine (HG.out _).mono ?_
 rintro r w5 ⟨rfl, hw5⟩
 have C2 := D2.ext hw5 (by first | omega | (simp; omega))
 have hE1 := hE4.trans hw5
 clear D2 hw5
 have d0 := (C2 0 _ rfl).1
 have d1 := (C2 1 _ rfl).1
 have d2 := (C2 2 _ rfl).1
 have d3 := (C2 3 _ rfl).1
 have d4 := (C2 4 _ rfl).1
 have d5 := (C2 5 _ rfl).1
 have d6 := (C2 6 _ rfl).1
 have d7 := (C2 7 _ rfl).1
 have d8 := (C2 8 _ rfl).1
 have z0 := (C2 0 _ rfl).2
 have z1 := (C2 1 _ rfl).2
 have z2 := (C2 2 _ rfl).2
 have z3 := (C2 3 _ rfl).2
 have z4 := (C2 4 _ rfl).2
 have z5 := (C2 5 _ rfl).2
 have z6 := (C2 6 _ rfl).2
 have z7 := (C2 7 _ rfl).2
 have z8 := (C2 8 _ rfl).2
 go_wp2
 obtain ⟨W, hW⟩ : ∃ W, putL (w.heap.size + 1) 0 [.int .i64 0, .int .i64 1, .int .i64 bx, .int .i64 cy, .func (.func 166) #[.agg #[.int .i64 P, .int .i64 D, .int .i64 L, .int .i64 bx, .int .i64 cy]] #[], .func (.func 167) #[.agg #[.int .i64 P, .int .i64 D, .int .i64 L, .int .i64 bx, .int .i64 cy]] #[], .func (.func 168) #[.agg #[.int .i64 P, .int .i64 D, .int .i64 L, .int .i64 bx, .int .i64 cy]] #[], .func (.func 169) #[.agg #[.int .i64 P, .int .i64 D, .int .i64 L, .int .i64 bx, .int .i64 cy]] #[], .func (.func 170) #[] #[]] w5 = W := ⟨_, rfl⟩
 have BW := Blk.put C2 [.int .i64 0, .int .i64 1, .int .i64 bx, .int .i64 cy, .func (.func 166) #[.agg #[.int .i64 P, .int .i64 D, .int .i64 L, .int .i64 bx, .int .i64 cy]] #[], .func (.func 167) #[.agg #[.int .i64 P, .int .i64 D, .int .i64 L, .int .i64 bx, .int .i64 cy]] #[], .func (.func 168) #[.agg #[.int .i64 P, .int .i64 D, .int .i64 L, .int .i64 bx, .int .i64 cy]] #[], .func (.func 169) #[.agg #[.int .i64 P, .int .i64 D, .int .i64 L, .int .i64 bx, .int .i64 cy]] #[], .func (.func 170) #[] #[]] rfl
 rw [hW] at BW
 have hF : Ext w W := hW ▸ hE1.putL (by omega) _
 simp only [putL, Nat.zero_add, Nat.reduceAdd] at hW
 simp only [hW]
 have q0 := (BW 0 _ rfl).1
 have q1 := (BW 1 _ rfl).1
 have q2 := (BW 2 _ rfl).1
 have q3 := (BW 3 _ rfl).1
 have q4 := (BW 4 _ rfl).1
 have q5 := (BW 5 _ rfl).1
 have q6 := (BW 6 _ rfl).1
 have q7 := (BW 7 _ rfl).1
 have q8 := (BW 8 _ rfl).1
 refine bodyPost_ret (v := .agg #[.int .i64 0, .int .i64 1, .int .i64 bx, .int .i64 cy, .func (.func 166) #[.agg #[.int .i64 P, .int .i64 D, .int .i64 L, .int .i64 bx, .int .i64 cy]] #[], .func (.func 167) #[.agg #[.int .i64 P, .int .i64 D, .int .i64 L, .int .i64 bx, .int .i64 cy]] #[], .func (.func 168) #[.agg #[.int .i64 P, .int .i64 D, .int .i64 L, .int .i64 bx, .int .i64 cy]] #[], .func (.func 169) #[.agg #[.int .i64 P, .int .i64 D, .int .i64 L, .int .i64 bx, .int .i64 cy]] #[], .func (.func 170) #[] #[]]) (by simp [results, Tryz.results139, go_sem, q0, q1, q2, q3, q4, q5, q6, q7, q8]) rfl ⟨rfl, hF⟩
set_option maxHeartbeats 1600000 in
set_option maxRecDepth 100000 in
theorem groupPr_no (P D L bx cy : Int) (hP1 : P ≤ 9223372036854775807) (hL1 : L ≤ 9223372036854775807) (hk : ¬ EvOk P D L bx cy) (w : World) :
  Calls Tryz.prog 139 #[.agg #[.int .i64 P, .int .i64 D, .int .i64 L, .int .i64 bx, .int .i64 cy]] w fun e w' => e = .panicked [nrE] ∧ Ext w w' := by
 have hmf : ∀ (fn : Fn) (first cap : Array Value) (w : World), (Instr.makeFunc fn first cap).run Tryz.prog w = .ok (.func fn first cap) w := fun _ _ _ _ => rfl
 by_cases h : EvNum P D L
 rotate_left
 ·have HN := hide (numPr_no bx cy hP1 hL1 h)
  clear hk h
  go_enter Tryz.func139, Tryz.ntmps139
  go_wp2_with fail
  refine (HN.out _).mono ?_
  rintro r w1 ⟨rfl, hw1⟩
  obtain ⟨B1, B2, hE, hz⟩ := box2 w [.int .i64 P, .int .i64 D, .int .i64 L, .int .i64 bx, .int .i64 cy] [.int .i64 0, .int .i64 0, .int .i64 0, .int .i64 0, .nilFunc, .nilFunc, .nilFunc, .nilFunc, .nilFunc] 48 158 hw1
  clear hw1
  go_wp2_with fail
  refine (want_no _).mono ?_
  rintro r w' ⟨rfl, rfl⟩
  exact ⟨rfl, rfl, hE⟩
 have HN := hide (numPr_yes bx cy h)
 have HG : Hid (∀ w : World, Calls Tryz.prog 171 #[.agg #[.int .i64 0, .int .i64 1, .int .i64 bx, .int .i64 cy, .func (.func 166) #[.agg #[.int .i64 P, .int .i64 D, .int .i64 L, .int .i64 bx, .int .i64 cy]] #[], .func (.func 167) #[.agg #[.int .i64 P, .int .i64 D, .int .i64 L, .int .i64 bx, .int .i64 cy]] #[], .func (.func 168) #[.agg #[.int .i64 P, .int .i64 D, .int .i64 L, .int .i64 bx, .int .i64 cy]] #[], .func (.func 169) #[.agg #[.int .i64 P, .int .i64 D, .int .i64 L, .int .i64 bx, .int .i64 cy]] #[], .func (.func 170) #[] #[]], .int .i64 L] w fun e w' => e = .panicked [nrE] ∧ Ext w w') := fun w => by
  have h5 := h.l5; have hM := h.lM
  have := genPr_no bx cy h L.toNat (by omega) (fun k => hk (EvOk.of_parts h k)) w
  rwa [show ((L.toNat : Nat) : Int) = L by omega] at this
 clear hk h
 go_enter Tryz.func139, Tryz.ntmps139
 go_wp2_with fail
 refine (HN.out _).mono ?_
 rintro r w1 ⟨rfl, hw1⟩
 obtain ⟨B1, B2, hE, hz⟩ := box2 w [.int .i64 P, .int .i64 D, .int .i64 L, .int .i64 bx, .int .i64 cy] [.int .i64 0, .int .i64 0, .int .i64 0, .int .i64 0, .nilFunc, .nilFunc, .nilFunc, .nilFunc, .nilFunc] 48 158 hw1
 clear hw1
 go_wp2_with fail
 refine (want_yes _).mono ?_
 rintro r w' ⟨rfl, rfl⟩
 have D2 := B2.ext (Ext.alloc w' (.cells #[.int .i64 0, .int .i64 1, .int .i64 bx, .int .i64 cy, .func (.func 166) #[.agg #[.int .i64 P, .int .i64 D, .int .i64 L, .int .i64 bx, .int .i64 cy]] #[], .func (.func 167) #[.agg #[.int .i64 P, .int .i64 D, .int .i64 L, .int .i64 bx, .int .i64 cy]] #[], .func (.func 168) #[.agg #[.int .i64 P, .int .i64 D, .int .i64 L, .int .i64 bx, .int .i64 cy]] #[], .func (.func 169) #[.agg #[.int .i64 P, .int .i64 D, .int .i64 L, .int .i64 bx, .int .i64 cy]] #[], .func (.func 170) #[] #[]] 158)) (by omega)
 have BA := B1.ext (Ext.alloc w' (.cells #[.int .i64 0, .int .i64 1, .int .i64 bx, .int .i64 cy, .func (.func 166) #[.agg #[.int .i64 P, .int .i64 D, .int .i64 L, .int .i64 bx, .int .i64 cy]] #[], .func (.func 167) #[.agg #[.int .i64 P, .int .i64 D, .int .i64 L, .int .i64 bx, .int .i64 cy]] #[], .func (.func 168) #[.agg #[.int .i64 P, .int .i64 D, .int .i64 L, .int .i64 bx, .int .i64 cy]] #[], .func (.func 169) #[.agg #[.int .i64 P, .int .i64 D, .int .i64 L, .int .i64 bx, .int .i64 cy]] #[], .func (.func 170) #[] #[]] 158)) (by omega)
 have hE4 := hE.trans (Ext.alloc w' (.cells #[.int .i64 0, .int .i64 1, .int .i64 bx, .int .i64 cy, .func (.func 166) #[.agg #[.int .i64 P, .int .i64 D, .int .i64 L, .int .i64 bx, .int .i64 cy]] #[], .func (.func 167) #[.agg #[.int .i64 P, .int .i64 D, .int .i64 L, .int .i64 bx, .int .i64 cy]] #[], .func (.func 168) #[.agg #[.int .i64 P, .int .i64 D, .int .i64 L, .int .i64 bx, .int .i64 cy]] #[], .func (.func 169) #[.agg #[.int .i64 P, .int .i64 D, .int .i64 L, .int .i64 bx, .int .i64 cy]] #[], .func (.func 170) #[] #[]] 158))
 have k0 := (B1 0 _ rfl).1
 have k1 := (B1 1 _ rfl).1
 have k2 := (B1 2 _ rfl).1
 have k3 := (B1 3 _ rfl).1
 have k4 := (B1 4 _ rfl).1
 have j0 := (BA 0 _ rfl).1
 have j1 := (BA 1 _ rfl).1
 have j2 := (BA 2 _ rfl).1
 have j3 := (BA 3 _ rfl).1
 have j4 := (BA 4 _ rfl).1
 clear BA
 go_wp2_with fail
 refine (HG.out _).mono ?_
 rintro r w5 ⟨rfl, hw5⟩
 exact ⟨rfl, rfl, hE4.trans hw5⟩
end Go.Proofs.YtfhiiakoilkbkaaGreatDoor
