/- Walks: the laws' own helpers over twisted curves and pairs; the laws, where model and program answer alike. -/
import Derived.Test.YtejlgcnhfomadabDoorBlk
import Derived.Test.YtejlgcnhfomadabDoorEdS
namespace Go.Proofs.YtejlgcnhfomadabDoor
set_option linter.unusedVariables false
open Go.RowKit

set_option maxHeartbeats 400000 in
theorem toEd_any (P D L bx cy : Int) (w : World) : Calls Tryd.prog 25 #[.agg #[.int .i64 P, .int .i64 D, .int .i64 L, .int .i64 bx, .int .i64 cy]] w fun r w' => r = .returned (.agg #[.int .i64 P, .int .i64 D, .int .i64 L, .int .i64 bx, .int .i64 cy]) ∧ Ext w w' := by
  go_enter Tryd.func25, Tryd.ntmps25
  go_wp2
  refine bodyPost_ret (v := .agg #[.int .i64 P, .int .i64 D, .int .i64 L, .int .i64 bx, .int .i64 cy]) (by simp [results, Tryd.results25, go_sem]) rfl ⟨rfl, ?_⟩
  unfold Ext
  repeat (first | exact Below.refl _ _ | refine Below.setCell ?_ (by simp <;> omega) _ | refine Below.alloc ?_ (by simp <;> omega) _)

set_option maxHeartbeats 400000 in
theorem toPair_any (x y : Int) (w : World) : Calls Tryd.prog 28 #[.agg #[.int .i64 x, .int .i64 y]] w fun r w' => r = .returned (.agg #[.int .i64 x, .int .i64 y]) ∧ Ext w w' := by
  go_enter Tryd.func28, Tryd.ntmps28
  go_wp2
  refine bodyPost_ret (v := .agg #[.int .i64 x, .int .i64 y]) (by simp [results, Tryd.results28, go_sem]) rfl ⟨rfl, ?_⟩
  unfold Ext
  repeat (first | exact Below.refl _ _ | refine Below.setCell ?_ (by simp <;> omega) _ | refine Below.alloc ?_ (by simp <;> omega) _)

set_option maxHeartbeats 800000 in
theorem lawEdOk (P D L bx cy : Int) (ok : Bool) (HS : Hid (∀ W : World, Calls Tryd.prog 24 #[.agg #[.int .i64 P, .int .i64 D, .int .i64 L, .int .i64 bx, .int .i64 cy]] W fun e w' => e = .returned (.bool ok) ∧ Ext W w')) (HI : Hid (∀ W : World, Calls Tryd.prog 26 #[.agg #[.int .i64 P, .int .i64 D, .int .i64 L, .int .i64 bx, .int .i64 cy]] W fun e w' => e = .returned (.bool ok) ∧ Ext W w')) (w : World) :
    Calls Tryd.prog 7 #[.agg #[.int .i64 P, .int .i64 D, .int .i64 L, .int .i64 bx, .int .i64 cy]] w fun e w' => e = .returned (.bool true) ∧ Ext w w' := by
  have nn1 : (ok != ok) = false := by simp
  go_enter Tryd.func7, Tryd.ntmps7
  go_wp2_with fail
  refine (toEd_any P D L bx cy _).mono ?_
  rintro e w1 ⟨rfl, hw1⟩
  obtain ⟨B0, hE, hz⟩ := box1 w [.int .i64 P, .int .i64 D, .int .i64 L, .int .i64 bx, .int .i64 cy] 46 hw1
  clear hw1
  go_wp2_with fail
  refine (HS.out _).mono ?_
  rintro e w2 ⟨rfl, hw2⟩
  replace B0 := B0.ext hw2 (by omega)
  replace hE := hE.trans hw2
  replace hz : w.heap.size + 1 ≤ w2.heap.size := Nat.le_trans hz (Below.size hw2)
  clear hw2
  have k0 := (B0 0 _ rfl).1
  have k1 := (B0 1 _ rfl).1
  have k2 := (B0 2 _ rfl).1
  have k3 := (B0 3 _ rfl).1
  have k4 := (B0 4 _ rfl).1
  go_wp2_with fail
  refine (toEd_any P D L bx cy _).mono ?_
  rintro e w3 ⟨rfl, hw3⟩
  replace hE := hE.trans hw3
  clear hw3 k0 k1 k2 k3 k4
  go_wp2_with fail
  refine (HI.out _).mono ?_
  rintro e w4 ⟨rfl, hw4⟩
  replace hE := hE.trans hw4
  clear hw4
  go_wp2
  go_ret
  exact ⟨rfl, hE⟩

set_option maxHeartbeats 1600000 in
set_option maxRecDepth 100000 in
theorem lawPairOk (P D L bx cy : Int) (a : Pr) (ok : Bool) (HS : Hid (∀ W : World, Calls Tryd.prog 27 #[.agg #[.int .i64 P, .int .i64 D, .int .i64 L, .int .i64 bx, .int .i64 cy], .agg #[.int .i64 a.x, .int .i64 a.y]] W fun e w' => e = .returned (.bool ok) ∧ Ext W w')) (HI : Hid (∀ W : World, Calls Tryd.prog 29 #[.agg #[.int .i64 P, .int .i64 D, .int .i64 L, .int .i64 bx, .int .i64 cy], .agg #[.int .i64 a.x, .int .i64 a.y]] W fun e w' => e = .returned (.bool ok) ∧ Ext W w')) (w : World) :
    Calls Tryd.prog 8 #[.agg #[.int .i64 P, .int .i64 D, .int .i64 L, .int .i64 bx, .int .i64 cy], .agg #[.int .i64 a.x, .int .i64 a.y]] w fun e w' => e = .returned (.bool true) ∧ Ext w w' := by
  have nn1 : (ok != ok) = false := by simp
  go_enter Tryd.func8, Tryd.ntmps8
  go_wp2
  obtain ⟨V, hV⟩ : ∃ V, ((w.alloc (.cells #[.int .i64 P, .int .i64 D, .int .i64 L, .int .i64 bx, .int .i64 cy] 46)).alloc (.cells #[.int .i64 a.x, .int .i64 a.y] 52)) = V := ⟨_, rfl⟩
  obtain ⟨B0, B1, hE, hz⟩ := box2 w [.int .i64 P, .int .i64 D, .int .i64 L, .int .i64 bx, .int .i64 cy] [.int .i64 a.x, .int .i64 a.y] 46 52 (hV ▸ Ext.refl _ : Ext ((w.alloc (.cells #[.int .i64 P, .int .i64 D, .int .i64 L, .int .i64 bx, .int .i64 cy] 46)).alloc (.cells #[.int .i64 a.x, .int .i64 a.y] 52)) V)
  simp only [hV]
  clear hV
  obtain ⟨X, hX⟩ : ∃ X : Nat → Prop, X = fun k => V.heap.size ≤ k := ⟨_, rfl⟩
  have x0 : ∀ k, k < V.heap.size → ¬ X k := fun k h => by rw [hX]; simp; omega
  clear hX
  have k0 := cell_reC (B0 0 _ rfl).1 (x0 _ (by first | omega | (simp only; omega)))
  have k1 := cell_reC (B0 1 _ rfl).1 (x0 _ (by first | omega | (simp only; omega)))
  have k2 := cell_reC (B0 2 _ rfl).1 (x0 _ (by first | omega | (simp only; omega)))
  have k3 := cell_reC (B0 3 _ rfl).1 (x0 _ (by first | omega | (simp only; omega)))
  have k4 := cell_reC (B0 4 _ rfl).1 (x0 _ (by first | omega | (simp only; omega)))
  have f0 := cell_reC (B1 0 _ rfl).1 (x0 _ (by first | omega | (simp only; omega)))
  have f1 := cell_reC (B1 1 _ rfl).1 (x0 _ (by first | omega | (simp only; omega)))
  refine anyK_begin X 6 rfl (by kernel_rfl) ?_
  refine anyK_take 0 6 0 rfl (by decide) (by kernel_rfl) (fun _ _ d _ _ h => by cases d <;> exact h) ?_
  repeat (refine headC_step (fun K hK => ?_); go_simp; first | (refine hK _ ?_; clear hK K) | (apply Exists.intro; refine ⟨fun _ => ?_, hK _ ?_⟩; (first | (go_at_call 25; exact Calls.re_of (toEd_any _ _ _ _ _ _)) | (go_at_call 28; exact Calls.re_of (toPair_any _ _ _)) | (go_at_call 27; exact Calls.re_of (HS.out _))); clear hK K))
  refine headC_nil ?_
  clear k0 k1 k2 k3 k4 f0 f1
  refine anyK_done (by kernel_rfl) ?_ 0
  intro v1 h5
  replace B0 := B0.ext h5 (by omega)
  replace B1 := B1.ext h5 (by omega)
  replace hE := hE.trans h5
  replace hz : w.heap.size + 2 ≤ v1.heap.size := Nat.le_trans hz (Below.size h5)
  clear x0 h5 X
  clear HS
  go_wp2
  obtain ⟨X, hX⟩ : ∃ X : Nat → Prop, X = fun k => v1.heap.size ≤ k := ⟨_, rfl⟩
  have x0 : ∀ k, k < v1.heap.size → ¬ X k := fun k h => by rw [hX]; simp; omega
  clear hX
  have k0 := cell_reC (B0 0 _ rfl).1 (x0 _ (by first | omega | (simp only; omega)))
  have k1 := cell_reC (B0 1 _ rfl).1 (x0 _ (by first | omega | (simp only; omega)))
  have k2 := cell_reC (B0 2 _ rfl).1 (x0 _ (by first | omega | (simp only; omega)))
  have k3 := cell_reC (B0 3 _ rfl).1 (x0 _ (by first | omega | (simp only; omega)))
  have k4 := cell_reC (B0 4 _ rfl).1 (x0 _ (by first | omega | (simp only; omega)))
  have f0 := cell_reC (B1 0 _ rfl).1 (x0 _ (by first | omega | (simp only; omega)))
  have f1 := cell_reC (B1 1 _ rfl).1 (x0 _ (by first | omega | (simp only; omega)))
  refine anyK_begin X 6 rfl (by kernel_rfl) ?_
  refine anyK_take 0 6 0 rfl (by decide) (by kernel_rfl) (fun _ _ d _ _ h => by cases d <;> exact h) ?_
  repeat (refine headC_step (fun K hK => ?_); go_simp; first | (refine hK _ ?_; clear hK K) | (apply Exists.intro; refine ⟨fun _ => ?_, hK _ ?_⟩; (first | (go_at_call 25; exact Calls.re_of (toEd_any _ _ _ _ _ _)) | (go_at_call 28; exact Calls.re_of (toPair_any _ _ _)) | (go_at_call 29; exact Calls.re_of (HI.out _))); clear hK K))
  refine headC_nil ?_
  clear k0 k1 k2 k3 k4 f0 f1
  refine anyK_done (by kernel_rfl) ?_ 0
  intro v2 h5
  replace B0 := B0.ext h5 (by omega)
  replace B1 := B1.ext h5 (by omega)
  replace hE := hE.trans h5
  replace hz : w.heap.size + 2 ≤ v2.heap.size := Nat.le_trans hz (Below.size h5)
  clear x0 h5 X
  go_wp2
  go_ret
  exact ⟨rfl, hE⟩

end Go.Proofs.YtejlgcnhfomadabDoor
