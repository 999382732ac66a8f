/- Walks: the laws' own helpers over twisted curves and pairs; the laws, where model and program answer alike. -/
import Derived.Test.YtejlgcnhfomadacDoorBlk
import Derived.Test.YtejlgcnhfomadacDoorEdS
namespace Go.Proofs.YtejlgcnhfomadacDoor
set_option linter.unusedVariables false
open Go.RowKit

set_option maxHeartbeats 400000 in
theorem toEd_any (P D L bx cy : Int) (w : World) : Calls Tryd.prog 9 #[.agg #[.int .i64 P, .int .i64 D, .int .i64 L, .int .i64 bx, .int .i64 cy]] w fun r w' => r = .returned (.agg #[.int .i64 P, .int .i64 D, .int .i64 L, .int .i64 bx, .int .i64 cy]) ∧ Ext w w' := by
  go_enter Tryd.func9, Tryd.ntmps9
  go_wp2
  refine bodyPost_ret (v := .agg #[.int .i64 P, .int .i64 D, .int .i64 L, .int .i64 bx, .int .i64 cy]) (by simp [results, Tryd.results9, go_sem]) rfl ⟨rfl, ?_⟩
  unfold Ext
  repeat (first | exact Below.refl _ _ | refine Below.setCell ?_ (by simp <;> omega) _ | refine Below.alloc ?_ (by simp <;> omega) _)

set_option maxHeartbeats 400000 in
theorem toPair_any (x y : Int) (w : World) : Calls Tryd.prog 10 #[.agg #[.int .i64 x, .int .i64 y]] w fun r w' => r = .returned (.agg #[.int .i64 x, .int .i64 y]) ∧ Ext w w' := by
  go_enter Tryd.func10, Tryd.ntmps10
  go_wp2
  refine bodyPost_ret (v := .agg #[.int .i64 x, .int .i64 y]) (by simp [results, Tryd.results10, go_sem]) rfl ⟨rfl, ?_⟩
  unfold Ext
  repeat (first | exact Below.refl _ _ | refine Below.setCell ?_ (by simp <;> omega) _ | refine Below.alloc ?_ (by simp <;> omega) _)

set_option maxHeartbeats 400000 in
theorem eqPair_same (x y : Int) (w : World) : Calls Tryd.prog 12 #[.agg #[.int .i64 x, .int .i64 y], .agg #[.int .i64 x, .int .i64 y]] w fun r w' => r = .returned (.bool true) ∧ Ext w w' := by
  have h1 : (x != x) = false := by simp
  have h2 : (y != y) = false := by simp
  go_enter Tryd.func12, Tryd.ntmps12
  go_wp2
  go_ret
  exact ⟨rfl, ((Below.refl _ _).alloc (Nat.le_refl _) _).alloc (by simp) _⟩

set_option maxHeartbeats 3200000 in
set_option maxRecDepth 100000 in
theorem lawEdAdd (P D L bx cy : Int) (a : Pr) (b : Pr) (v : Pr) (ok : Bool) (HS : Hid (∀ W : World, Calls Tryd.prog 8 #[.agg #[.int .i64 P, .int .i64 D, .int .i64 L, .int .i64 bx, .int .i64 cy], .agg #[.int .i64 a.x, .int .i64 a.y], .agg #[.int .i64 b.x, .int .i64 b.y]] W fun e w' => e = .returned (.tuple #[.agg #[.int .i64 v.x, .int .i64 v.y], .bool ok]) ∧ Ext W w')) (HI : Hid (∀ W : World, Calls Tryd.prog 11 #[.agg #[.int .i64 P, .int .i64 D, .int .i64 L, .int .i64 bx, .int .i64 cy], .agg #[.int .i64 a.x, .int .i64 a.y], .agg #[.int .i64 b.x, .int .i64 b.y]] W fun e w' => e = .returned (.tuple #[.agg #[.int .i64 v.x, .int .i64 v.y], .bool ok]) ∧ Ext W w')) (w : World) :
    Calls Tryd.prog 3 #[.agg #[.int .i64 P, .int .i64 D, .int .i64 L, .int .i64 bx, .int .i64 cy], .agg #[.int .i64 a.x, .int .i64 a.y], .agg #[.int .i64 b.x, .int .i64 b.y]] w fun e w' => e = .returned (.bool true) ∧ Ext w w' := by
  go_enter Tryd.func3, Tryd.ntmps3
  go_wp2
  obtain ⟨V, hV⟩ : ∃ V, (((w.alloc (.cells #[.int .i64 P, .int .i64 D, .int .i64 L, .int .i64 bx, .int .i64 cy] 23)).alloc (.cells #[.int .i64 a.x, .int .i64 a.y] 25)).alloc (.cells #[.int .i64 b.x, .int .i64 b.y] 25)) = V := ⟨_, rfl⟩
  obtain ⟨B0, B1, B2, hE, hz⟩ := box3 w [.int .i64 P, .int .i64 D, .int .i64 L, .int .i64 bx, .int .i64 cy] [.int .i64 a.x, .int .i64 a.y] [.int .i64 b.x, .int .i64 b.y] 23 25 25 (hV ▸ Ext.refl _ : Ext (((w.alloc (.cells #[.int .i64 P, .int .i64 D, .int .i64 L, .int .i64 bx, .int .i64 cy] 23)).alloc (.cells #[.int .i64 a.x, .int .i64 a.y] 25)).alloc (.cells #[.int .i64 b.x, .int .i64 b.y] 25)) V)
  simp only [hV]
  clear hV
  obtain ⟨X, hX⟩ : ∃ X : Nat → Prop, X = fun k => V.heap.size ≤ k := ⟨_, rfl⟩
  have x0 : ∀ k, k < V.heap.size → ¬ X k := fun k h => by rw [hX]; simp; omega
  have x1 : ∀ k, V.heap.size ≤ k → X k := fun k h => by rw [hX]; exact h
  clear hX
  have k0 := cell_reC (B0 0 _ rfl).1 (x0 _ (by first | omega | (simp only; omega)))
  have k1 := cell_reC (B0 1 _ rfl).1 (x0 _ (by first | omega | (simp only; omega)))
  have k2 := cell_reC (B0 2 _ rfl).1 (x0 _ (by first | omega | (simp only; omega)))
  have k3 := cell_reC (B0 3 _ rfl).1 (x0 _ (by first | omega | (simp only; omega)))
  have k4 := cell_reC (B0 4 _ rfl).1 (x0 _ (by first | omega | (simp only; omega)))
  have f0 := cell_reC (B1 0 _ rfl).1 (x0 _ (by first | omega | (simp only; omega)))
  have f1 := cell_reC (B1 1 _ rfl).1 (x0 _ (by first | omega | (simp only; omega)))
  have g0 := cell_reC (B2 0 _ rfl).1 (x0 _ (by first | omega | (simp only; omega)))
  have g1 := cell_reC (B2 1 _ rfl).1 (x0 _ (by first | omega | (simp only; omega)))
  refine anyK_begin X 13 rfl (by kernel_rfl) ?_
  refine anyK_take 0 10 3 rfl (by decide) (by kernel_rfl) (fun _ _ d _ _ h => by cases d <;> exact h) ?_
  repeat (refine headC_step (fun K hK => ?_); go_simp; first | (refine hK _ ?_; clear hK K) | (apply Exists.intro; refine ⟨fun _ => ?_, hK _ ?_⟩; (first | (go_at_call 9; exact Calls.re_of (toEd_any _ _ _ _ _ _)) | (go_at_call 10; exact Calls.re_of (toPair_any _ _ _)) | (go_at_call 8; exact Calls.re_of (HS.out _))); clear hK K))
  refine headC_nil ?_
  clear k0 k1 k2 k3 k4 f0 f1 g0 g1
  refine anyK_one 10 (by kernel_rfl) ?_
  refine stepK_run rfl ?_
  intro w2 h2 K hK
  go_simp
  refine hK _ _ (.of_ext (h2.trans (Ext.alloc _ _))) ?_
  clear hK K
  refine anyK_one 11 (by kernel_rfl) ?_
  refine stepK_run rfl ?_
  intro w3 h3 K hK
  obtain ⟨BS, h23, sS⟩ := box1 w2 [.int .i64 0, .int .i64 0] 26 h3
  have lS1 := Below.size h2
  have hV3 := h2.trans h23
  clear h2 h3 h23
  generalize w2.heap.size = S1 at *
  have s0 := (BS 0 _ rfl).1
  have s1 := (BS 1 _ rfl).1
  have y0 := (BS 0 _ rfl).2
  have y1 := (BS 1 _ rfl).2
  go_simp
  refine hK _ _ (show Grw X V (putL S1 0 [.int .i64 v.x, .int .i64 v.y] w3) from Grw.putL (x1 _ lS1) _ _ _ (.of_ext hV3)) ?_
  clear hK K s0 s1 y0 y1
  refine anyK_one 12 (by kernel_rfl) ?_
  refine stepK_run rfl ?_
  intro w4 h4 K hK
  replace h4 : Ext (putL S1 0 [.int .i64 v.x, .int .i64 v.y] w3) w4 := h4
  go_simp
  refine hK _ _ ((Grw.putL (x1 _ lS1) _ _ _ (.of_ext hV3)).trans (.of_ext h4)) ?_
  clear hK K
  refine anyK_done (by kernel_rfl) ?_ 0
  intro v1 h5
  have hx : Ext V v1 := ((hV3.putL lS1 [.int .i64 v.x, .int .i64 v.y]).trans h4).trans h5
  have BS1 := ((BS.put [.int .i64 v.x, .int .i64 v.y] rfl).ext h4 (by rw [size_putL]; omega)).ext h5 (by have := Below.size h4; rw [size_putL] at this; omega)
  have zS1 : S1 < v1.heap.size := by have e4 := Below.size h4; have e5 := Below.size h5; rw [size_putL] at e4; omega
  replace B0 := B0.ext hx (by omega)
  replace B1 := B1.ext hx (by omega)
  replace B2 := B2.ext hx (by omega)
  replace hE := hE.trans hx
  replace hz : w.heap.size + 3 ≤ v1.heap.size := Nat.le_trans hz (Below.size hx)
  clear x0 x1 hV3 h4 h5 BS sS hx X w2 w3 w4
  clear HS
  go_wp2
  obtain ⟨X, hX⟩ : ∃ X : Nat → Prop, X = fun k => v1.heap.size ≤ k := ⟨_, rfl⟩
  have x0 : ∀ k, k < v1.heap.size → ¬ X k := fun k h => by rw [hX]; simp; omega
  have x1 : ∀ k, v1.heap.size ≤ k → X k := fun k h => by rw [hX]; exact h
  clear hX
  have k0 := cell_reC (B0 0 _ rfl).1 (x0 _ (by first | omega | (simp only; omega)))
  have k1 := cell_reC (B0 1 _ rfl).1 (x0 _ (by first | omega | (simp only; omega)))
  have k2 := cell_reC (B0 2 _ rfl).1 (x0 _ (by first | omega | (simp only; omega)))
  have k3 := cell_reC (B0 3 _ rfl).1 (x0 _ (by first | omega | (simp only; omega)))
  have k4 := cell_reC (B0 4 _ rfl).1 (x0 _ (by first | omega | (simp only; omega)))
  have f0 := cell_reC (B1 0 _ rfl).1 (x0 _ (by first | omega | (simp only; omega)))
  have f1 := cell_reC (B1 1 _ rfl).1 (x0 _ (by first | omega | (simp only; omega)))
  have g0 := cell_reC (B2 0 _ rfl).1 (x0 _ (by first | omega | (simp only; omega)))
  have g1 := cell_reC (B2 1 _ rfl).1 (x0 _ (by first | omega | (simp only; omega)))
  refine anyK_begin X 13 rfl (by kernel_rfl) ?_
  refine anyK_take 0 10 3 rfl (by decide) (by kernel_rfl) (fun _ _ d _ _ h => by cases d <;> exact h) ?_
  repeat (refine headC_step (fun K hK => ?_); go_simp; first | (refine hK _ ?_; clear hK K) | (apply Exists.intro; refine ⟨fun _ => ?_, hK _ ?_⟩; (first | (go_at_call 9; exact Calls.re_of (toEd_any _ _ _ _ _ _)) | (go_at_call 10; exact Calls.re_of (toPair_any _ _ _)) | (go_at_call 11; exact Calls.re_of (HI.out _))); clear hK K))
  refine headC_nil ?_
  clear k0 k1 k2 k3 k4 f0 f1 g0 g1
  refine anyK_one 10 (by kernel_rfl) ?_
  refine stepK_run rfl ?_
  intro w2 h2 K hK
  go_simp
  refine hK _ _ (.of_ext (h2.trans (Ext.alloc _ _))) ?_
  clear hK K
  refine anyK_one 11 (by kernel_rfl) ?_
  refine stepK_run rfl ?_
  intro w3 h3 K hK
  obtain ⟨BS, h23, sS⟩ := box1 w2 [.int .i64 0, .int .i64 0] 26 h3
  have lS2 := Below.size h2
  have hV3 := h2.trans h23
  clear h2 h3 h23
  generalize w2.heap.size = S2 at *
  have s0 := (BS 0 _ rfl).1
  have s1 := (BS 1 _ rfl).1
  have y0 := (BS 0 _ rfl).2
  have y1 := (BS 1 _ rfl).2
  go_simp
  refine hK _ _ (show Grw X v1 (putL S2 0 [.int .i64 v.x, .int .i64 v.y] w3) from Grw.putL (x1 _ lS2) _ _ _ (.of_ext hV3)) ?_
  clear hK K s0 s1 y0 y1
  refine anyK_one 12 (by kernel_rfl) ?_
  refine stepK_run rfl ?_
  intro w4 h4 K hK
  replace h4 : Ext (putL S2 0 [.int .i64 v.x, .int .i64 v.y] w3) w4 := h4
  go_simp
  refine hK _ _ ((Grw.putL (x1 _ lS2) _ _ _ (.of_ext hV3)).trans (.of_ext h4)) ?_
  clear hK K
  refine anyK_done (by kernel_rfl) ?_ 0
  intro v2 h5
  have hx : Ext v1 v2 := ((hV3.putL lS2 [.int .i64 v.x, .int .i64 v.y]).trans h4).trans h5
  have BS2 := ((BS.put [.int .i64 v.x, .int .i64 v.y] rfl).ext h4 (by rw [size_putL]; omega)).ext h5 (by have := Below.size h4; rw [size_putL] at this; omega)
  have zS2 : S2 < v2.heap.size := by have e4 := Below.size h4; have e5 := Below.size h5; rw [size_putL] at e4; omega
  replace B0 := B0.ext hx (by omega)
  replace B1 := B1.ext hx (by omega)
  replace B2 := B2.ext hx (by omega)
  replace BS1 := BS1.ext hx zS1
  replace hE := hE.trans hx
  replace hz : w.heap.size + 3 ≤ v2.heap.size := Nat.le_trans hz (Below.size hx)
  clear x0 x1 hV3 h4 h5 BS sS hx X w2 w3 w4
  clear HI
  have a0 := (BS1 0 _ rfl).1
  have a1 := (BS1 1 _ rfl).1
  have b0 := (BS2 0 _ rfl).1
  have b1 := (BS2 1 _ rfl).1
  have nn1 : (ok != ok) = false := by simp
  go_wp2_with fail
  refine (eqPair_same _ _ _).mono ?_
  rintro r w5 ⟨rfl, hw5⟩
  replace hE := hE.trans hw5
  clear hw5
  go_wp2
  go_ret
  exact ⟨rfl, hE⟩

set_option maxHeartbeats 3200000 in
set_option maxRecDepth 100000 in
theorem lawEdMul (P D L bx cy : Int) (n : Int) (a : Pr) (v : Pr) (ok : Bool) (HS : Hid (∀ W : World, Calls Tryd.prog 13 #[.agg #[.int .i64 P, .int .i64 D, .int .i64 L, .int .i64 bx, .int .i64 cy], .int .i64 n, .agg #[.int .i64 a.x, .int .i64 a.y]] W fun e w' => e = .returned (.tuple #[.agg #[.int .i64 v.x, .int .i64 v.y], .bool ok]) ∧ Ext W w')) (HI : Hid (∀ W : World, Calls Tryd.prog 14 #[.agg #[.int .i64 P, .int .i64 D, .int .i64 L, .int .i64 bx, .int .i64 cy], .int .i64 n, .agg #[.int .i64 a.x, .int .i64 a.y]] W fun e w' => e = .returned (.tuple #[.agg #[.int .i64 v.x, .int .i64 v.y], .bool ok]) ∧ Ext W w')) (w : World) :
    Calls Tryd.prog 4 #[.agg #[.int .i64 P, .int .i64 D, .int .i64 L, .int .i64 bx, .int .i64 cy], .int .i64 n, .agg #[.int .i64 a.x, .int .i64 a.y]] w fun e w' => e = .returned (.bool true) ∧ Ext w w' := by
  go_enter Tryd.func4, Tryd.ntmps4
  go_wp2
  obtain ⟨V, hV⟩ : ∃ V, ((w.alloc (.cells #[.int .i64 P, .int .i64 D, .int .i64 L, .int .i64 bx, .int .i64 cy] 23)).alloc (.cells #[.int .i64 a.x, .int .i64 a.y] 25)) = V := ⟨_, rfl⟩
  obtain ⟨B0, B1, hE, hz⟩ := box2 w [.int .i64 P, .int .i64 D, .int .i64 L, .int .i64 bx, .int .i64 cy] [.int .i64 a.x, .int .i64 a.y] 23 25 (hV ▸ Ext.refl _ : Ext ((w.alloc (.cells #[.int .i64 P, .int .i64 D, .int .i64 L, .int .i64 bx, .int .i64 cy] 23)).alloc (.cells #[.int .i64 a.x, .int .i64 a.y] 25)) V)
  simp only [hV]
  clear hV
  obtain ⟨X, hX⟩ : ∃ X : Nat → Prop, X = fun k => V.heap.size ≤ k := ⟨_, rfl⟩
  have x0 : ∀ k, k < V.heap.size → ¬ X k := fun k h => by rw [hX]; simp; omega
  have x1 : ∀ k, V.heap.size ≤ k → X k := fun k h => by rw [hX]; exact h
  clear hX
  have k0 := cell_reC (B0 0 _ rfl).1 (x0 _ (by first | omega | (simp only; omega)))
  have k1 := cell_reC (B0 1 _ rfl).1 (x0 _ (by first | omega | (simp only; omega)))
  have k2 := cell_reC (B0 2 _ rfl).1 (x0 _ (by first | omega | (simp only; omega)))
  have k3 := cell_reC (B0 3 _ rfl).1 (x0 _ (by first | omega | (simp only; omega)))
  have k4 := cell_reC (B0 4 _ rfl).1 (x0 _ (by first | omega | (simp only; omega)))
  have f0 := cell_reC (B1 0 _ rfl).1 (x0 _ (by first | omega | (simp only; omega)))
  have f1 := cell_reC (B1 1 _ rfl).1 (x0 _ (by first | omega | (simp only; omega)))
  refine anyK_begin X 12 rfl (by kernel_rfl) ?_
  refine anyK_take 0 9 3 rfl (by decide) (by kernel_rfl) (fun _ _ d _ _ h => by cases d <;> exact h) ?_
  repeat (refine headC_step (fun K hK => ?_); go_simp; first | (refine hK _ ?_; clear hK K) | (apply Exists.intro; refine ⟨fun _ => ?_, hK _ ?_⟩; (first | (go_at_call 9; exact Calls.re_of (toEd_any _ _ _ _ _ _)) | (go_at_call 10; exact Calls.re_of (toPair_any _ _ _)) | (go_at_call 13; exact Calls.re_of (HS.out _))); clear hK K))
  refine headC_nil ?_
  clear k0 k1 k2 k3 k4 f0 f1
  refine anyK_one 9 (by kernel_rfl) ?_
  refine stepK_run rfl ?_
  intro w2 h2 K hK
  go_simp
  refine hK _ _ (.of_ext (h2.trans (Ext.alloc _ _))) ?_
  clear hK K
  refine anyK_one 10 (by kernel_rfl) ?_
  refine stepK_run rfl ?_
  intro w3 h3 K hK
  obtain ⟨BS, h23, sS⟩ := box1 w2 [.int .i64 0, .int .i64 0] 26 h3
  have lS1 := Below.size h2
  have hV3 := h2.trans h23
  clear h2 h3 h23
  generalize w2.heap.size = S1 at *
  have s0 := (BS 0 _ rfl).1
  have s1 := (BS 1 _ rfl).1
  have y0 := (BS 0 _ rfl).2
  have y1 := (BS 1 _ rfl).2
  go_simp
  refine hK _ _ (show Grw X V (putL S1 0 [.int .i64 v.x, .int .i64 v.y] w3) from Grw.putL (x1 _ lS1) _ _ _ (.of_ext hV3)) ?_
  clear hK K s0 s1 y0 y1
  refine anyK_one 11 (by kernel_rfl) ?_
  refine stepK_run rfl ?_
  intro w4 h4 K hK
  replace h4 : Ext (putL S1 0 [.int .i64 v.x, .int .i64 v.y] w3) w4 := h4
  go_simp
  refine hK _ _ ((Grw.putL (x1 _ lS1) _ _ _ (.of_ext hV3)).trans (.of_ext h4)) ?_
  clear hK K
  refine anyK_done (by kernel_rfl) ?_ 0
  intro v1 h5
  have hx : Ext V v1 := ((hV3.putL lS1 [.int .i64 v.x, .int .i64 v.y]).trans h4).trans h5
  have BS1 := ((BS.put [.int .i64 v.x, .int .i64 v.y] rfl).ext h4 (by rw [size_putL]; omega)).ext h5 (by have := Below.size h4; rw [size_putL] at this; omega)
  have zS1 : S1 < v1.heap.size := by have e4 := Below.size h4; have e5 := Below.size h5; rw [size_putL] at e4; omega
  replace B0 := B0.ext hx (by omega)
  replace B1 := B1.ext hx (by omega)
  replace hE := hE.trans hx
  replace hz : w.heap.size + 2 ≤ v1.heap.size := Nat.le_trans hz (Below.size hx)
  clear x0 x1 hV3 h4 h5 BS sS hx X w2 w3 w4
  clear HS
  go_wp2
  obtain ⟨X, hX⟩ : ∃ X : Nat → Prop, X = fun k => v1.heap.size ≤ k := ⟨_, rfl⟩
  have x0 : ∀ k, k < v1.heap.size → ¬ X k := fun k h => by rw [hX]; simp; omega
  have x1 : ∀ k, v1.heap.size ≤ k → X k := fun k h => by rw [hX]; exact h
  clear hX
  have k0 := cell_reC (B0 0 _ rfl).1 (x0 _ (by first | omega | (simp only; omega)))
  have k1 := cell_reC (B0 1 _ rfl).1 (x0 _ (by first | omega | (simp only; omega)))
  have k2 := cell_reC (B0 2 _ rfl).1 (x0 _ (by first | omega | (simp only; omega)))
  have k3 := cell_reC (B0 3 _ rfl).1 (x0 _ (by first | omega | (simp only; omega)))
  have k4 := cell_reC (B0 4 _ rfl).1 (x0 _ (by first | omega | (simp only; omega)))
  have f0 := cell_reC (B1 0 _ rfl).1 (x0 _ (by first | omega | (simp only; omega)))
  have f1 := cell_reC (B1 1 _ rfl).1 (x0 _ (by first | omega | (simp only; omega)))
  refine anyK_begin X 12 rfl (by kernel_rfl) ?_
  refine anyK_take 0 9 3 rfl (by decide) (by kernel_rfl) (fun _ _ d _ _ h => by cases d <;> exact h) ?_
  repeat (refine headC_step (fun K hK => ?_); go_simp; first | (refine hK _ ?_; clear hK K) | (apply Exists.intro; refine ⟨fun _ => ?_, hK _ ?_⟩; (first | (go_at_call 9; exact Calls.re_of (toEd_any _ _ _ _ _ _)) | (go_at_call 10; exact Calls.re_of (toPair_any _ _ _)) | (go_at_call 14; exact Calls.re_of (HI.out _))); clear hK K))
  refine headC_nil ?_
  clear k0 k1 k2 k3 k4 f0 f1
  refine anyK_one 9 (by kernel_rfl) ?_
  refine stepK_run rfl ?_
  intro w2 h2 K hK
  go_simp
  refine hK _ _ (.of_ext (h2.trans (Ext.alloc _ _))) ?_
  clear hK K
  refine anyK_one 10 (by kernel_rfl) ?_
  refine stepK_run rfl ?_
  intro w3 h3 K hK
  obtain ⟨BS, h23, sS⟩ := box1 w2 [.int .i64 0, .int .i64 0] 26 h3
  have lS2 := Below.size h2
  have hV3 := h2.trans h23
  clear h2 h3 h23
  generalize w2.heap.size = S2 at *
  have s0 := (BS 0 _ rfl).1
  have s1 := (BS 1 _ rfl).1
  have y0 := (BS 0 _ rfl).2
  have y1 := (BS 1 _ rfl).2
  go_simp
  refine hK _ _ (show Grw X v1 (putL S2 0 [.int .i64 v.x, .int .i64 v.y] w3) from Grw.putL (x1 _ lS2) _ _ _ (.of_ext hV3)) ?_
  clear hK K s0 s1 y0 y1
  refine anyK_one 11 (by kernel_rfl) ?_
  refine stepK_run rfl ?_
  intro w4 h4 K hK
  replace h4 : Ext (putL S2 0 [.int .i64 v.x, .int .i64 v.y] w3) w4 := h4
  go_simp
  refine hK _ _ ((Grw.putL (x1 _ lS2) _ _ _ (.of_ext hV3)).trans (.of_ext h4)) ?_
  clear hK K
  refine anyK_done (by kernel_rfl) ?_ 0
  intro v2 h5
  have hx : Ext v1 v2 := ((hV3.putL lS2 [.int .i64 v.x, .int .i64 v.y]).trans h4).trans h5
  have BS2 := ((BS.put [.int .i64 v.x, .int .i64 v.y] rfl).ext h4 (by rw [size_putL]; omega)).ext h5 (by have := Below.size h4; rw [size_putL] at this; omega)
  have zS2 : S2 < v2.heap.size := by have e4 := Below.size h4; have e5 := Below.size h5; rw [size_putL] at e4; omega
  replace B0 := B0.ext hx (by omega)
  replace B1 := B1.ext hx (by omega)
  replace BS1 := BS1.ext hx zS1
  replace hE := hE.trans hx
  replace hz : w.heap.size + 2 ≤ v2.heap.size := Nat.le_trans hz (Below.size hx)
  clear x0 x1 hV3 h4 h5 BS sS hx X w2 w3 w4
  clear HI
  have a0 := (BS1 0 _ rfl).1
  have a1 := (BS1 1 _ rfl).1
  have b0 := (BS2 0 _ rfl).1
  have b1 := (BS2 1 _ rfl).1
  have nn1 : (ok != ok) = false := by simp
  go_wp2_with fail
  refine (eqPair_same _ _ _).mono ?_
  rintro r w5 ⟨rfl, hw5⟩
  replace hE := hE.trans hw5
  clear hw5
  go_wp2
  go_ret
  exact ⟨rfl, hE⟩

set_option maxHeartbeats 3200000 in
set_option maxRecDepth 100000 in
theorem lawEdCofactor (P D L bx cy : Int) (a : Pr) (v : Pr) (ok : Bool) (HS : Hid (∀ W : World, Calls Tryd.prog 23 #[.agg #[.int .i64 P, .int .i64 D, .int .i64 L, .int .i64 bx, .int .i64 cy], .agg #[.int .i64 a.x, .int .i64 a.y]] W fun e w' => e = .returned (.tuple #[.agg #[.int .i64 v.x, .int .i64 v.y], .bool ok]) ∧ Ext W w')) (HI : Hid (∀ W : World, Calls Tryd.prog 24 #[.agg #[.int .i64 P, .int .i64 D, .int .i64 L, .int .i64 bx, .int .i64 cy], .agg #[.int .i64 a.x, .int .i64 a.y]] W fun e w' => e = .returned (.tuple #[.agg #[.int .i64 v.x, .int .i64 v.y], .bool ok]) ∧ Ext W w')) (w : World) :
    Calls Tryd.prog 7 #[.agg #[.int .i64 P, .int .i64 D, .int .i64 L, .int .i64 bx, .int .i64 cy], .agg #[.int .i64 a.x, .int .i64 a.y]] w fun e w' => e = .returned (.bool true) ∧ Ext w w' := by
  go_enter Tryd.func7, Tryd.ntmps7
  go_wp2
  obtain ⟨V, hV⟩ : ∃ V, ((w.alloc (.cells #[.int .i64 P, .int .i64 D, .int .i64 L, .int .i64 bx, .int .i64 cy] 23)).alloc (.cells #[.int .i64 a.x, .int .i64 a.y] 25)) = V := ⟨_, rfl⟩
  obtain ⟨B0, B1, hE, hz⟩ := box2 w [.int .i64 P, .int .i64 D, .int .i64 L, .int .i64 bx, .int .i64 cy] [.int .i64 a.x, .int .i64 a.y] 23 25 (hV ▸ Ext.refl _ : Ext ((w.alloc (.cells #[.int .i64 P, .int .i64 D, .int .i64 L, .int .i64 bx, .int .i64 cy] 23)).alloc (.cells #[.int .i64 a.x, .int .i64 a.y] 25)) V)
  simp only [hV]
  clear hV
  obtain ⟨X, hX⟩ : ∃ X : Nat → Prop, X = fun k => V.heap.size ≤ k := ⟨_, rfl⟩
  have x0 : ∀ k, k < V.heap.size → ¬ X k := fun k h => by rw [hX]; simp; omega
  have x1 : ∀ k, V.heap.size ≤ k → X k := fun k h => by rw [hX]; exact h
  clear hX
  have k0 := cell_reC (B0 0 _ rfl).1 (x0 _ (by first | omega | (simp only; omega)))
  have k1 := cell_reC (B0 1 _ rfl).1 (x0 _ (by first | omega | (simp only; omega)))
  have k2 := cell_reC (B0 2 _ rfl).1 (x0 _ (by first | omega | (simp only; omega)))
  have k3 := cell_reC (B0 3 _ rfl).1 (x0 _ (by first | omega | (simp only; omega)))
  have k4 := cell_reC (B0 4 _ rfl).1 (x0 _ (by first | omega | (simp only; omega)))
  have f0 := cell_reC (B1 0 _ rfl).1 (x0 _ (by first | omega | (simp only; omega)))
  have f1 := cell_reC (B1 1 _ rfl).1 (x0 _ (by first | omega | (simp only; omega)))
  refine anyK_begin X 11 rfl (by kernel_rfl) ?_
  refine anyK_take 0 8 3 rfl (by decide) (by kernel_rfl) (fun _ _ d _ _ h => by cases d <;> exact h) ?_
  repeat (refine headC_step (fun K hK => ?_); go_simp; first | (refine hK _ ?_; clear hK K) | (apply Exists.intro; refine ⟨fun _ => ?_, hK _ ?_⟩; (first | (go_at_call 9; exact Calls.re_of (toEd_any _ _ _ _ _ _)) | (go_at_call 10; exact Calls.re_of (toPair_any _ _ _)) | (go_at_call 23; exact Calls.re_of (HS.out _))); clear hK K))
  refine headC_nil ?_
  clear k0 k1 k2 k3 k4 f0 f1
  refine anyK_one 8 (by kernel_rfl) ?_
  refine stepK_run rfl ?_
  intro w2 h2 K hK
  go_simp
  refine hK _ _ (.of_ext (h2.trans (Ext.alloc _ _))) ?_
  clear hK K
  refine anyK_one 9 (by kernel_rfl) ?_
  refine stepK_run rfl ?_
  intro w3 h3 K hK
  obtain ⟨BS, h23, sS⟩ := box1 w2 [.int .i64 0, .int .i64 0] 26 h3
  have lS1 := Below.size h2
  have hV3 := h2.trans h23
  clear h2 h3 h23
  generalize w2.heap.size = S1 at *
  have s0 := (BS 0 _ rfl).1
  have s1 := (BS 1 _ rfl).1
  have y0 := (BS 0 _ rfl).2
  have y1 := (BS 1 _ rfl).2
  go_simp
  refine hK _ _ (show Grw X V (putL S1 0 [.int .i64 v.x, .int .i64 v.y] w3) from Grw.putL (x1 _ lS1) _ _ _ (.of_ext hV3)) ?_
  clear hK K s0 s1 y0 y1
  refine anyK_one 10 (by kernel_rfl) ?_
  refine stepK_run rfl ?_
  intro w4 h4 K hK
  replace h4 : Ext (putL S1 0 [.int .i64 v.x, .int .i64 v.y] w3) w4 := h4
  go_simp
  refine hK _ _ ((Grw.putL (x1 _ lS1) _ _ _ (.of_ext hV3)).trans (.of_ext h4)) ?_
  clear hK K
  refine anyK_done (by kernel_rfl) ?_ 0
  intro v1 h5
  have hx : Ext V v1 := ((hV3.putL lS1 [.int .i64 v.x, .int .i64 v.y]).trans h4).trans h5
  have BS1 := ((BS.put [.int .i64 v.x, .int .i64 v.y] rfl).ext h4 (by rw [size_putL]; omega)).ext h5 (by have := Below.size h4; rw [size_putL] at this; omega)
  have zS1 : S1 < v1.heap.size := by have e4 := Below.size h4; have e5 := Below.size h5; rw [size_putL] at e4; omega
  replace B0 := B0.ext hx (by omega)
  replace B1 := B1.ext hx (by omega)
  replace hE := hE.trans hx
  replace hz : w.heap.size + 2 ≤ v1.heap.size := Nat.le_trans hz (Below.size hx)
  clear x0 x1 hV3 h4 h5 BS sS hx X w2 w3 w4
  clear HS
  go_wp2
  obtain ⟨X, hX⟩ : ∃ X : Nat → Prop, X = fun k => v1.heap.size ≤ k := ⟨_, rfl⟩
  have x0 : ∀ k, k < v1.heap.size → ¬ X k := fun k h => by rw [hX]; simp; omega
  have x1 : ∀ k, v1.heap.size ≤ k → X k := fun k h => by rw [hX]; exact h
  clear hX
  have k0 := cell_reC (B0 0 _ rfl).1 (x0 _ (by first | omega | (simp only; omega)))
  have k1 := cell_reC (B0 1 _ rfl).1 (x0 _ (by first | omega | (simp only; omega)))
  have k2 := cell_reC (B0 2 _ rfl).1 (x0 _ (by first | omega | (simp only; omega)))
  have k3 := cell_reC (B0 3 _ rfl).1 (x0 _ (by first | omega | (simp only; omega)))
  have k4 := cell_reC (B0 4 _ rfl).1 (x0 _ (by first | omega | (simp only; omega)))
  have f0 := cell_reC (B1 0 _ rfl).1 (x0 _ (by first | omega | (simp only; omega)))
  have f1 := cell_reC (B1 1 _ rfl).1 (x0 _ (by first | omega | (simp only; omega)))
  refine anyK_begin X 11 rfl (by kernel_rfl) ?_
  refine anyK_take 0 8 3 rfl (by decide) (by kernel_rfl) (fun _ _ d _ _ h => by cases d <;> exact h) ?_
  repeat (refine headC_step (fun K hK => ?_); go_simp; first | (refine hK _ ?_; clear hK K) | (apply Exists.intro; refine ⟨fun _ => ?_, hK _ ?_⟩; (first | (go_at_call 9; exact Calls.re_of (toEd_any _ _ _ _ _ _)) | (go_at_call 10; exact Calls.re_of (toPair_any _ _ _)) | (go_at_call 24; exact Calls.re_of (HI.out _))); clear hK K))
  refine headC_nil ?_
  clear k0 k1 k2 k3 k4 f0 f1
  refine anyK_one 8 (by kernel_rfl) ?_
  refine stepK_run rfl ?_
  intro w2 h2 K hK
  go_simp
  refine hK _ _ (.of_ext (h2.trans (Ext.alloc _ _))) ?_
  clear hK K
  refine anyK_one 9 (by kernel_rfl) ?_
  refine stepK_run rfl ?_
  intro w3 h3 K hK
  obtain ⟨BS, h23, sS⟩ := box1 w2 [.int .i64 0, .int .i64 0] 26 h3
  have lS2 := Below.size h2
  have hV3 := h2.trans h23
  clear h2 h3 h23
  generalize w2.heap.size = S2 at *
  have s0 := (BS 0 _ rfl).1
  have s1 := (BS 1 _ rfl).1
  have y0 := (BS 0 _ rfl).2
  have y1 := (BS 1 _ rfl).2
  go_simp
  refine hK _ _ (show Grw X v1 (putL S2 0 [.int .i64 v.x, .int .i64 v.y] w3) from Grw.putL (x1 _ lS2) _ _ _ (.of_ext hV3)) ?_
  clear hK K s0 s1 y0 y1
  refine anyK_one 10 (by kernel_rfl) ?_
  refine stepK_run rfl ?_
  intro w4 h4 K hK
  replace h4 : Ext (putL S2 0 [.int .i64 v.x, .int .i64 v.y] w3) w4 := h4
  go_simp
  refine hK _ _ ((Grw.putL (x1 _ lS2) _ _ _ (.of_ext hV3)).trans (.of_ext h4)) ?_
  clear hK K
  refine anyK_done (by kernel_rfl) ?_ 0
  intro v2 h5
  have hx : Ext v1 v2 := ((hV3.putL lS2 [.int .i64 v.x, .int .i64 v.y]).trans h4).trans h5
  have BS2 := ((BS.put [.int .i64 v.x, .int .i64 v.y] rfl).ext h4 (by rw [size_putL]; omega)).ext h5 (by have := Below.size h4; rw [size_putL] at this; omega)
  have zS2 : S2 < v2.heap.size := by have e4 := Below.size h4; have e5 := Below.size h5; rw [size_putL] at e4; omega
  replace B0 := B0.ext hx (by omega)
  replace B1 := B1.ext hx (by omega)
  replace BS1 := BS1.ext hx zS1
  replace hE := hE.trans hx
  replace hz : w.heap.size + 2 ≤ v2.heap.size := Nat.le_trans hz (Below.size hx)
  clear x0 x1 hV3 h4 h5 BS sS hx X w2 w3 w4
  clear HI
  have a0 := (BS1 0 _ rfl).1
  have a1 := (BS1 1 _ rfl).1
  have b0 := (BS2 0 _ rfl).1
  have b1 := (BS2 1 _ rfl).1
  have nn1 : (ok != ok) = false := by simp
  go_wp2_with fail
  refine (eqPair_same _ _ _).mono ?_
  rintro r w5 ⟨rfl, hw5⟩
  replace hE := hE.trans hw5
  clear hw5
  go_wp2
  go_ret
  exact ⟨rfl, hE⟩

end Go.Proofs.YtejlgcnhfomadacDoor
