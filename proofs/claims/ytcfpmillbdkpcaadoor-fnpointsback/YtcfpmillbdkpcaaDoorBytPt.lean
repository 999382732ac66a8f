/- Walks: of a curve of the program (impl.Point): parity, opposite, lift. Walks: the group of a curve of the program (impl.Point): at. Walks: a point read of bytes by the program. Walks: a point's bytes, by the program. Walks: bytes of a curve's elements (impl.Point), written and read: what is handed to answered, and the face. What the program answers: PointBytes, PointRead. -/
import Derived.Test.YtcfpmillbdkpcaaDoorGrpPt
import Derived.Test.YtcfpmillbdkpcaaDoorTabs
import Derived.Test.YtcfpmillbdkpcaaDoorCurveRS
import Derived.Test.YtcfpmillbdkpcaaDoorGroPt
import Derived.Test.YtcfpmillbdkpcaaDoorByBase
import Derived.Test.YtcfpmillbdkpcaaDoorFaceB
import Derived.Test.YtcfpmillbdkpcaaDoorFacePt
namespace Go.Proofs.YtcfpmillbdkpcaaDoor
set_option linter.unusedVariables false
open Go.RowKit

set_option linter.unusedSimpArgs false

theorem parityPt (a : Pt) (h0 : 0 ≤ a.y) (w : World) : Calls Tryd.prog 84 #[.agg #[.int .i64 a.x, .int .i64 a.y, .bool a.far]] w fun e w' => e = .returned (.int .i64 (a.y % 2)) ∧ Ext w w' := by
  go_enter Tryd.func84, Tryd.ntmps84
  go_wp2
  go_ret
  exact ⟨rfl, Ext.alloc _ _⟩

theorem oppPt {P A B N : Int} (gx gy : Int) (h : CvNum P A B N) {n v : Int} (v0 : 0 ≤ v) (v1 : v < P) (w : World) : Calls Tryd.prog 89 #[.agg #[.int .i64 P, .int .i64 A, .int .i64 B, .int .i64 N, .int .i64 gx, .int .i64 gy], .agg #[.int .i64 n, .int .i64 v, .bool false]] w fun e w' => e = .returned (.agg #[.int .i64 n, .int .i64 ((-v) % P), .bool false]) ∧ Ext w w' := by
  have h5 := h.p5; have hM := h.pM
  have := opposite_any P.toNat A B N gx gy ⟨n, v, false⟩ w (by omega) (by omega) v0 (by simp only; omega)
  rw [show ((P.toNat : Nat) : Int) = P by omega] at this
  exact this

set_option maxHeartbeats 800000 in
theorem liftPt_out {P A B N : Int} (gx gy : Int) (h : CvNum P A B N) {n : Int} (hn : ¬ (0 ≤ n ∧ n < P)) (w : World) : Calls Tryd.prog 90 #[.agg #[.int .i64 P, .int .i64 A, .int .i64 B, .int .i64 N, .int .i64 gx, .int .i64 gy], .int .i64 n] w fun e w' => e = .panicked [nrE] ∧ Ext w w' := by
  have HI := hide (inField_at n P false (by simp; omega))
  clear h hn
  go_enter Tryd.func90, Tryd.ntmps90
  go_wp2_with fail
  refine (HI.out _).mono ?_
  rintro r w' ⟨rfl, rfl⟩
  go_wp2_with fail
  refine (want_no _).mono ?_
  rintro r w'' ⟨rfl, rfl⟩
  exact ⟨rfl, rfl, (Ext.alloc _ _).trans (Ext.alloc _ _)⟩

set_option maxHeartbeats 1600000 in
set_option maxRecDepth 100000 in
theorem liftPt_yes {P A B N : Int} (gx gy : Int) (h : CvNum P A B N) {n v : Int} (hn : 0 ≤ n ∧ n < P) (hA : RootAns (sqV P A B n) P v true) (w : World) (hT : Tab w) : Calls Tryd.prog 90 #[.agg #[.int .i64 P, .int .i64 A, .int .i64 B, .int .i64 N, .int .i64 gx, .int .i64 gy], .int .i64 n] w fun e w' => e = .returned (.agg #[.int .i64 n, .int .i64 v, .bool false]) ∧ Ext w w' := by
  have h5 := h.p5; have hM := h.pM
  have HI := hide (inField_at n P true (by simp; omega))
  obtain ⟨n0, n1⟩ := hn
  have hT := hide hT
  obtain ⟨S, hS⟩ : ∃ S, sqV P A B n = S := ⟨_, rfl⟩
  have HQ : Hid (∀ W, Calls Tryd.prog 120 #[.agg #[.int .i64 P, .int .i64 A, .int .i64 B, .int .i64 N, .int .i64 gx, .int .i64 gy], .int .i64 n] W fun r w' => r = .returned (.int .i64 S) ∧ Ext W w') := fun W => by
    have := square_any P A B N gx gy n W h.p5 h.pM h.a0 h.a1 h.b0 h.b1 n0 n1
    rwa [hS] at this
  rw [hS] at hA
  have HR : Hid (∀ W, Tab W → Calls Tryd.prog 123 #[.int .i64 S, .int .i64 P] W fun r w' => r = .returned (.int .i64 v) ∧ Ext W w') := fun W hW => wantedRoot_yes hA (by omega) (by omega) W hW
  clear hA hS h
  go_enter Tryd.func90, Tryd.ntmps90
  go_wp2_with fail
  refine (HI.out _).mono ?_
  rintro r w' ⟨rfl, rfl⟩
  go_wp2_with fail
  refine (want_yes _).mono ?_
  rintro r w' ⟨rfl, rfl⟩
  go_wp2
  obtain ⟨V, hV⟩ : ∃ V, (w.alloc (.cells #[.int .i64 P, .int .i64 A, .int .i64 B, .int .i64 N, .int .i64 gx, .int .i64 gy] 25)).alloc (.cells #[.int .i64 0, .int .i64 0, .bool false] 27) = V := ⟨_, rfl⟩
  obtain ⟨B1, B2, hE, hz⟩ := box2 w [.int .i64 P, .int .i64 A, .int .i64 B, .int .i64 N, .int .i64 gx, .int .i64 gy] [.int .i64 0, .int .i64 0, .bool false] 25 27 (hV ▸ Ext.refl _ : Ext ((w.alloc (.cells #[.int .i64 P, .int .i64 A, .int .i64 B, .int .i64 N, .int .i64 gx, .int .i64 gy] 25)).alloc (.cells #[.int .i64 0, .int .i64 0, .bool false] 27)) V)
  simp only [hV]
  clear hV
  obtain ⟨X, hX⟩ : ∃ X : Nat → Prop, X = fun k => w.heap.size + 1 ≤ k := ⟨_, rfl⟩
  have x0 : ∀ k, k < w.heap.size + 1 → ¬ X k := fun k h => by rw [hX]; simp; omega
  have xC : X (w.heap.size + 1) := by rw [hX]; exact Nat.le_refl _
  clear hX
  have t1 : ¬ X 1 := x0 1 (by have := hT.out.one; omega)
  have HT := hide (hT.out.ext hE)
  clear hT
  have k0 := cell_reC (B1 0 _ rfl).1 (x0 _ (by first | omega | (simp only; omega)))
  have k1 := cell_reC (B1 1 _ rfl).1 (x0 _ (by first | omega | (simp only; omega)))
  have k2 := cell_reC (B1 2 _ rfl).1 (x0 _ (by first | omega | (simp only; omega)))
  have k3 := cell_reC (B1 3 _ rfl).1 (x0 _ (by first | omega | (simp only; omega)))
  have k4 := cell_reC (B1 4 _ rfl).1 (x0 _ (by first | omega | (simp only; omega)))
  have k5 := cell_reC (B1 5 _ rfl).1 (x0 _ (by first | omega | (simp only; omega)))
  refine anyK_begin X 9 rfl (by kernel_rfl) ?_
  refine anyK_take 0 8 1 rfl (by decide) (by kernel_rfl) (fun _ _ d _ _ h => by cases d <;> exact h) ?_
  repeat (refine headC_step (fun K hK => ?_); go_simp; first | (refine hK _ ?_; clear hK K) | (apply Exists.intro; refine ⟨fun _ => ?_, hK _ ?_⟩; (first | (go_at_call 120; exact Calls.re_of (HQ.out _)) | (go_at_call 123; exact Calls.re_of (HR.out _ (HT.out.reC t1 _)))); clear hK K))
  refine headC_nil ?_
  clear k0 k1 k2 k3 k4 k5
  refine anyK_one 8 (by kernel_rfl) ?_
  refine stepK_run rfl ?_
  intro w2 h2 K hK
  have BZ := B2.ext h2 (by omega)
  have d0 := (BZ 0 _ rfl).1
  have d1 := (BZ 1 _ rfl).1
  have d2 := (BZ 2 _ rfl).1
  have z0 := (BZ 0 _ rfl).2
  have z1 := (BZ 1 _ rfl).2
  have z2 := (BZ 2 _ rfl).2
  go_simp
  refine hK _ _ (show Grw X V (putL (w.heap.size + 1) 0 [.int .i64 n, .int .i64 v, .bool false] w2) from Grw.putL xC _ _ _ (.of_ext h2)) ?_
  clear hK K d0 d1 d2 z0 z1 z2
  refine anyK_done (by kernel_rfl) ?_ 0
  intro w3 h3
  replace h3 : Ext (putL (w.heap.size + 1) 0 [.int .i64 n, .int .i64 v, .bool false] w2) w3 := h3
  have BW := (BZ.put [.int .i64 n, .int .i64 v, .bool false] rfl).ext h3 (by rw [size_putL]; have := Below.size h2; omega)
  have hF : Ext w w3 := ((hE.trans h2).putL (by omega) [.int .i64 n, .int .i64 v, .bool false]).trans h3
  clear h2 h3 BZ
  have q0 := (BW 0 _ rfl).1
  have q1 := (BW 1 _ rfl).1
  have q2 := (BW 2 _ rfl).1
  go_wp2
  refine bodyPost_ret (v := .agg #[.int .i64 n, .int .i64 v, .bool false]) (by simp [results, Tryd.results90, go_sem, q0, q1, q2]) rfl ⟨rfl, hF⟩

set_option maxHeartbeats 1600000 in
set_option maxRecDepth 100000 in
theorem liftPt_none {P A B N : Int} (gx gy : Int) (h : CvNum P A B N) {n : Int} (hn : 0 ≤ n ∧ n < P) (hA : RootAns (sqV P A B n) P 0 false) (w : World) (hT : Tab w) : Calls Tryd.prog 90 #[.agg #[.int .i64 P, .int .i64 A, .int .i64 B, .int .i64 N, .int .i64 gx, .int .i64 gy], .int .i64 n] w fun e w' => e = .panicked [nrE] ∧ Ext w w' := by
  have h5 := h.p5; have hM := h.pM
  have HI := hide (inField_at n P true (by simp; omega))
  obtain ⟨n0, n1⟩ := hn
  have hT := hide hT
  obtain ⟨S, hS⟩ : ∃ S, sqV P A B n = S := ⟨_, rfl⟩
  have HQ : Hid (∀ W, Calls Tryd.prog 120 #[.agg #[.int .i64 P, .int .i64 A, .int .i64 B, .int .i64 N, .int .i64 gx, .int .i64 gy], .int .i64 n] W fun r w' => r = .returned (.int .i64 S) ∧ Ext W w') := fun W => by
    have := square_any P A B N gx gy n W h.p5 h.pM h.a0 h.a1 h.b0 h.b1 n0 n1
    rwa [hS] at this
  rw [hS] at hA
  have HR : Hid (∀ W, Tab W → Calls Tryd.prog 123 #[.int .i64 S, .int .i64 P] W fun r w' => r = .panicked [nrE] ∧ Ext W w') := fun W hW => wantedRoot_no hA (by omega) (by omega) W hW
  clear hA hS h
  go_enter Tryd.func90, Tryd.ntmps90
  go_wp2_with fail
  refine (HI.out _).mono ?_
  rintro r w' ⟨rfl, rfl⟩
  go_wp2_with fail
  refine (want_yes _).mono ?_
  rintro r w' ⟨rfl, rfl⟩
  go_wp2
  obtain ⟨V, hV⟩ : ∃ V, (w.alloc (.cells #[.int .i64 P, .int .i64 A, .int .i64 B, .int .i64 N, .int .i64 gx, .int .i64 gy] 25)).alloc (.cells #[.int .i64 0, .int .i64 0, .bool false] 27) = V := ⟨_, rfl⟩
  obtain ⟨B1, B2, hE, hz⟩ := box2 w [.int .i64 P, .int .i64 A, .int .i64 B, .int .i64 N, .int .i64 gx, .int .i64 gy] [.int .i64 0, .int .i64 0, .bool false] 25 27 (hV ▸ Ext.refl _ : Ext ((w.alloc (.cells #[.int .i64 P, .int .i64 A, .int .i64 B, .int .i64 N, .int .i64 gx, .int .i64 gy] 25)).alloc (.cells #[.int .i64 0, .int .i64 0, .bool false] 27)) V)
  simp only [hV]
  clear hV
  obtain ⟨X, hX⟩ : ∃ X : Nat → Prop, X = fun k => w.heap.size + 1 ≤ k := ⟨_, rfl⟩
  have x0 : ∀ k, k < w.heap.size + 1 → ¬ X k := fun k h => by rw [hX]; simp; omega
  have xC : X (w.heap.size + 1) := by rw [hX]; exact Nat.le_refl _
  clear hX
  have t1 : ¬ X 1 := x0 1 (by have := hT.out.one; omega)
  have HT := hide (hT.out.ext hE)
  clear hT
  have k0 := cell_reC (B1 0 _ rfl).1 (x0 _ (by first | omega | (simp only; omega)))
  have k1 := cell_reC (B1 1 _ rfl).1 (x0 _ (by first | omega | (simp only; omega)))
  have k2 := cell_reC (B1 2 _ rfl).1 (x0 _ (by first | omega | (simp only; omega)))
  have k3 := cell_reC (B1 3 _ rfl).1 (x0 _ (by first | omega | (simp only; omega)))
  have k4 := cell_reC (B1 4 _ rfl).1 (x0 _ (by first | omega | (simp only; omega)))
  have k5 := cell_reC (B1 5 _ rfl).1 (x0 _ (by first | omega | (simp only; omega)))
  refine anyK_begin X 9 rfl (by kernel_rfl) ?_
  refine anyK_take 0 6 3 rfl (by decide) (by kernel_rfl) (fun _ _ d _ _ h => by cases d <;> exact h) ?_
  repeat (refine headC_step (fun K hK => ?_); go_simp; first | (refine hK _ ?_; clear hK K) | (apply Exists.intro; refine ⟨fun _ => ?_, hK _ ?_⟩; (first | (go_at_call 120; exact Calls.re_of (HQ.out _))); clear hK K))
  refine headC_nil ?_
  clear k0 k1 k2 k3 k4 k5
  refine anyK_one 6 (by kernel_rfl) ?_
  refine stepK_run rfl ?_
  intro w2 h2 K hK
  go_simp
  refine (HR.out _ (HT.out.ext h2)).mono ?_
  rintro e w3 ⟨rfl, h3⟩
  exact ⟨rfl, rfl, (hE.trans h2).trans h3⟩

set_option linter.unusedSimpArgs false

set_option maxHeartbeats 3200000 in
set_option maxRecDepth 100000 in
theorem atPt_noL (P A B N gx gy : Int) (n t : Int)  (hL : Hid (∀ W : World, Tab W → Calls Tryd.prog 90 #[.agg #[.int .i64 P, .int .i64 A, .int .i64 B, .int .i64 N, .int .i64 gx, .int .i64 gy], .int .i64 n] W fun e w' => e = .panicked [nrE] ∧ Ext W w')) (w : World) (hT : Tab w) :
    Calls Tryd.prog 93 #[.agg #[.int .i64 0, .int .i64 0, .bool true, .int .i64 gx, .int .i64 gy, .bool false, .func (.func 87) #[.agg #[.int .i64 P, .int .i64 A, .int .i64 B, .int .i64 N, .int .i64 gx, .int .i64 gy]] #[], .func (.func 88) #[.agg #[.int .i64 P, .int .i64 A, .int .i64 B, .int .i64 N, .int .i64 gx, .int .i64 gy]] #[], .func (.func 89) #[.agg #[.int .i64 P, .int .i64 A, .int .i64 B, .int .i64 N, .int .i64 gx, .int .i64 gy]] #[], .func (.func 90) #[.agg #[.int .i64 P, .int .i64 A, .int .i64 B, .int .i64 N, .int .i64 gx, .int .i64 gy]] #[], .func (.func 84) #[] #[]], .int .i64 n, .int .i64 t] w fun e w' => e = .panicked [nrE] ∧ Ext w w' := by
  have hT := hide hT
  go_enter Tryd.func93, Tryd.ntmps93
  go_wp2_with fail
  refine (hL.out _ (hT.out.ext ((Ext.alloc _ _).trans (Ext.alloc _ _)))).mono ?_
  rintro e w1 ⟨rfl, hw1⟩
  exact ⟨rfl, rfl, ((Ext.alloc _ _).trans (Ext.alloc _ _)).trans hw1⟩

set_option maxHeartbeats 3200000 in
set_option maxRecDepth 100000 in
theorem atPt_one (P A B N gx gy : Int) (n t : Int) (a : Pt) (hL : Hid (∀ W : World, Tab W → Calls Tryd.prog 90 #[.agg #[.int .i64 P, .int .i64 A, .int .i64 B, .int .i64 N, .int .i64 gx, .int .i64 gy], .int .i64 n] W fun e w' => e = .returned (.agg #[.int .i64 a.x, .int .i64 a.y, .bool a.far]) ∧ Ext W w')) (hP : Hid (∀ W : World, Calls Tryd.prog 84 #[.agg #[.int .i64 a.x, .int .i64 a.y, .bool a.far]] W fun e w' => e = .returned (.int .i64 t) ∧ Ext W w')) (w : World) (hT : Tab w) :
    Calls Tryd.prog 93 #[.agg #[.int .i64 0, .int .i64 0, .bool true, .int .i64 gx, .int .i64 gy, .bool false, .func (.func 87) #[.agg #[.int .i64 P, .int .i64 A, .int .i64 B, .int .i64 N, .int .i64 gx, .int .i64 gy]] #[], .func (.func 88) #[.agg #[.int .i64 P, .int .i64 A, .int .i64 B, .int .i64 N, .int .i64 gx, .int .i64 gy]] #[], .func (.func 89) #[.agg #[.int .i64 P, .int .i64 A, .int .i64 B, .int .i64 N, .int .i64 gx, .int .i64 gy]] #[], .func (.func 90) #[.agg #[.int .i64 P, .int .i64 A, .int .i64 B, .int .i64 N, .int .i64 gx, .int .i64 gy]] #[], .func (.func 84) #[] #[]], .int .i64 n, .int .i64 t] w fun e w' => e = .returned (.agg #[.int .i64 a.x, .int .i64 a.y, .bool a.far]) ∧ Ext w w' := by
  have hT := hide hT
  go_enter Tryd.func93, Tryd.ntmps93
  go_wp2_with fail
  refine (hL.out _ (hT.out.ext ((Ext.alloc _ _).trans (Ext.alloc _ _)))).mono ?_
  rintro e w1 ⟨rfl, hw1⟩
  obtain ⟨B1, B2, hE, hz⟩ := box2 w [.int .i64 0, .int .i64 0, .bool true, .int .i64 gx, .int .i64 gy, .bool false, .func (.func 87) #[.agg #[.int .i64 P, .int .i64 A, .int .i64 B, .int .i64 N, .int .i64 gx, .int .i64 gy]] #[], .func (.func 88) #[.agg #[.int .i64 P, .int .i64 A, .int .i64 B, .int .i64 N, .int .i64 gx, .int .i64 gy]] #[], .func (.func 89) #[.agg #[.int .i64 P, .int .i64 A, .int .i64 B, .int .i64 N, .int .i64 gx, .int .i64 gy]] #[], .func (.func 90) #[.agg #[.int .i64 P, .int .i64 A, .int .i64 B, .int .i64 N, .int .i64 gx, .int .i64 gy]] #[], .func (.func 84) #[] #[]] [.int .i64 0, .int .i64 0, .bool false] 82 27 hw1
  clear hw1 hL hT
  have E2 := Ext.alloc w1 (.cells #[.int .i64 a.x, .int .i64 a.y, .bool a.far] 27)
  have C1 := B1.ext E2 (by omega)
  have C2 := B2.ext E2 (by omega)
  have T2 : Blk (w1.alloc (.cells #[.int .i64 a.x, .int .i64 a.y, .bool a.far] 27)) w1.heap.size [.int .i64 a.x, .int .i64 a.y, .bool a.far] := Blk.alloc w1 [.int .i64 a.x, .int .i64 a.y, .bool a.far] 27
  have hE2 := hE.trans E2
  clear B1 B2 hE E2
  have g0 := (C1 0 _ rfl).1
  have g1 := (C1 1 _ rfl).1
  have g2 := (C1 2 _ rfl).1
  have g3 := (C1 3 _ rfl).1
  have g4 := (C1 4 _ rfl).1
  have g5 := (C1 5 _ rfl).1
  have g6 := (C1 6 _ rfl).1
  have g7 := (C1 7 _ rfl).1
  have g8 := (C1 8 _ rfl).1
  have g9 := (C1 9 _ rfl).1
  have g10 := (C1 10 _ rfl).1
  have s0 := (T2 0 _ rfl).1
  have s1 := (T2 1 _ rfl).1
  have s2 := (T2 2 _ rfl).1
  go_wp2_with fail
  refine (hP.out _).mono ?_
  rintro e w2 ⟨rfl, hw2⟩
  replace C1 := C1.ext hw2 (by simp; omega)
  replace C2 := C2.ext hw2 (by simp; omega)
  replace T2 := T2.ext hw2 (by simp)
  replace hE2 := hE2.trans hw2
  have hS : w1.heap.size < w2.heap.size := by have := Below.size hw2; simp at this; omega
  clear hw2 g0 g1 g2 g3 g4 g5 g6 g7 g8 g9 g10 s0 s1 s2
  generalize w1.heap.size = S at *
  have g0 := (C1 0 _ rfl).1
  have g1 := (C1 1 _ rfl).1
  have g2 := (C1 2 _ rfl).1
  have g3 := (C1 3 _ rfl).1
  have g4 := (C1 4 _ rfl).1
  have g5 := (C1 5 _ rfl).1
  have g6 := (C1 6 _ rfl).1
  have g7 := (C1 7 _ rfl).1
  have g8 := (C1 8 _ rfl).1
  have g9 := (C1 9 _ rfl).1
  have g10 := (C1 10 _ rfl).1
  have s0 := (T2 0 _ rfl).1
  have s1 := (T2 1 _ rfl).1
  have s2 := (T2 2 _ rfl).1
  go_wp2_with fail
  refine (hP.out _).mono ?_
  rintro e w3 ⟨rfl, hw3⟩
  replace C2 := C2.ext hw3 (by omega)
  replace T2 := T2.ext hw3 hS
  replace hE2 := hE2.trans hw3
  clear hw3 g0 g1 g2 g3 g4 g5 g6 g7 g8 g9 g10 s0 s1 s2 C1
  go_wp2_with fail
  refine (want_yes _).mono ?_
  rintro e w4 ⟨rfl, rfl⟩
  have s0 := (T2 0 _ rfl).1
  have s1 := (T2 1 _ rfl).1
  have s2 := (T2 2 _ rfl).1
  have d0 := (C2 0 _ rfl).1
  have d1 := (C2 1 _ rfl).1
  have d2 := (C2 2 _ rfl).1
  have z0 := (C2 0 _ rfl).2
  have z1 := (C2 1 _ rfl).2
  have z2 := (C2 2 _ rfl).2
  go_wp2
  obtain ⟨W, hW⟩ : ∃ W, putL (w.heap.size + 1) 0 [.int .i64 a.x, .int .i64 a.y, .bool a.far] w4 = W := ⟨_, rfl⟩
  have BW := Blk.put C2 [.int .i64 a.x, .int .i64 a.y, .bool a.far] rfl
  rw [hW] at BW
  have hF : Ext w W := hW ▸ hE2.putL (by omega) _
  simp only [putL, Nat.zero_add, Nat.reduceAdd] at hW
  simp only [hW]
  have q0 := (BW 0 _ rfl).1
  have q1 := (BW 1 _ rfl).1
  have q2 := (BW 2 _ rfl).1
  refine bodyPost_ret (v := .agg #[.int .i64 a.x, .int .i64 a.y, .bool a.far]) (by simp [results, Tryd.results93, go_sem, q0, q1, q2]) rfl ⟨rfl, hF⟩

set_option maxHeartbeats 3200000 in
set_option maxRecDepth 100000 in
theorem atPt_two (P A B N gx gy : Int) (n t : Int) (pa : Int) (a b : Pt) (hL : Hid (∀ W : World, Tab W → Calls Tryd.prog 90 #[.agg #[.int .i64 P, .int .i64 A, .int .i64 B, .int .i64 N, .int .i64 gx, .int .i64 gy], .int .i64 n] W fun e w' => e = .returned (.agg #[.int .i64 a.x, .int .i64 a.y, .bool a.far]) ∧ Ext W w')) (hP : Hid (∀ W : World, Calls Tryd.prog 84 #[.agg #[.int .i64 a.x, .int .i64 a.y, .bool a.far]] W fun e w' => e = .returned (.int .i64 pa) ∧ Ext W w')) (hne : pa ≠ t) (hO : Hid (∀ W : World, Calls Tryd.prog 89 #[.agg #[.int .i64 P, .int .i64 A, .int .i64 B, .int .i64 N, .int .i64 gx, .int .i64 gy], .agg #[.int .i64 a.x, .int .i64 a.y, .bool a.far]] W fun e w' => e = .returned (.agg #[.int .i64 b.x, .int .i64 b.y, .bool b.far]) ∧ Ext W w')) (hQ : Hid (∀ W : World, Calls Tryd.prog 84 #[.agg #[.int .i64 b.x, .int .i64 b.y, .bool b.far]] W fun e w' => e = .returned (.int .i64 t) ∧ Ext W w')) (w : World) (hT : Tab w) :
    Calls Tryd.prog 93 #[.agg #[.int .i64 0, .int .i64 0, .bool true, .int .i64 gx, .int .i64 gy, .bool false, .func (.func 87) #[.agg #[.int .i64 P, .int .i64 A, .int .i64 B, .int .i64 N, .int .i64 gx, .int .i64 gy]] #[], .func (.func 88) #[.agg #[.int .i64 P, .int .i64 A, .int .i64 B, .int .i64 N, .int .i64 gx, .int .i64 gy]] #[], .func (.func 89) #[.agg #[.int .i64 P, .int .i64 A, .int .i64 B, .int .i64 N, .int .i64 gx, .int .i64 gy]] #[], .func (.func 90) #[.agg #[.int .i64 P, .int .i64 A, .int .i64 B, .int .i64 N, .int .i64 gx, .int .i64 gy]] #[], .func (.func 84) #[] #[]], .int .i64 n, .int .i64 t] w fun e w' => e = .returned (.agg #[.int .i64 b.x, .int .i64 b.y, .bool b.far]) ∧ Ext w w' := by
  have hT := hide hT
  go_enter Tryd.func93, Tryd.ntmps93
  go_wp2_with fail
  refine (hL.out _ (hT.out.ext ((Ext.alloc _ _).trans (Ext.alloc _ _)))).mono ?_
  rintro e w1 ⟨rfl, hw1⟩
  obtain ⟨B1, B2, hE, hz⟩ := box2 w [.int .i64 0, .int .i64 0, .bool true, .int .i64 gx, .int .i64 gy, .bool false, .func (.func 87) #[.agg #[.int .i64 P, .int .i64 A, .int .i64 B, .int .i64 N, .int .i64 gx, .int .i64 gy]] #[], .func (.func 88) #[.agg #[.int .i64 P, .int .i64 A, .int .i64 B, .int .i64 N, .int .i64 gx, .int .i64 gy]] #[], .func (.func 89) #[.agg #[.int .i64 P, .int .i64 A, .int .i64 B, .int .i64 N, .int .i64 gx, .int .i64 gy]] #[], .func (.func 90) #[.agg #[.int .i64 P, .int .i64 A, .int .i64 B, .int .i64 N, .int .i64 gx, .int .i64 gy]] #[], .func (.func 84) #[] #[]] [.int .i64 0, .int .i64 0, .bool false] 82 27 hw1
  clear hw1 hL hT
  have E2 := Ext.alloc w1 (.cells #[.int .i64 a.x, .int .i64 a.y, .bool a.far] 27)
  have C1 := B1.ext E2 (by omega)
  have C2 := B2.ext E2 (by omega)
  have T2 : Blk (w1.alloc (.cells #[.int .i64 a.x, .int .i64 a.y, .bool a.far] 27)) w1.heap.size [.int .i64 a.x, .int .i64 a.y, .bool a.far] := Blk.alloc w1 [.int .i64 a.x, .int .i64 a.y, .bool a.far] 27
  have hE2 := hE.trans E2
  clear B1 B2 hE E2
  have g0 := (C1 0 _ rfl).1
  have g1 := (C1 1 _ rfl).1
  have g2 := (C1 2 _ rfl).1
  have g3 := (C1 3 _ rfl).1
  have g4 := (C1 4 _ rfl).1
  have g5 := (C1 5 _ rfl).1
  have g6 := (C1 6 _ rfl).1
  have g7 := (C1 7 _ rfl).1
  have g8 := (C1 8 _ rfl).1
  have g9 := (C1 9 _ rfl).1
  have g10 := (C1 10 _ rfl).1
  have s0 := (T2 0 _ rfl).1
  have s1 := (T2 1 _ rfl).1
  have s2 := (T2 2 _ rfl).1
  go_wp2_with fail
  refine (hP.out _).mono ?_
  rintro e w2 ⟨rfl, hw2⟩
  replace C1 := C1.ext hw2 (by simp; omega)
  replace C2 := C2.ext hw2 (by simp; omega)
  replace T2 := T2.ext hw2 (by simp)
  replace hE2 := hE2.trans hw2
  have hS : w1.heap.size < w2.heap.size := by have := Below.size hw2; simp at this; omega
  clear hw2 g0 g1 g2 g3 g4 g5 g6 g7 g8 g9 g10 s0 s1 s2
  generalize w1.heap.size = S at *
  have cb : (pa != t) = true := by simpa using hne
  have g0 := (C1 0 _ rfl).1
  have g1 := (C1 1 _ rfl).1
  have g2 := (C1 2 _ rfl).1
  have g3 := (C1 3 _ rfl).1
  have g4 := (C1 4 _ rfl).1
  have g5 := (C1 5 _ rfl).1
  have g6 := (C1 6 _ rfl).1
  have g7 := (C1 7 _ rfl).1
  have g8 := (C1 8 _ rfl).1
  have g9 := (C1 9 _ rfl).1
  have g10 := (C1 10 _ rfl).1
  have s0 := (T2 0 _ rfl).1
  have s1 := (T2 1 _ rfl).1
  have s2 := (T2 2 _ rfl).1
  go_wp2_with fail
  refine (hO.out _).mono ?_
  rintro e w3 ⟨rfl, hw3⟩
  replace C1 := C1.ext hw3 (by omega)
  replace C2 := C2.ext hw3 (by omega)
  replace T2 := T2.ext hw3 hS
  replace hE2 := hE2.trans hw3
  have hS3 : S < w3.heap.size := by have := Below.size hw3; omega
  clear hw3 g0 g1 g2 g3 g4 g5 g6 g7 g8 g9 g10 s0 s1 s2 hP hO cb hS
  have ne1 : ¬ S = w.heap.size := by omega
  have ne2 : ¬ w.heap.size = S := by omega
  have g0 := (C1 0 _ rfl).1
  have g1 := (C1 1 _ rfl).1
  have g2 := (C1 2 _ rfl).1
  have g3 := (C1 3 _ rfl).1
  have g4 := (C1 4 _ rfl).1
  have g5 := (C1 5 _ rfl).1
  have g6 := (C1 6 _ rfl).1
  have g7 := (C1 7 _ rfl).1
  have g8 := (C1 8 _ rfl).1
  have g9 := (C1 9 _ rfl).1
  have g10 := (C1 10 _ rfl).1
  have s0 := (T2 0 _ rfl).1
  have s1 := (T2 1 _ rfl).1
  have s2 := (T2 2 _ rfl).1
  have y0 := (T2 0 _ rfl).2
  have y1 := (T2 1 _ rfl).2
  have y2 := (T2 2 _ rfl).2
  go_wp2_with fail
  clear g0 g1 g2 g3 g4 g5 g6 g7 g8 g9 g10 s0 s1 s2 y0 y1 y2 C1 ne1 ne2
  obtain ⟨W, hW⟩ : ∃ W, putL S 0 [.int .i64 b.x, .int .i64 b.y, .bool b.far] w3 = W := ⟨_, rfl⟩
  have TW := Blk.put T2 [.int .i64 b.x, .int .i64 b.y, .bool b.far] rfl
  rw [hW] at TW
  have CW := C2.put_other (C := S) [.int .i64 b.x, .int .i64 b.y, .bool b.far] (by omega)
  rw [hW] at CW
  have hF : Ext w W := hW ▸ hE2.putL (by omega) _
  have hS4 : S < W.heap.size := by rw [← hW, size_putL]; exact hS3
  simp only [putL, Nat.zero_add, Nat.reduceAdd] at hW
  simp only [hW]
  clear hW T2 C2 hE2 hS3
  refine (hQ.out _).mono ?_
  rintro e w4 ⟨rfl, hw4⟩
  replace CW := CW.ext hw4 (by omega)
  replace TW := TW.ext hw4 hS4
  replace hF := hF.trans hw4
  clear hw4
  go_wp2_with fail
  refine (want_yes _).mono ?_
  rintro e w5 ⟨rfl, rfl⟩
  have s0 := (TW 0 _ rfl).1
  have s1 := (TW 1 _ rfl).1
  have s2 := (TW 2 _ rfl).1
  have d0 := (CW 0 _ rfl).1
  have d1 := (CW 1 _ rfl).1
  have d2 := (CW 2 _ rfl).1
  have z0 := (CW 0 _ rfl).2
  have z1 := (CW 1 _ rfl).2
  have z2 := (CW 2 _ rfl).2
  go_wp2
  obtain ⟨W, hW⟩ : ∃ W, putL (w.heap.size + 1) 0 [.int .i64 b.x, .int .i64 b.y, .bool b.far] w5 = W := ⟨_, rfl⟩
  have BW := Blk.put CW [.int .i64 b.x, .int .i64 b.y, .bool b.far] rfl
  rw [hW] at BW
  have hF' : Ext w W := hW ▸ hF.putL (by omega) _
  simp only [putL, Nat.zero_add, Nat.reduceAdd] at hW
  simp only [hW]
  have q0 := (BW 0 _ rfl).1
  have q1 := (BW 1 _ rfl).1
  have q2 := (BW 2 _ rfl).1
  refine bodyPost_ret (v := .agg #[.int .i64 b.x, .int .i64 b.y, .bool b.far]) (by simp [results, Tryd.results93, go_sem, q0, q1, q2]) rfl ⟨rfl, hF'⟩

set_option maxHeartbeats 3200000 in
set_option maxRecDepth 100000 in
theorem atPt_none (P A B N gx gy : Int) (n t : Int) (pa pb : Int) (a b : Pt) (hL : Hid (∀ W : World, Tab W → Calls Tryd.prog 90 #[.agg #[.int .i64 P, .int .i64 A, .int .i64 B, .int .i64 N, .int .i64 gx, .int .i64 gy], .int .i64 n] W fun e w' => e = .returned (.agg #[.int .i64 a.x, .int .i64 a.y, .bool a.far]) ∧ Ext W w')) (hP : Hid (∀ W : World, Calls Tryd.prog 84 #[.agg #[.int .i64 a.x, .int .i64 a.y, .bool a.far]] W fun e w' => e = .returned (.int .i64 pa) ∧ Ext W w')) (hne : pa ≠ t) (hO : Hid (∀ W : World, Calls Tryd.prog 89 #[.agg #[.int .i64 P, .int .i64 A, .int .i64 B, .int .i64 N, .int .i64 gx, .int .i64 gy], .agg #[.int .i64 a.x, .int .i64 a.y, .bool a.far]] W fun e w' => e = .returned (.agg #[.int .i64 b.x, .int .i64 b.y, .bool b.far]) ∧ Ext W w')) (hQ : Hid (∀ W : World, Calls Tryd.prog 84 #[.agg #[.int .i64 b.x, .int .i64 b.y, .bool b.far]] W fun e w' => e = .returned (.int .i64 pb) ∧ Ext W w')) (hnb : pb ≠ t) (w : World) (hT : Tab w) :
    Calls Tryd.prog 93 #[.agg #[.int .i64 0, .int .i64 0, .bool true, .int .i64 gx, .int .i64 gy, .bool false, .func (.func 87) #[.agg #[.int .i64 P, .int .i64 A, .int .i64 B, .int .i64 N, .int .i64 gx, .int .i64 gy]] #[], .func (.func 88) #[.agg #[.int .i64 P, .int .i64 A, .int .i64 B, .int .i64 N, .int .i64 gx, .int .i64 gy]] #[], .func (.func 89) #[.agg #[.int .i64 P, .int .i64 A, .int .i64 B, .int .i64 N, .int .i64 gx, .int .i64 gy]] #[], .func (.func 90) #[.agg #[.int .i64 P, .int .i64 A, .int .i64 B, .int .i64 N, .int .i64 gx, .int .i64 gy]] #[], .func (.func 84) #[] #[]], .int .i64 n, .int .i64 t] w fun e w' => e = .panicked [nrE] ∧ Ext w w' := by
  have hT := hide hT
  go_enter Tryd.func93, Tryd.ntmps93
  go_wp2_with fail
  refine (hL.out _ (hT.out.ext ((Ext.alloc _ _).trans (Ext.alloc _ _)))).mono ?_
  rintro e w1 ⟨rfl, hw1⟩
  obtain ⟨B1, B2, hE, hz⟩ := box2 w [.int .i64 0, .int .i64 0, .bool true, .int .i64 gx, .int .i64 gy, .bool false, .func (.func 87) #[.agg #[.int .i64 P, .int .i64 A, .int .i64 B, .int .i64 N, .int .i64 gx, .int .i64 gy]] #[], .func (.func 88) #[.agg #[.int .i64 P, .int .i64 A, .int .i64 B, .int .i64 N, .int .i64 gx, .int .i64 gy]] #[], .func (.func 89) #[.agg #[.int .i64 P, .int .i64 A, .int .i64 B, .int .i64 N, .int .i64 gx, .int .i64 gy]] #[], .func (.func 90) #[.agg #[.int .i64 P, .int .i64 A, .int .i64 B, .int .i64 N, .int .i64 gx, .int .i64 gy]] #[], .func (.func 84) #[] #[]] [.int .i64 0, .int .i64 0, .bool false] 82 27 hw1
  clear hw1 hL hT
  have E2 := Ext.alloc w1 (.cells #[.int .i64 a.x, .int .i64 a.y, .bool a.far] 27)
  have C1 := B1.ext E2 (by omega)
  have C2 := B2.ext E2 (by omega)
  have T2 : Blk (w1.alloc (.cells #[.int .i64 a.x, .int .i64 a.y, .bool a.far] 27)) w1.heap.size [.int .i64 a.x, .int .i64 a.y, .bool a.far] := Blk.alloc w1 [.int .i64 a.x, .int .i64 a.y, .bool a.far] 27
  have hE2 := hE.trans E2
  clear B1 B2 hE E2
  have g0 := (C1 0 _ rfl).1
  have g1 := (C1 1 _ rfl).1
  have g2 := (C1 2 _ rfl).1
  have g3 := (C1 3 _ rfl).1
  have g4 := (C1 4 _ rfl).1
  have g5 := (C1 5 _ rfl).1
  have g6 := (C1 6 _ rfl).1
  have g7 := (C1 7 _ rfl).1
  have g8 := (C1 8 _ rfl).1
  have g9 := (C1 9 _ rfl).1
  have g10 := (C1 10 _ rfl).1
  have s0 := (T2 0 _ rfl).1
  have s1 := (T2 1 _ rfl).1
  have s2 := (T2 2 _ rfl).1
  go_wp2_with fail
  refine (hP.out _).mono ?_
  rintro e w2 ⟨rfl, hw2⟩
  replace C1 := C1.ext hw2 (by simp; omega)
  replace C2 := C2.ext hw2 (by simp; omega)
  replace T2 := T2.ext hw2 (by simp)
  replace hE2 := hE2.trans hw2
  have hS : w1.heap.size < w2.heap.size := by have := Below.size hw2; simp at this; omega
  clear hw2 g0 g1 g2 g3 g4 g5 g6 g7 g8 g9 g10 s0 s1 s2
  generalize w1.heap.size = S at *
  have cb : (pa != t) = true := by simpa using hne
  have g0 := (C1 0 _ rfl).1
  have g1 := (C1 1 _ rfl).1
  have g2 := (C1 2 _ rfl).1
  have g3 := (C1 3 _ rfl).1
  have g4 := (C1 4 _ rfl).1
  have g5 := (C1 5 _ rfl).1
  have g6 := (C1 6 _ rfl).1
  have g7 := (C1 7 _ rfl).1
  have g8 := (C1 8 _ rfl).1
  have g9 := (C1 9 _ rfl).1
  have g10 := (C1 10 _ rfl).1
  have s0 := (T2 0 _ rfl).1
  have s1 := (T2 1 _ rfl).1
  have s2 := (T2 2 _ rfl).1
  go_wp2_with fail
  refine (hO.out _).mono ?_
  rintro e w3 ⟨rfl, hw3⟩
  replace C1 := C1.ext hw3 (by omega)
  replace C2 := C2.ext hw3 (by omega)
  replace T2 := T2.ext hw3 hS
  replace hE2 := hE2.trans hw3
  have hS3 : S < w3.heap.size := by have := Below.size hw3; omega
  clear hw3 g0 g1 g2 g3 g4 g5 g6 g7 g8 g9 g10 s0 s1 s2 hP hO cb hS
  have ne1 : ¬ S = w.heap.size := by omega
  have ne2 : ¬ w.heap.size = S := by omega
  have g0 := (C1 0 _ rfl).1
  have g1 := (C1 1 _ rfl).1
  have g2 := (C1 2 _ rfl).1
  have g3 := (C1 3 _ rfl).1
  have g4 := (C1 4 _ rfl).1
  have g5 := (C1 5 _ rfl).1
  have g6 := (C1 6 _ rfl).1
  have g7 := (C1 7 _ rfl).1
  have g8 := (C1 8 _ rfl).1
  have g9 := (C1 9 _ rfl).1
  have g10 := (C1 10 _ rfl).1
  have s0 := (T2 0 _ rfl).1
  have s1 := (T2 1 _ rfl).1
  have s2 := (T2 2 _ rfl).1
  have y0 := (T2 0 _ rfl).2
  have y1 := (T2 1 _ rfl).2
  have y2 := (T2 2 _ rfl).2
  go_wp2_with fail
  clear g0 g1 g2 g3 g4 g5 g6 g7 g8 g9 g10 s0 s1 s2 y0 y1 y2 C1 ne1 ne2
  obtain ⟨W, hW⟩ : ∃ W, putL S 0 [.int .i64 b.x, .int .i64 b.y, .bool b.far] w3 = W := ⟨_, rfl⟩
  have TW := Blk.put T2 [.int .i64 b.x, .int .i64 b.y, .bool b.far] rfl
  rw [hW] at TW
  have CW := C2.put_other (C := S) [.int .i64 b.x, .int .i64 b.y, .bool b.far] (by omega)
  rw [hW] at CW
  have hF : Ext w W := hW ▸ hE2.putL (by omega) _
  have hS4 : S < W.heap.size := by rw [← hW, size_putL]; exact hS3
  simp only [putL, Nat.zero_add, Nat.reduceAdd] at hW
  simp only [hW]
  clear hW T2 C2 hE2 hS3
  refine (hQ.out _).mono ?_
  rintro e w4 ⟨rfl, hw4⟩
  replace CW := CW.ext hw4 (by omega)
  replace TW := TW.ext hw4 hS4
  replace hF := hF.trans hw4
  clear hw4
  have db : (pb == t) = false := by simpa using hnb
  go_wp2_with fail
  refine (want_no _).mono ?_
  rintro e w5 ⟨rfl, rfl⟩
  exact ⟨rfl, rfl, hF⟩

set_option linter.unusedSimpArgs false

theorem BSeg.reC {X : Nat → Prop} {w : World} {a : Option Addr} {b off n : Nat} {f : Nat → Int} (h : BSeg w a b off n f) (hX : ¬ X b) (p : ReC X w) : BSeg p.val a b off n f := ⟨h.at', fun i hi => cell_reC (h.cell i hi) hX p⟩

set_option maxHeartbeats 1600000 in
set_option maxRecDepth 100000 in
theorem rdPt_nil (P A B N gx gy : Int) (a : Option Addr) (b off n cap : Nat) (f : Nat → Int) (hn : n = 0) (w : World) (hT : Tab w) (hs : BSeg w a b off n f) (hr : ∀ i, i < n → 0 ≤ f i ∧ f i ≤ 255) (hcap : n ≤ cap) :
    Calls Tryd.prog 49 #[.agg #[.int .i64 0, .int .i64 0, .bool true, .int .i64 gx, .int .i64 gy, .bool false, .func (.func 87) #[.agg #[.int .i64 P, .int .i64 A, .int .i64 B, .int .i64 N, .int .i64 gx, .int .i64 gy]] #[], .func (.func 88) #[.agg #[.int .i64 P, .int .i64 A, .int .i64 B, .int .i64 N, .int .i64 gx, .int .i64 gy]] #[], .func (.func 89) #[.agg #[.int .i64 P, .int .i64 A, .int .i64 B, .int .i64 N, .int .i64 gx, .int .i64 gy]] #[], .func (.func 90) #[.agg #[.int .i64 P, .int .i64 A, .int .i64 B, .int .i64 N, .int .i64 gx, .int .i64 gy]] #[], .func (.func 84) #[] #[]], .slice a n cap] w fun e w' => e = .panicked [nrE] ∧ Ext w w' := by
  subst hn
  clear hs hr hcap
  go_enter Tryd.func49, Tryd.ntmps49
  go_wp2_with fail
  refine (want_no _).mono ?_
  rintro r w' ⟨rfl, rfl⟩
  exact ⟨rfl, rfl, (Ext.alloc _ _).trans (Ext.alloc _ _)⟩

set_option maxHeartbeats 1600000 in
set_option maxRecDepth 100000 in
theorem rdPt_none0 (P A B N gx gy : Int) (a : Option Addr) (b off n cap : Nat) (f : Nat → Int) (hn : 0 < n) (h0 : f 0 = 0) (hne : n ≠ 1) (w : World) (hT : Tab w) (hs : BSeg w a b off n f) (hr : ∀ i, i < n → 0 ≤ f i ∧ f i ≤ 255) (hcap : n ≤ cap) :
    Calls Tryd.prog 49 #[.agg #[.int .i64 0, .int .i64 0, .bool true, .int .i64 gx, .int .i64 gy, .bool false, .func (.func 87) #[.agg #[.int .i64 P, .int .i64 A, .int .i64 B, .int .i64 N, .int .i64 gx, .int .i64 gy]] #[], .func (.func 88) #[.agg #[.int .i64 P, .int .i64 A, .int .i64 B, .int .i64 N, .int .i64 gx, .int .i64 gy]] #[], .func (.func 89) #[.agg #[.int .i64 P, .int .i64 A, .int .i64 B, .int .i64 N, .int .i64 gx, .int .i64 gy]] #[], .func (.func 90) #[.agg #[.int .i64 P, .int .i64 A, .int .i64 B, .int .i64 N, .int .i64 gx, .int .i64 gy]] #[], .func (.func 84) #[] #[]], .slice a n cap] w fun e w' => e = .panicked [nrE] ∧ Ext w w' := by
  have hb := hs.lt hn
  have hpos : (0 : Int) < (n : Int) := by omega
  have nq : ((n : Int) == 1) = false := by simp; omega
  obtain rfl := hs.at' hn
  go_enter Tryd.func49, Tryd.ntmps49
  go_wp2_with fail
  refine (want_yes _).mono ?_
  rintro r w' ⟨rfl, rfl⟩
  obtain ⟨V, hV⟩ : ∃ V, (w.alloc (.cells #[.int .i64 0, .int .i64 0, .bool true, .int .i64 gx, .int .i64 gy, .bool false, .func (.func 87) #[.agg #[.int .i64 P, .int .i64 A, .int .i64 B, .int .i64 N, .int .i64 gx, .int .i64 gy]] #[], .func (.func 88) #[.agg #[.int .i64 P, .int .i64 A, .int .i64 B, .int .i64 N, .int .i64 gx, .int .i64 gy]] #[], .func (.func 89) #[.agg #[.int .i64 P, .int .i64 A, .int .i64 B, .int .i64 N, .int .i64 gx, .int .i64 gy]] #[], .func (.func 90) #[.agg #[.int .i64 P, .int .i64 A, .int .i64 B, .int .i64 N, .int .i64 gx, .int .i64 gy]] #[], .func (.func 84) #[] #[]] 82)).alloc (.cells #[.int .i64 0, .int .i64 0, .bool false] 27) = V := ⟨_, rfl⟩
  obtain ⟨B1, B2, hE, hz⟩ := box2 w [.int .i64 0, .int .i64 0, .bool true, .int .i64 gx, .int .i64 gy, .bool false, .func (.func 87) #[.agg #[.int .i64 P, .int .i64 A, .int .i64 B, .int .i64 N, .int .i64 gx, .int .i64 gy]] #[], .func (.func 88) #[.agg #[.int .i64 P, .int .i64 A, .int .i64 B, .int .i64 N, .int .i64 gx, .int .i64 gy]] #[], .func (.func 89) #[.agg #[.int .i64 P, .int .i64 A, .int .i64 B, .int .i64 N, .int .i64 gx, .int .i64 gy]] #[], .func (.func 90) #[.agg #[.int .i64 P, .int .i64 A, .int .i64 B, .int .i64 N, .int .i64 gx, .int .i64 gy]] #[], .func (.func 84) #[] #[]] [.int .i64 0, .int .i64 0, .bool false] 82 27 (hV ▸ Ext.refl _ : Ext ((w.alloc (.cells #[.int .i64 0, .int .i64 0, .bool true, .int .i64 gx, .int .i64 gy, .bool false, .func (.func 87) #[.agg #[.int .i64 P, .int .i64 A, .int .i64 B, .int .i64 N, .int .i64 gx, .int .i64 gy]] #[], .func (.func 88) #[.agg #[.int .i64 P, .int .i64 A, .int .i64 B, .int .i64 N, .int .i64 gx, .int .i64 gy]] #[], .func (.func 89) #[.agg #[.int .i64 P, .int .i64 A, .int .i64 B, .int .i64 N, .int .i64 gx, .int .i64 gy]] #[], .func (.func 90) #[.agg #[.int .i64 P, .int .i64 A, .int .i64 B, .int .i64 N, .int .i64 gx, .int .i64 gy]] #[], .func (.func 84) #[] #[]] 82)).alloc (.cells #[.int .i64 0, .int .i64 0, .bool false] 27)) V)
  simp only [hV]
  clear hV
  have hcl := (hs.of_all hE).cell 0 hn
  rw [Nat.add_zero, h0] at hcl
  clear hs hr h0 hne
  go_wp2
  exact ⟨rfl, rfl, hE⟩

set_option maxHeartbeats 1600000 in
set_option maxRecDepth 100000 in
theorem rdPt_none2 (P A B N gx gy : Int) (a : Option Addr) (b off n cap : Nat) (f : Nat → Int) (hn : 0 < n) (h0 : f 0 = 2) (hne : n ≠ 4) (w : World) (hT : Tab w) (hs : BSeg w a b off n f) (hr : ∀ i, i < n → 0 ≤ f i ∧ f i ≤ 255) (hcap : n ≤ cap) :
    Calls Tryd.prog 49 #[.agg #[.int .i64 0, .int .i64 0, .bool true, .int .i64 gx, .int .i64 gy, .bool false, .func (.func 87) #[.agg #[.int .i64 P, .int .i64 A, .int .i64 B, .int .i64 N, .int .i64 gx, .int .i64 gy]] #[], .func (.func 88) #[.agg #[.int .i64 P, .int .i64 A, .int .i64 B, .int .i64 N, .int .i64 gx, .int .i64 gy]] #[], .func (.func 89) #[.agg #[.int .i64 P, .int .i64 A, .int .i64 B, .int .i64 N, .int .i64 gx, .int .i64 gy]] #[], .func (.func 90) #[.agg #[.int .i64 P, .int .i64 A, .int .i64 B, .int .i64 N, .int .i64 gx, .int .i64 gy]] #[], .func (.func 84) #[] #[]], .slice a n cap] w fun e w' => e = .panicked [nrE] ∧ Ext w w' := by
  have hb := hs.lt hn
  have hpos : (0 : Int) < (n : Int) := by omega
  have nq : ((n : Int) == 4) = false := by simp; omega
  obtain rfl := hs.at' hn
  go_enter Tryd.func49, Tryd.ntmps49
  go_wp2_with fail
  refine (want_yes _).mono ?_
  rintro r w' ⟨rfl, rfl⟩
  obtain ⟨V, hV⟩ : ∃ V, (w.alloc (.cells #[.int .i64 0, .int .i64 0, .bool true, .int .i64 gx, .int .i64 gy, .bool false, .func (.func 87) #[.agg #[.int .i64 P, .int .i64 A, .int .i64 B, .int .i64 N, .int .i64 gx, .int .i64 gy]] #[], .func (.func 88) #[.agg #[.int .i64 P, .int .i64 A, .int .i64 B, .int .i64 N, .int .i64 gx, .int .i64 gy]] #[], .func (.func 89) #[.agg #[.int .i64 P, .int .i64 A, .int .i64 B, .int .i64 N, .int .i64 gx, .int .i64 gy]] #[], .func (.func 90) #[.agg #[.int .i64 P, .int .i64 A, .int .i64 B, .int .i64 N, .int .i64 gx, .int .i64 gy]] #[], .func (.func 84) #[] #[]] 82)).alloc (.cells #[.int .i64 0, .int .i64 0, .bool false] 27) = V := ⟨_, rfl⟩
  obtain ⟨B1, B2, hE, hz⟩ := box2 w [.int .i64 0, .int .i64 0, .bool true, .int .i64 gx, .int .i64 gy, .bool false, .func (.func 87) #[.agg #[.int .i64 P, .int .i64 A, .int .i64 B, .int .i64 N, .int .i64 gx, .int .i64 gy]] #[], .func (.func 88) #[.agg #[.int .i64 P, .int .i64 A, .int .i64 B, .int .i64 N, .int .i64 gx, .int .i64 gy]] #[], .func (.func 89) #[.agg #[.int .i64 P, .int .i64 A, .int .i64 B, .int .i64 N, .int .i64 gx, .int .i64 gy]] #[], .func (.func 90) #[.agg #[.int .i64 P, .int .i64 A, .int .i64 B, .int .i64 N, .int .i64 gx, .int .i64 gy]] #[], .func (.func 84) #[] #[]] [.int .i64 0, .int .i64 0, .bool false] 82 27 (hV ▸ Ext.refl _ : Ext ((w.alloc (.cells #[.int .i64 0, .int .i64 0, .bool true, .int .i64 gx, .int .i64 gy, .bool false, .func (.func 87) #[.agg #[.int .i64 P, .int .i64 A, .int .i64 B, .int .i64 N, .int .i64 gx, .int .i64 gy]] #[], .func (.func 88) #[.agg #[.int .i64 P, .int .i64 A, .int .i64 B, .int .i64 N, .int .i64 gx, .int .i64 gy]] #[], .func (.func 89) #[.agg #[.int .i64 P, .int .i64 A, .int .i64 B, .int .i64 N, .int .i64 gx, .int .i64 gy]] #[], .func (.func 90) #[.agg #[.int .i64 P, .int .i64 A, .int .i64 B, .int .i64 N, .int .i64 gx, .int .i64 gy]] #[], .func (.func 84) #[] #[]] 82)).alloc (.cells #[.int .i64 0, .int .i64 0, .bool false] 27)) V)
  simp only [hV]
  clear hV
  have hcl := (hs.of_all hE).cell 0 hn
  rw [Nat.add_zero, h0] at hcl
  clear hs hr h0 hne
  go_wp2
  exact ⟨rfl, rfl, hE⟩

set_option maxHeartbeats 1600000 in
set_option maxRecDepth 100000 in
theorem rdPt_none3 (P A B N gx gy : Int) (a : Option Addr) (b off n cap : Nat) (f : Nat → Int) (hn : 0 < n) (h0 : f 0 = 3) (hne : n ≠ 4) (w : World) (hT : Tab w) (hs : BSeg w a b off n f) (hr : ∀ i, i < n → 0 ≤ f i ∧ f i ≤ 255) (hcap : n ≤ cap) :
    Calls Tryd.prog 49 #[.agg #[.int .i64 0, .int .i64 0, .bool true, .int .i64 gx, .int .i64 gy, .bool false, .func (.func 87) #[.agg #[.int .i64 P, .int .i64 A, .int .i64 B, .int .i64 N, .int .i64 gx, .int .i64 gy]] #[], .func (.func 88) #[.agg #[.int .i64 P, .int .i64 A, .int .i64 B, .int .i64 N, .int .i64 gx, .int .i64 gy]] #[], .func (.func 89) #[.agg #[.int .i64 P, .int .i64 A, .int .i64 B, .int .i64 N, .int .i64 gx, .int .i64 gy]] #[], .func (.func 90) #[.agg #[.int .i64 P, .int .i64 A, .int .i64 B, .int .i64 N, .int .i64 gx, .int .i64 gy]] #[], .func (.func 84) #[] #[]], .slice a n cap] w fun e w' => e = .panicked [nrE] ∧ Ext w w' := by
  have hb := hs.lt hn
  have hpos : (0 : Int) < (n : Int) := by omega
  have nq : ((n : Int) == 4) = false := by simp; omega
  obtain rfl := hs.at' hn
  go_enter Tryd.func49, Tryd.ntmps49
  go_wp2_with fail
  refine (want_yes _).mono ?_
  rintro r w' ⟨rfl, rfl⟩
  obtain ⟨V, hV⟩ : ∃ V, (w.alloc (.cells #[.int .i64 0, .int .i64 0, .bool true, .int .i64 gx, .int .i64 gy, .bool false, .func (.func 87) #[.agg #[.int .i64 P, .int .i64 A, .int .i64 B, .int .i64 N, .int .i64 gx, .int .i64 gy]] #[], .func (.func 88) #[.agg #[.int .i64 P, .int .i64 A, .int .i64 B, .int .i64 N, .int .i64 gx, .int .i64 gy]] #[], .func (.func 89) #[.agg #[.int .i64 P, .int .i64 A, .int .i64 B, .int .i64 N, .int .i64 gx, .int .i64 gy]] #[], .func (.func 90) #[.agg #[.int .i64 P, .int .i64 A, .int .i64 B, .int .i64 N, .int .i64 gx, .int .i64 gy]] #[], .func (.func 84) #[] #[]] 82)).alloc (.cells #[.int .i64 0, .int .i64 0, .bool false] 27) = V := ⟨_, rfl⟩
  obtain ⟨B1, B2, hE, hz⟩ := box2 w [.int .i64 0, .int .i64 0, .bool true, .int .i64 gx, .int .i64 gy, .bool false, .func (.func 87) #[.agg #[.int .i64 P, .int .i64 A, .int .i64 B, .int .i64 N, .int .i64 gx, .int .i64 gy]] #[], .func (.func 88) #[.agg #[.int .i64 P, .int .i64 A, .int .i64 B, .int .i64 N, .int .i64 gx, .int .i64 gy]] #[], .func (.func 89) #[.agg #[.int .i64 P, .int .i64 A, .int .i64 B, .int .i64 N, .int .i64 gx, .int .i64 gy]] #[], .func (.func 90) #[.agg #[.int .i64 P, .int .i64 A, .int .i64 B, .int .i64 N, .int .i64 gx, .int .i64 gy]] #[], .func (.func 84) #[] #[]] [.int .i64 0, .int .i64 0, .bool false] 82 27 (hV ▸ Ext.refl _ : Ext ((w.alloc (.cells #[.int .i64 0, .int .i64 0, .bool true, .int .i64 gx, .int .i64 gy, .bool false, .func (.func 87) #[.agg #[.int .i64 P, .int .i64 A, .int .i64 B, .int .i64 N, .int .i64 gx, .int .i64 gy]] #[], .func (.func 88) #[.agg #[.int .i64 P, .int .i64 A, .int .i64 B, .int .i64 N, .int .i64 gx, .int .i64 gy]] #[], .func (.func 89) #[.agg #[.int .i64 P, .int .i64 A, .int .i64 B, .int .i64 N, .int .i64 gx, .int .i64 gy]] #[], .func (.func 90) #[.agg #[.int .i64 P, .int .i64 A, .int .i64 B, .int .i64 N, .int .i64 gx, .int .i64 gy]] #[], .func (.func 84) #[] #[]] 82)).alloc (.cells #[.int .i64 0, .int .i64 0, .bool false] 27)) V)
  simp only [hV]
  clear hV
  have hcl := (hs.of_all hE).cell 0 hn
  rw [Nat.add_zero, h0] at hcl
  clear hs hr h0 hne
  go_wp2
  exact ⟨rfl, rfl, hE⟩

set_option maxHeartbeats 1600000 in
set_option maxRecDepth 100000 in
theorem rdPt_none4 (P A B N gx gy : Int) (a : Option Addr) (b off n cap : Nat) (f : Nat → Int) (hn : 0 < n) (h0 : f 0 = 4) (hne : n ≠ 7) (w : World) (hT : Tab w) (hs : BSeg w a b off n f) (hr : ∀ i, i < n → 0 ≤ f i ∧ f i ≤ 255) (hcap : n ≤ cap) :
    Calls Tryd.prog 49 #[.agg #[.int .i64 0, .int .i64 0, .bool true, .int .i64 gx, .int .i64 gy, .bool false, .func (.func 87) #[.agg #[.int .i64 P, .int .i64 A, .int .i64 B, .int .i64 N, .int .i64 gx, .int .i64 gy]] #[], .func (.func 88) #[.agg #[.int .i64 P, .int .i64 A, .int .i64 B, .int .i64 N, .int .i64 gx, .int .i64 gy]] #[], .func (.func 89) #[.agg #[.int .i64 P, .int .i64 A, .int .i64 B, .int .i64 N, .int .i64 gx, .int .i64 gy]] #[], .func (.func 90) #[.agg #[.int .i64 P, .int .i64 A, .int .i64 B, .int .i64 N, .int .i64 gx, .int .i64 gy]] #[], .func (.func 84) #[] #[]], .slice a n cap] w fun e w' => e = .panicked [nrE] ∧ Ext w w' := by
  have hb := hs.lt hn
  have hpos : (0 : Int) < (n : Int) := by omega
  have nq : ((n : Int) == 7) = false := by simp; omega
  obtain rfl := hs.at' hn
  go_enter Tryd.func49, Tryd.ntmps49
  go_wp2_with fail
  refine (want_yes _).mono ?_
  rintro r w' ⟨rfl, rfl⟩
  obtain ⟨V, hV⟩ : ∃ V, (w.alloc (.cells #[.int .i64 0, .int .i64 0, .bool true, .int .i64 gx, .int .i64 gy, .bool false, .func (.func 87) #[.agg #[.int .i64 P, .int .i64 A, .int .i64 B, .int .i64 N, .int .i64 gx, .int .i64 gy]] #[], .func (.func 88) #[.agg #[.int .i64 P, .int .i64 A, .int .i64 B, .int .i64 N, .int .i64 gx, .int .i64 gy]] #[], .func (.func 89) #[.agg #[.int .i64 P, .int .i64 A, .int .i64 B, .int .i64 N, .int .i64 gx, .int .i64 gy]] #[], .func (.func 90) #[.agg #[.int .i64 P, .int .i64 A, .int .i64 B, .int .i64 N, .int .i64 gx, .int .i64 gy]] #[], .func (.func 84) #[] #[]] 82)).alloc (.cells #[.int .i64 0, .int .i64 0, .bool false] 27) = V := ⟨_, rfl⟩
  obtain ⟨B1, B2, hE, hz⟩ := box2 w [.int .i64 0, .int .i64 0, .bool true, .int .i64 gx, .int .i64 gy, .bool false, .func (.func 87) #[.agg #[.int .i64 P, .int .i64 A, .int .i64 B, .int .i64 N, .int .i64 gx, .int .i64 gy]] #[], .func (.func 88) #[.agg #[.int .i64 P, .int .i64 A, .int .i64 B, .int .i64 N, .int .i64 gx, .int .i64 gy]] #[], .func (.func 89) #[.agg #[.int .i64 P, .int .i64 A, .int .i64 B, .int .i64 N, .int .i64 gx, .int .i64 gy]] #[], .func (.func 90) #[.agg #[.int .i64 P, .int .i64 A, .int .i64 B, .int .i64 N, .int .i64 gx, .int .i64 gy]] #[], .func (.func 84) #[] #[]] [.int .i64 0, .int .i64 0, .bool false] 82 27 (hV ▸ Ext.refl _ : Ext ((w.alloc (.cells #[.int .i64 0, .int .i64 0, .bool true, .int .i64 gx, .int .i64 gy, .bool false, .func (.func 87) #[.agg #[.int .i64 P, .int .i64 A, .int .i64 B, .int .i64 N, .int .i64 gx, .int .i64 gy]] #[], .func (.func 88) #[.agg #[.int .i64 P, .int .i64 A, .int .i64 B, .int .i64 N, .int .i64 gx, .int .i64 gy]] #[], .func (.func 89) #[.agg #[.int .i64 P, .int .i64 A, .int .i64 B, .int .i64 N, .int .i64 gx, .int .i64 gy]] #[], .func (.func 90) #[.agg #[.int .i64 P, .int .i64 A, .int .i64 B, .int .i64 N, .int .i64 gx, .int .i64 gy]] #[], .func (.func 84) #[] #[]] 82)).alloc (.cells #[.int .i64 0, .int .i64 0, .bool false] 27)) V)
  simp only [hV]
  clear hV
  have hcl := (hs.of_all hE).cell 0 hn
  rw [Nat.add_zero, h0] at hcl
  clear hs hr h0 hne
  go_wp2
  exact ⟨rfl, rfl, hE⟩

set_option maxHeartbeats 1600000 in
set_option maxRecDepth 100000 in
theorem rdPt_noneX (P A B N gx gy : Int) (a : Option Addr) (b off n cap : Nat) (f : Nat → Int) (hn : 0 < n) (h0 : f 0 ≠ 0 ∧ f 0 ≠ 2 ∧ f 0 ≠ 3 ∧ f 0 ≠ 4) (w : World) (hT : Tab w) (hs : BSeg w a b off n f) (hr : ∀ i, i < n → 0 ≤ f i ∧ f i ≤ 255) (hcap : n ≤ cap) :
    Calls Tryd.prog 49 #[.agg #[.int .i64 0, .int .i64 0, .bool true, .int .i64 gx, .int .i64 gy, .bool false, .func (.func 87) #[.agg #[.int .i64 P, .int .i64 A, .int .i64 B, .int .i64 N, .int .i64 gx, .int .i64 gy]] #[], .func (.func 88) #[.agg #[.int .i64 P, .int .i64 A, .int .i64 B, .int .i64 N, .int .i64 gx, .int .i64 gy]] #[], .func (.func 89) #[.agg #[.int .i64 P, .int .i64 A, .int .i64 B, .int .i64 N, .int .i64 gx, .int .i64 gy]] #[], .func (.func 90) #[.agg #[.int .i64 P, .int .i64 A, .int .i64 B, .int .i64 N, .int .i64 gx, .int .i64 gy]] #[], .func (.func 84) #[] #[]], .slice a n cap] w fun e w' => e = .panicked [nrE] ∧ Ext w w' := by
  have hb := hs.lt hn
  have hpos : (0 : Int) < (n : Int) := by omega
  have q0 : (f 0 == 0) = false := by simp; omega
  have q2 : (f 0 == 2) = false := by simp; omega
  have q3 : (f 0 == 3) = false := by simp; omega
  have q4 : (f 0 == 4) = false := by simp; omega
  obtain rfl := hs.at' hn
  go_enter Tryd.func49, Tryd.ntmps49
  go_wp2_with fail
  refine (want_yes _).mono ?_
  rintro r w' ⟨rfl, rfl⟩
  obtain ⟨V, hV⟩ : ∃ V, (w.alloc (.cells #[.int .i64 0, .int .i64 0, .bool true, .int .i64 gx, .int .i64 gy, .bool false, .func (.func 87) #[.agg #[.int .i64 P, .int .i64 A, .int .i64 B, .int .i64 N, .int .i64 gx, .int .i64 gy]] #[], .func (.func 88) #[.agg #[.int .i64 P, .int .i64 A, .int .i64 B, .int .i64 N, .int .i64 gx, .int .i64 gy]] #[], .func (.func 89) #[.agg #[.int .i64 P, .int .i64 A, .int .i64 B, .int .i64 N, .int .i64 gx, .int .i64 gy]] #[], .func (.func 90) #[.agg #[.int .i64 P, .int .i64 A, .int .i64 B, .int .i64 N, .int .i64 gx, .int .i64 gy]] #[], .func (.func 84) #[] #[]] 82)).alloc (.cells #[.int .i64 0, .int .i64 0, .bool false] 27) = V := ⟨_, rfl⟩
  obtain ⟨B1, B2, hE, hz⟩ := box2 w [.int .i64 0, .int .i64 0, .bool true, .int .i64 gx, .int .i64 gy, .bool false, .func (.func 87) #[.agg #[.int .i64 P, .int .i64 A, .int .i64 B, .int .i64 N, .int .i64 gx, .int .i64 gy]] #[], .func (.func 88) #[.agg #[.int .i64 P, .int .i64 A, .int .i64 B, .int .i64 N, .int .i64 gx, .int .i64 gy]] #[], .func (.func 89) #[.agg #[.int .i64 P, .int .i64 A, .int .i64 B, .int .i64 N, .int .i64 gx, .int .i64 gy]] #[], .func (.func 90) #[.agg #[.int .i64 P, .int .i64 A, .int .i64 B, .int .i64 N, .int .i64 gx, .int .i64 gy]] #[], .func (.func 84) #[] #[]] [.int .i64 0, .int .i64 0, .bool false] 82 27 (hV ▸ Ext.refl _ : Ext ((w.alloc (.cells #[.int .i64 0, .int .i64 0, .bool true, .int .i64 gx, .int .i64 gy, .bool false, .func (.func 87) #[.agg #[.int .i64 P, .int .i64 A, .int .i64 B, .int .i64 N, .int .i64 gx, .int .i64 gy]] #[], .func (.func 88) #[.agg #[.int .i64 P, .int .i64 A, .int .i64 B, .int .i64 N, .int .i64 gx, .int .i64 gy]] #[], .func (.func 89) #[.agg #[.int .i64 P, .int .i64 A, .int .i64 B, .int .i64 N, .int .i64 gx, .int .i64 gy]] #[], .func (.func 90) #[.agg #[.int .i64 P, .int .i64 A, .int .i64 B, .int .i64 N, .int .i64 gx, .int .i64 gy]] #[], .func (.func 84) #[] #[]] 82)).alloc (.cells #[.int .i64 0, .int .i64 0, .bool false] 27)) V)
  simp only [hV]
  clear hV
  have hcl := (hs.of_all hE).cell 0 hn
  rw [Nat.add_zero] at hcl
  clear hs hr h0 
  generalize f 0 = y at *
  go_wp2
  exact ⟨rfl, rfl, hE⟩

set_option maxHeartbeats 1600000 in
set_option maxRecDepth 100000 in
theorem rdPt_far (P A B N gx gy : Int) (a : Option Addr) (b off n cap : Nat) (f : Nat → Int) (hn : n = 1) (h0 : f 0 = 0) (w : World) (hT : Tab w) (hs : BSeg w a b off n f) (hr : ∀ i, i < n → 0 ≤ f i ∧ f i ≤ 255) (hcap : n ≤ cap) :
    Calls Tryd.prog 49 #[.agg #[.int .i64 0, .int .i64 0, .bool true, .int .i64 gx, .int .i64 gy, .bool false, .func (.func 87) #[.agg #[.int .i64 P, .int .i64 A, .int .i64 B, .int .i64 N, .int .i64 gx, .int .i64 gy]] #[], .func (.func 88) #[.agg #[.int .i64 P, .int .i64 A, .int .i64 B, .int .i64 N, .int .i64 gx, .int .i64 gy]] #[], .func (.func 89) #[.agg #[.int .i64 P, .int .i64 A, .int .i64 B, .int .i64 N, .int .i64 gx, .int .i64 gy]] #[], .func (.func 90) #[.agg #[.int .i64 P, .int .i64 A, .int .i64 B, .int .i64 N, .int .i64 gx, .int .i64 gy]] #[], .func (.func 84) #[] #[]], .slice a n cap] w fun e w' => e = .returned (.agg #[.int .i64 0, .int .i64 0, .bool true]) ∧ Ext w w' := by
  subst hn
  have hb := hs.lt (by omega)
  obtain rfl := hs.at' (by omega)
  go_enter Tryd.func49, Tryd.ntmps49
  go_wp2_with fail
  refine (want_yes _).mono ?_
  rintro r w' ⟨rfl, rfl⟩
  obtain ⟨V, hV⟩ : ∃ V, (w.alloc (.cells #[.int .i64 0, .int .i64 0, .bool true, .int .i64 gx, .int .i64 gy, .bool false, .func (.func 87) #[.agg #[.int .i64 P, .int .i64 A, .int .i64 B, .int .i64 N, .int .i64 gx, .int .i64 gy]] #[], .func (.func 88) #[.agg #[.int .i64 P, .int .i64 A, .int .i64 B, .int .i64 N, .int .i64 gx, .int .i64 gy]] #[], .func (.func 89) #[.agg #[.int .i64 P, .int .i64 A, .int .i64 B, .int .i64 N, .int .i64 gx, .int .i64 gy]] #[], .func (.func 90) #[.agg #[.int .i64 P, .int .i64 A, .int .i64 B, .int .i64 N, .int .i64 gx, .int .i64 gy]] #[], .func (.func 84) #[] #[]] 82)).alloc (.cells #[.int .i64 0, .int .i64 0, .bool false] 27) = V := ⟨_, rfl⟩
  obtain ⟨B1, B2, hE, hz⟩ := box2 w [.int .i64 0, .int .i64 0, .bool true, .int .i64 gx, .int .i64 gy, .bool false, .func (.func 87) #[.agg #[.int .i64 P, .int .i64 A, .int .i64 B, .int .i64 N, .int .i64 gx, .int .i64 gy]] #[], .func (.func 88) #[.agg #[.int .i64 P, .int .i64 A, .int .i64 B, .int .i64 N, .int .i64 gx, .int .i64 gy]] #[], .func (.func 89) #[.agg #[.int .i64 P, .int .i64 A, .int .i64 B, .int .i64 N, .int .i64 gx, .int .i64 gy]] #[], .func (.func 90) #[.agg #[.int .i64 P, .int .i64 A, .int .i64 B, .int .i64 N, .int .i64 gx, .int .i64 gy]] #[], .func (.func 84) #[] #[]] [.int .i64 0, .int .i64 0, .bool false] 82 27 (hV ▸ Ext.refl _ : Ext ((w.alloc (.cells #[.int .i64 0, .int .i64 0, .bool true, .int .i64 gx, .int .i64 gy, .bool false, .func (.func 87) #[.agg #[.int .i64 P, .int .i64 A, .int .i64 B, .int .i64 N, .int .i64 gx, .int .i64 gy]] #[], .func (.func 88) #[.agg #[.int .i64 P, .int .i64 A, .int .i64 B, .int .i64 N, .int .i64 gx, .int .i64 gy]] #[], .func (.func 89) #[.agg #[.int .i64 P, .int .i64 A, .int .i64 B, .int .i64 N, .int .i64 gx, .int .i64 gy]] #[], .func (.func 90) #[.agg #[.int .i64 P, .int .i64 A, .int .i64 B, .int .i64 N, .int .i64 gx, .int .i64 gy]] #[], .func (.func 84) #[] #[]] 82)).alloc (.cells #[.int .i64 0, .int .i64 0, .bool false] 27)) V)
  simp only [hV]
  clear hV
  have hcl := (hs.of_all hE).cell 0 (by omega)
  rw [Nat.add_zero, h0] at hcl
  clear hs hr h0
  go_wp2_with fail
  refine (unitPt _).mono ?_
  rintro e w2 ⟨rfl, hw2⟩
  have C2 := B2.ext hw2 (by omega)
  have hE2 := hE.trans hw2
  clear hw2 B1 B2 hcl
  have d0 := (C2 0 _ rfl).1
  have d1 := (C2 1 _ rfl).1
  have d2 := (C2 2 _ rfl).1
  have z0 := (C2 0 _ rfl).2
  have z1 := (C2 1 _ rfl).2
  have z2 := (C2 2 _ rfl).2
  go_wp2
  obtain ⟨W, hW⟩ : ∃ W, putL (w.heap.size + 1) 0 [.int .i64 0, .int .i64 0, .bool true] w2 = W := ⟨_, rfl⟩
  have BW := Blk.put C2 [.int .i64 0, .int .i64 0, .bool true] rfl
  rw [hW] at BW
  have hF : Ext w W := hW ▸ hE2.putL (by omega) _
  simp only [putL, Nat.zero_add, Nat.reduceAdd] at hW
  simp only [hW]
  have q0 := (BW 0 _ rfl).1
  have q1 := (BW 1 _ rfl).1
  have q2 := (BW 2 _ rfl).1
  refine bodyPost_ret (v := .agg #[.int .i64 0, .int .i64 0, .bool true]) (by simp [results, Tryd.results49, go_sem, q0, q1, q2]) rfl ⟨rfl, hF⟩

set_option maxHeartbeats 1600000 in
set_option maxRecDepth 100000 in
theorem rdPt_even_yes (P A B N gx gy : Int) (a : Option Addr) (b off n cap : Nat) (f : Nat → Int) (x : Int) (r : Pt) (hn : n = 4) (h0 : f 0 = 2) (hx : rd3 f 1 = x) (hA : Hid (∀ W : World, Tab W → Calls Tryd.prog 93 #[.agg #[.int .i64 0, .int .i64 0, .bool true, .int .i64 gx, .int .i64 gy, .bool false, .func (.func 87) #[.agg #[.int .i64 P, .int .i64 A, .int .i64 B, .int .i64 N, .int .i64 gx, .int .i64 gy]] #[], .func (.func 88) #[.agg #[.int .i64 P, .int .i64 A, .int .i64 B, .int .i64 N, .int .i64 gx, .int .i64 gy]] #[], .func (.func 89) #[.agg #[.int .i64 P, .int .i64 A, .int .i64 B, .int .i64 N, .int .i64 gx, .int .i64 gy]] #[], .func (.func 90) #[.agg #[.int .i64 P, .int .i64 A, .int .i64 B, .int .i64 N, .int .i64 gx, .int .i64 gy]] #[], .func (.func 84) #[] #[]], .int .i64 x, .int .i64 0] W fun e w' => e = .returned (.agg #[.int .i64 r.x, .int .i64 r.y, .bool r.far]) ∧ Ext W w')) (w : World) (hT : Tab w) (hs : BSeg w a b off n f) (hr : ∀ i, i < n → 0 ≤ f i ∧ f i ≤ 255) (hcap : n ≤ cap) :
    Calls Tryd.prog 49 #[.agg #[.int .i64 0, .int .i64 0, .bool true, .int .i64 gx, .int .i64 gy, .bool false, .func (.func 87) #[.agg #[.int .i64 P, .int .i64 A, .int .i64 B, .int .i64 N, .int .i64 gx, .int .i64 gy]] #[], .func (.func 88) #[.agg #[.int .i64 P, .int .i64 A, .int .i64 B, .int .i64 N, .int .i64 gx, .int .i64 gy]] #[], .func (.func 89) #[.agg #[.int .i64 P, .int .i64 A, .int .i64 B, .int .i64 N, .int .i64 gx, .int .i64 gy]] #[], .func (.func 90) #[.agg #[.int .i64 P, .int .i64 A, .int .i64 B, .int .i64 N, .int .i64 gx, .int .i64 gy]] #[], .func (.func 84) #[] #[]], .slice a n cap] w fun e w' => e = .returned (.agg #[.int .i64 r.x, .int .i64 r.y, .bool r.far]) ∧ Ext w w' := by
  subst hn
  have hb := hs.lt (by omega)
  obtain rfl := hs.at' (by omega)
  have HX : Hid (∀ W, BSeg W (some ⟨b, off, none⟩) b off 4 f → Calls Tryd.prog 94 #[.slice (some ⟨b, off + 1, none⟩) 3 (cap - 1)] W fun r w' => r = .returned (.int .i64 x) ∧ Ext W w') := fun W h => by
    have := readHigh_any b (off + 1) (cap - 1) (fun i => f (1 + i)) W (h.drop 1 3 (by omega)) (fun i hi => hr _ (by omega))
    rwa [show rd3 (fun i => f (1 + i)) 0 = x from hx] at this
  have hT := hide hT
  go_enter Tryd.func49, Tryd.ntmps49
  go_wp2_with fail
  refine (want_yes _).mono ?_
  rintro r w' ⟨rfl, rfl⟩
  obtain ⟨V, hV⟩ : ∃ V, (w.alloc (.cells #[.int .i64 0, .int .i64 0, .bool true, .int .i64 gx, .int .i64 gy, .bool false, .func (.func 87) #[.agg #[.int .i64 P, .int .i64 A, .int .i64 B, .int .i64 N, .int .i64 gx, .int .i64 gy]] #[], .func (.func 88) #[.agg #[.int .i64 P, .int .i64 A, .int .i64 B, .int .i64 N, .int .i64 gx, .int .i64 gy]] #[], .func (.func 89) #[.agg #[.int .i64 P, .int .i64 A, .int .i64 B, .int .i64 N, .int .i64 gx, .int .i64 gy]] #[], .func (.func 90) #[.agg #[.int .i64 P, .int .i64 A, .int .i64 B, .int .i64 N, .int .i64 gx, .int .i64 gy]] #[], .func (.func 84) #[] #[]] 82)).alloc (.cells #[.int .i64 0, .int .i64 0, .bool false] 27) = V := ⟨_, rfl⟩
  obtain ⟨B1, B2, hE, hz⟩ := box2 w [.int .i64 0, .int .i64 0, .bool true, .int .i64 gx, .int .i64 gy, .bool false, .func (.func 87) #[.agg #[.int .i64 P, .int .i64 A, .int .i64 B, .int .i64 N, .int .i64 gx, .int .i64 gy]] #[], .func (.func 88) #[.agg #[.int .i64 P, .int .i64 A, .int .i64 B, .int .i64 N, .int .i64 gx, .int .i64 gy]] #[], .func (.func 89) #[.agg #[.int .i64 P, .int .i64 A, .int .i64 B, .int .i64 N, .int .i64 gx, .int .i64 gy]] #[], .func (.func 90) #[.agg #[.int .i64 P, .int .i64 A, .int .i64 B, .int .i64 N, .int .i64 gx, .int .i64 gy]] #[], .func (.func 84) #[] #[]] [.int .i64 0, .int .i64 0, .bool false] 82 27 (hV ▸ Ext.refl _ : Ext ((w.alloc (.cells #[.int .i64 0, .int .i64 0, .bool true, .int .i64 gx, .int .i64 gy, .bool false, .func (.func 87) #[.agg #[.int .i64 P, .int .i64 A, .int .i64 B, .int .i64 N, .int .i64 gx, .int .i64 gy]] #[], .func (.func 88) #[.agg #[.int .i64 P, .int .i64 A, .int .i64 B, .int .i64 N, .int .i64 gx, .int .i64 gy]] #[], .func (.func 89) #[.agg #[.int .i64 P, .int .i64 A, .int .i64 B, .int .i64 N, .int .i64 gx, .int .i64 gy]] #[], .func (.func 90) #[.agg #[.int .i64 P, .int .i64 A, .int .i64 B, .int .i64 N, .int .i64 gx, .int .i64 gy]] #[], .func (.func 84) #[] #[]] 82)).alloc (.cells #[.int .i64 0, .int .i64 0, .bool false] 27)) V)
  simp only [hV]
  clear hV
  have HS := hide (hs.of_all hE)
  have HT := hide (hT.out.ext hE)
  have hcl := HS.out.cell 0 (by omega)
  rw [Nat.add_zero, h0] at hcl
  have t1' := hT.out.one
  clear hs hr h0 hx hT
  obtain ⟨o1, eo1⟩ : ∃ o, off + 1 = o := ⟨_, rfl⟩
  obtain ⟨p1, ep1⟩ : ∃ o, cap - 1 = o := ⟨_, rfl⟩
  rw [eo1, ep1] at HX
  have h4c : (4 : Int) ≤ (cap : Int) := by omega
  have hc1 : ¬ cap = 1 := by omega
  obtain ⟨X, hX⟩ : ∃ X : Nat → Prop, X = fun k => w.heap.size + 1 ≤ k := ⟨_, rfl⟩
  have x0 : ∀ k, k < w.heap.size + 1 → ¬ X k := fun k h => by rw [hX]; simp; omega
  have xC : X (w.heap.size + 1) := by rw [hX]; exact Nat.le_refl _
  clear hX
  have xb : ¬ X b := x0 b (by omega)
  have xT : ¬ X 1 := x0 1 (by omega)
  clear t1'
  go_wp2
  clear hcl
  have g0 := cell_reC (B1 0 _ rfl).1 (x0 _ (by first | omega | (simp only; omega)))
  have g1 := cell_reC (B1 1 _ rfl).1 (x0 _ (by first | omega | (simp only; omega)))
  have g2 := cell_reC (B1 2 _ rfl).1 (x0 _ (by first | omega | (simp only; omega)))
  have g3 := cell_reC (B1 3 _ rfl).1 (x0 _ (by first | omega | (simp only; omega)))
  have g4 := cell_reC (B1 4 _ rfl).1 (x0 _ (by first | omega | (simp only; omega)))
  have g5 := cell_reC (B1 5 _ rfl).1 (x0 _ (by first | omega | (simp only; omega)))
  have g6 := cell_reC (B1 6 _ rfl).1 (x0 _ (by first | omega | (simp only; omega)))
  have g7 := cell_reC (B1 7 _ rfl).1 (x0 _ (by first | omega | (simp only; omega)))
  have g8 := cell_reC (B1 8 _ rfl).1 (x0 _ (by first | omega | (simp only; omega)))
  have g9 := cell_reC (B1 9 _ rfl).1 (x0 _ (by first | omega | (simp only; omega)))
  have g10 := cell_reC (B1 10 _ rfl).1 (x0 _ (by first | omega | (simp only; omega)))
  refine anyK_begin X 6 rfl (by kernel_rfl) ?_
  refine anyK_take 0 5 1 rfl (by decide) (by kernel_rfl) (fun _ _ d _ _ h => by cases d <;> exact h) ?_
  repeat (refine headC_step (fun K hK => ?_); go_simp; first | (refine hK _ ?_; clear hK K) | (apply Exists.intro; refine ⟨fun _ => ?_, hK _ ?_⟩; (first | (go_at_call 94; exact Calls.re_of (HX.out _ (HS.out.reC xb _))) | (go_at_call 93; exact Calls.re_of (hA.out _ (HT.out.reC xT _)))); clear hK K))
  refine headC_nil ?_
  clear g0 g1 g2 g3 g4 g5 g6 g7 g8 g9 g10 h4c hc1 eo1 ep1
  refine anyK_one 5 (by kernel_rfl) ?_
  refine stepK_run rfl ?_
  intro w2 h2 K hK
  have BZ := B2.ext h2 (by omega)
  have d0 := (BZ 0 _ rfl).1
  have d1 := (BZ 1 _ rfl).1
  have d2 := (BZ 2 _ rfl).1
  have z0 := (BZ 0 _ rfl).2
  have z1 := (BZ 1 _ rfl).2
  have z2 := (BZ 2 _ rfl).2
  go_simp
  refine hK _ _ (show Grw X V (putL (w.heap.size + 1) 0 [.int .i64 r.x, .int .i64 r.y, .bool r.far] w2) from Grw.putL xC _ _ _ (.of_ext h2)) ?_
  clear hK K d0 d1 d2 z0 z1 z2
  refine anyK_done (by kernel_rfl) ?_ 0
  intro w3 h3
  replace h3 : Ext (putL (w.heap.size + 1) 0 [.int .i64 r.x, .int .i64 r.y, .bool r.far] w2) w3 := h3
  have BW := (BZ.put [.int .i64 r.x, .int .i64 r.y, .bool r.far] rfl).ext h3 (by rw [size_putL]; have := Below.size h2; omega)
  have hF : Ext w w3 := ((hE.trans h2).putL (by omega) [.int .i64 r.x, .int .i64 r.y, .bool r.far]).trans h3
  clear h2 h3 BZ
  have q0 := (BW 0 _ rfl).1
  have q1 := (BW 1 _ rfl).1
  have q2 := (BW 2 _ rfl).1
  go_wp2
  refine bodyPost_ret (v := .agg #[.int .i64 r.x, .int .i64 r.y, .bool r.far]) (by simp [results, Tryd.results49, go_sem, q0, q1, q2]) rfl ⟨rfl, hF⟩

set_option maxHeartbeats 1600000 in
set_option maxRecDepth 100000 in
theorem rdPt_even_no (P A B N gx gy : Int) (a : Option Addr) (b off n cap : Nat) (f : Nat → Int) (x : Int) (hn : n = 4) (h0 : f 0 = 2) (hx : rd3 f 1 = x) (hA : Hid (∀ W : World, Tab W → Calls Tryd.prog 93 #[.agg #[.int .i64 0, .int .i64 0, .bool true, .int .i64 gx, .int .i64 gy, .bool false, .func (.func 87) #[.agg #[.int .i64 P, .int .i64 A, .int .i64 B, .int .i64 N, .int .i64 gx, .int .i64 gy]] #[], .func (.func 88) #[.agg #[.int .i64 P, .int .i64 A, .int .i64 B, .int .i64 N, .int .i64 gx, .int .i64 gy]] #[], .func (.func 89) #[.agg #[.int .i64 P, .int .i64 A, .int .i64 B, .int .i64 N, .int .i64 gx, .int .i64 gy]] #[], .func (.func 90) #[.agg #[.int .i64 P, .int .i64 A, .int .i64 B, .int .i64 N, .int .i64 gx, .int .i64 gy]] #[], .func (.func 84) #[] #[]], .int .i64 x, .int .i64 0] W fun e w' => e = .panicked [nrE] ∧ Ext W w')) (w : World) (hT : Tab w) (hs : BSeg w a b off n f) (hr : ∀ i, i < n → 0 ≤ f i ∧ f i ≤ 255) (hcap : n ≤ cap) :
    Calls Tryd.prog 49 #[.agg #[.int .i64 0, .int .i64 0, .bool true, .int .i64 gx, .int .i64 gy, .bool false, .func (.func 87) #[.agg #[.int .i64 P, .int .i64 A, .int .i64 B, .int .i64 N, .int .i64 gx, .int .i64 gy]] #[], .func (.func 88) #[.agg #[.int .i64 P, .int .i64 A, .int .i64 B, .int .i64 N, .int .i64 gx, .int .i64 gy]] #[], .func (.func 89) #[.agg #[.int .i64 P, .int .i64 A, .int .i64 B, .int .i64 N, .int .i64 gx, .int .i64 gy]] #[], .func (.func 90) #[.agg #[.int .i64 P, .int .i64 A, .int .i64 B, .int .i64 N, .int .i64 gx, .int .i64 gy]] #[], .func (.func 84) #[] #[]], .slice a n cap] w fun e w' => e = .panicked [nrE] ∧ Ext w w' := by
  subst hn
  have hb := hs.lt (by omega)
  obtain rfl := hs.at' (by omega)
  have HX : Hid (∀ W, BSeg W (some ⟨b, off, none⟩) b off 4 f → Calls Tryd.prog 94 #[.slice (some ⟨b, off + 1, none⟩) 3 (cap - 1)] W fun r w' => r = .returned (.int .i64 x) ∧ Ext W w') := fun W h => by
    have := readHigh_any b (off + 1) (cap - 1) (fun i => f (1 + i)) W (h.drop 1 3 (by omega)) (fun i hi => hr _ (by omega))
    rwa [show rd3 (fun i => f (1 + i)) 0 = x from hx] at this
  have hT := hide hT
  go_enter Tryd.func49, Tryd.ntmps49
  go_wp2_with fail
  refine (want_yes _).mono ?_
  rintro r w' ⟨rfl, rfl⟩
  obtain ⟨V, hV⟩ : ∃ V, (w.alloc (.cells #[.int .i64 0, .int .i64 0, .bool true, .int .i64 gx, .int .i64 gy, .bool false, .func (.func 87) #[.agg #[.int .i64 P, .int .i64 A, .int .i64 B, .int .i64 N, .int .i64 gx, .int .i64 gy]] #[], .func (.func 88) #[.agg #[.int .i64 P, .int .i64 A, .int .i64 B, .int .i64 N, .int .i64 gx, .int .i64 gy]] #[], .func (.func 89) #[.agg #[.int .i64 P, .int .i64 A, .int .i64 B, .int .i64 N, .int .i64 gx, .int .i64 gy]] #[], .func (.func 90) #[.agg #[.int .i64 P, .int .i64 A, .int .i64 B, .int .i64 N, .int .i64 gx, .int .i64 gy]] #[], .func (.func 84) #[] #[]] 82)).alloc (.cells #[.int .i64 0, .int .i64 0, .bool false] 27) = V := ⟨_, rfl⟩
  obtain ⟨B1, B2, hE, hz⟩ := box2 w [.int .i64 0, .int .i64 0, .bool true, .int .i64 gx, .int .i64 gy, .bool false, .func (.func 87) #[.agg #[.int .i64 P, .int .i64 A, .int .i64 B, .int .i64 N, .int .i64 gx, .int .i64 gy]] #[], .func (.func 88) #[.agg #[.int .i64 P, .int .i64 A, .int .i64 B, .int .i64 N, .int .i64 gx, .int .i64 gy]] #[], .func (.func 89) #[.agg #[.int .i64 P, .int .i64 A, .int .i64 B, .int .i64 N, .int .i64 gx, .int .i64 gy]] #[], .func (.func 90) #[.agg #[.int .i64 P, .int .i64 A, .int .i64 B, .int .i64 N, .int .i64 gx, .int .i64 gy]] #[], .func (.func 84) #[] #[]] [.int .i64 0, .int .i64 0, .bool false] 82 27 (hV ▸ Ext.refl _ : Ext ((w.alloc (.cells #[.int .i64 0, .int .i64 0, .bool true, .int .i64 gx, .int .i64 gy, .bool false, .func (.func 87) #[.agg #[.int .i64 P, .int .i64 A, .int .i64 B, .int .i64 N, .int .i64 gx, .int .i64 gy]] #[], .func (.func 88) #[.agg #[.int .i64 P, .int .i64 A, .int .i64 B, .int .i64 N, .int .i64 gx, .int .i64 gy]] #[], .func (.func 89) #[.agg #[.int .i64 P, .int .i64 A, .int .i64 B, .int .i64 N, .int .i64 gx, .int .i64 gy]] #[], .func (.func 90) #[.agg #[.int .i64 P, .int .i64 A, .int .i64 B, .int .i64 N, .int .i64 gx, .int .i64 gy]] #[], .func (.func 84) #[] #[]] 82)).alloc (.cells #[.int .i64 0, .int .i64 0, .bool false] 27)) V)
  simp only [hV]
  clear hV
  have HS := hide (hs.of_all hE)
  have HT := hide (hT.out.ext hE)
  have hcl := HS.out.cell 0 (by omega)
  rw [Nat.add_zero, h0] at hcl
  have t1' := hT.out.one
  clear hs hr h0 hx hT
  obtain ⟨o1, eo1⟩ : ∃ o, off + 1 = o := ⟨_, rfl⟩
  obtain ⟨p1, ep1⟩ : ∃ o, cap - 1 = o := ⟨_, rfl⟩
  rw [eo1, ep1] at HX
  have h4c : (4 : Int) ≤ (cap : Int) := by omega
  have hc1 : ¬ cap = 1 := by omega
  obtain ⟨X, hX⟩ : ∃ X : Nat → Prop, X = fun k => w.heap.size + 1 ≤ k := ⟨_, rfl⟩
  have x0 : ∀ k, k < w.heap.size + 1 → ¬ X k := fun k h => by rw [hX]; simp; omega
  have xC : X (w.heap.size + 1) := by rw [hX]; exact Nat.le_refl _
  clear hX
  have xb : ¬ X b := x0 b (by omega)
  have xT : ¬ X 1 := x0 1 (by omega)
  clear t1'
  go_wp2
  clear hcl
  have g0 := cell_reC (B1 0 _ rfl).1 (x0 _ (by first | omega | (simp only; omega)))
  have g1 := cell_reC (B1 1 _ rfl).1 (x0 _ (by first | omega | (simp only; omega)))
  have g2 := cell_reC (B1 2 _ rfl).1 (x0 _ (by first | omega | (simp only; omega)))
  have g3 := cell_reC (B1 3 _ rfl).1 (x0 _ (by first | omega | (simp only; omega)))
  have g4 := cell_reC (B1 4 _ rfl).1 (x0 _ (by first | omega | (simp only; omega)))
  have g5 := cell_reC (B1 5 _ rfl).1 (x0 _ (by first | omega | (simp only; omega)))
  have g6 := cell_reC (B1 6 _ rfl).1 (x0 _ (by first | omega | (simp only; omega)))
  have g7 := cell_reC (B1 7 _ rfl).1 (x0 _ (by first | omega | (simp only; omega)))
  have g8 := cell_reC (B1 8 _ rfl).1 (x0 _ (by first | omega | (simp only; omega)))
  have g9 := cell_reC (B1 9 _ rfl).1 (x0 _ (by first | omega | (simp only; omega)))
  have g10 := cell_reC (B1 10 _ rfl).1 (x0 _ (by first | omega | (simp only; omega)))
  refine anyK_begin X 6 rfl (by kernel_rfl) ?_
  refine anyK_take 0 4 2 rfl (by decide) (by kernel_rfl) (fun _ _ d _ _ h => by cases d <;> exact h) ?_
  repeat (refine headC_step (fun K hK => ?_); go_simp; first | (refine hK _ ?_; clear hK K) | (apply Exists.intro; refine ⟨fun _ => ?_, hK _ ?_⟩; ((go_at_call 94; exact Calls.re_of (HX.out _ (HS.out.reC xb _)))); clear hK K))
  refine headC_nil ?_
  clear g0 g1 g2 g3 g4 g5 g6 g7 g8 g9 g10 h4c hc1 eo1 ep1
  refine anyK_one 4 (by kernel_rfl) ?_
  refine stepK_run rfl ?_
  intro w2 h2 K hK
  go_simp
  refine (hA.out _ (HT.out.ext h2)).mono ?_
  rintro e w3 ⟨rfl, h3⟩
  exact ⟨rfl, rfl, (hE.trans h2).trans h3⟩

set_option maxHeartbeats 1600000 in
set_option maxRecDepth 100000 in
theorem rdPt_odd_yes (P A B N gx gy : Int) (a : Option Addr) (b off n cap : Nat) (f : Nat → Int) (x : Int) (r : Pt) (hn : n = 4) (h0 : f 0 = 3) (hx : rd3 f 1 = x) (hA : Hid (∀ W : World, Tab W → Calls Tryd.prog 93 #[.agg #[.int .i64 0, .int .i64 0, .bool true, .int .i64 gx, .int .i64 gy, .bool false, .func (.func 87) #[.agg #[.int .i64 P, .int .i64 A, .int .i64 B, .int .i64 N, .int .i64 gx, .int .i64 gy]] #[], .func (.func 88) #[.agg #[.int .i64 P, .int .i64 A, .int .i64 B, .int .i64 N, .int .i64 gx, .int .i64 gy]] #[], .func (.func 89) #[.agg #[.int .i64 P, .int .i64 A, .int .i64 B, .int .i64 N, .int .i64 gx, .int .i64 gy]] #[], .func (.func 90) #[.agg #[.int .i64 P, .int .i64 A, .int .i64 B, .int .i64 N, .int .i64 gx, .int .i64 gy]] #[], .func (.func 84) #[] #[]], .int .i64 x, .int .i64 1] W fun e w' => e = .returned (.agg #[.int .i64 r.x, .int .i64 r.y, .bool r.far]) ∧ Ext W w')) (w : World) (hT : Tab w) (hs : BSeg w a b off n f) (hr : ∀ i, i < n → 0 ≤ f i ∧ f i ≤ 255) (hcap : n ≤ cap) :
    Calls Tryd.prog 49 #[.agg #[.int .i64 0, .int .i64 0, .bool true, .int .i64 gx, .int .i64 gy, .bool false, .func (.func 87) #[.agg #[.int .i64 P, .int .i64 A, .int .i64 B, .int .i64 N, .int .i64 gx, .int .i64 gy]] #[], .func (.func 88) #[.agg #[.int .i64 P, .int .i64 A, .int .i64 B, .int .i64 N, .int .i64 gx, .int .i64 gy]] #[], .func (.func 89) #[.agg #[.int .i64 P, .int .i64 A, .int .i64 B, .int .i64 N, .int .i64 gx, .int .i64 gy]] #[], .func (.func 90) #[.agg #[.int .i64 P, .int .i64 A, .int .i64 B, .int .i64 N, .int .i64 gx, .int .i64 gy]] #[], .func (.func 84) #[] #[]], .slice a n cap] w fun e w' => e = .returned (.agg #[.int .i64 r.x, .int .i64 r.y, .bool r.far]) ∧ Ext w w' := by
  subst hn
  have hb := hs.lt (by omega)
  obtain rfl := hs.at' (by omega)
  have HX : Hid (∀ W, BSeg W (some ⟨b, off, none⟩) b off 4 f → Calls Tryd.prog 94 #[.slice (some ⟨b, off + 1, none⟩) 3 (cap - 1)] W fun r w' => r = .returned (.int .i64 x) ∧ Ext W w') := fun W h => by
    have := readHigh_any b (off + 1) (cap - 1) (fun i => f (1 + i)) W (h.drop 1 3 (by omega)) (fun i hi => hr _ (by omega))
    rwa [show rd3 (fun i => f (1 + i)) 0 = x from hx] at this
  have hT := hide hT
  go_enter Tryd.func49, Tryd.ntmps49
  go_wp2_with fail
  refine (want_yes _).mono ?_
  rintro r w' ⟨rfl, rfl⟩
  obtain ⟨V, hV⟩ : ∃ V, (w.alloc (.cells #[.int .i64 0, .int .i64 0, .bool true, .int .i64 gx, .int .i64 gy, .bool false, .func (.func 87) #[.agg #[.int .i64 P, .int .i64 A, .int .i64 B, .int .i64 N, .int .i64 gx, .int .i64 gy]] #[], .func (.func 88) #[.agg #[.int .i64 P, .int .i64 A, .int .i64 B, .int .i64 N, .int .i64 gx, .int .i64 gy]] #[], .func (.func 89) #[.agg #[.int .i64 P, .int .i64 A, .int .i64 B, .int .i64 N, .int .i64 gx, .int .i64 gy]] #[], .func (.func 90) #[.agg #[.int .i64 P, .int .i64 A, .int .i64 B, .int .i64 N, .int .i64 gx, .int .i64 gy]] #[], .func (.func 84) #[] #[]] 82)).alloc (.cells #[.int .i64 0, .int .i64 0, .bool false] 27) = V := ⟨_, rfl⟩
  obtain ⟨B1, B2, hE, hz⟩ := box2 w [.int .i64 0, .int .i64 0, .bool true, .int .i64 gx, .int .i64 gy, .bool false, .func (.func 87) #[.agg #[.int .i64 P, .int .i64 A, .int .i64 B, .int .i64 N, .int .i64 gx, .int .i64 gy]] #[], .func (.func 88) #[.agg #[.int .i64 P, .int .i64 A, .int .i64 B, .int .i64 N, .int .i64 gx, .int .i64 gy]] #[], .func (.func 89) #[.agg #[.int .i64 P, .int .i64 A, .int .i64 B, .int .i64 N, .int .i64 gx, .int .i64 gy]] #[], .func (.func 90) #[.agg #[.int .i64 P, .int .i64 A, .int .i64 B, .int .i64 N, .int .i64 gx, .int .i64 gy]] #[], .func (.func 84) #[] #[]] [.int .i64 0, .int .i64 0, .bool false] 82 27 (hV ▸ Ext.refl _ : Ext ((w.alloc (.cells #[.int .i64 0, .int .i64 0, .bool true, .int .i64 gx, .int .i64 gy, .bool false, .func (.func 87) #[.agg #[.int .i64 P, .int .i64 A, .int .i64 B, .int .i64 N, .int .i64 gx, .int .i64 gy]] #[], .func (.func 88) #[.agg #[.int .i64 P, .int .i64 A, .int .i64 B, .int .i64 N, .int .i64 gx, .int .i64 gy]] #[], .func (.func 89) #[.agg #[.int .i64 P, .int .i64 A, .int .i64 B, .int .i64 N, .int .i64 gx, .int .i64 gy]] #[], .func (.func 90) #[.agg #[.int .i64 P, .int .i64 A, .int .i64 B, .int .i64 N, .int .i64 gx, .int .i64 gy]] #[], .func (.func 84) #[] #[]] 82)).alloc (.cells #[.int .i64 0, .int .i64 0, .bool false] 27)) V)
  simp only [hV]
  clear hV
  have HS := hide (hs.of_all hE)
  have HT := hide (hT.out.ext hE)
  have hcl := HS.out.cell 0 (by omega)
  rw [Nat.add_zero, h0] at hcl
  have t1' := hT.out.one
  clear hs hr h0 hx hT
  obtain ⟨o1, eo1⟩ : ∃ o, off + 1 = o := ⟨_, rfl⟩
  obtain ⟨p1, ep1⟩ : ∃ o, cap - 1 = o := ⟨_, rfl⟩
  rw [eo1, ep1] at HX
  have h4c : (4 : Int) ≤ (cap : Int) := by omega
  have hc1 : ¬ cap = 1 := by omega
  obtain ⟨X, hX⟩ : ∃ X : Nat → Prop, X = fun k => w.heap.size + 1 ≤ k := ⟨_, rfl⟩
  have x0 : ∀ k, k < w.heap.size + 1 → ¬ X k := fun k h => by rw [hX]; simp; omega
  have xC : X (w.heap.size + 1) := by rw [hX]; exact Nat.le_refl _
  clear hX
  have xb : ¬ X b := x0 b (by omega)
  have xT : ¬ X 1 := x0 1 (by omega)
  clear t1'
  go_wp2
  clear hcl
  have g0 := cell_reC (B1 0 _ rfl).1 (x0 _ (by first | omega | (simp only; omega)))
  have g1 := cell_reC (B1 1 _ rfl).1 (x0 _ (by first | omega | (simp only; omega)))
  have g2 := cell_reC (B1 2 _ rfl).1 (x0 _ (by first | omega | (simp only; omega)))
  have g3 := cell_reC (B1 3 _ rfl).1 (x0 _ (by first | omega | (simp only; omega)))
  have g4 := cell_reC (B1 4 _ rfl).1 (x0 _ (by first | omega | (simp only; omega)))
  have g5 := cell_reC (B1 5 _ rfl).1 (x0 _ (by first | omega | (simp only; omega)))
  have g6 := cell_reC (B1 6 _ rfl).1 (x0 _ (by first | omega | (simp only; omega)))
  have g7 := cell_reC (B1 7 _ rfl).1 (x0 _ (by first | omega | (simp only; omega)))
  have g8 := cell_reC (B1 8 _ rfl).1 (x0 _ (by first | omega | (simp only; omega)))
  have g9 := cell_reC (B1 9 _ rfl).1 (x0 _ (by first | omega | (simp only; omega)))
  have g10 := cell_reC (B1 10 _ rfl).1 (x0 _ (by first | omega | (simp only; omega)))
  refine anyK_begin X 6 rfl (by kernel_rfl) ?_
  refine anyK_take 0 5 1 rfl (by decide) (by kernel_rfl) (fun _ _ d _ _ h => by cases d <;> exact h) ?_
  repeat (refine headC_step (fun K hK => ?_); go_simp; first | (refine hK _ ?_; clear hK K) | (apply Exists.intro; refine ⟨fun _ => ?_, hK _ ?_⟩; (first | (go_at_call 94; exact Calls.re_of (HX.out _ (HS.out.reC xb _))) | (go_at_call 93; exact Calls.re_of (hA.out _ (HT.out.reC xT _)))); clear hK K))
  refine headC_nil ?_
  clear g0 g1 g2 g3 g4 g5 g6 g7 g8 g9 g10 h4c hc1 eo1 ep1
  refine anyK_one 5 (by kernel_rfl) ?_
  refine stepK_run rfl ?_
  intro w2 h2 K hK
  have BZ := B2.ext h2 (by omega)
  have d0 := (BZ 0 _ rfl).1
  have d1 := (BZ 1 _ rfl).1
  have d2 := (BZ 2 _ rfl).1
  have z0 := (BZ 0 _ rfl).2
  have z1 := (BZ 1 _ rfl).2
  have z2 := (BZ 2 _ rfl).2
  go_simp
  refine hK _ _ (show Grw X V (putL (w.heap.size + 1) 0 [.int .i64 r.x, .int .i64 r.y, .bool r.far] w2) from Grw.putL xC _ _ _ (.of_ext h2)) ?_
  clear hK K d0 d1 d2 z0 z1 z2
  refine anyK_done (by kernel_rfl) ?_ 0
  intro w3 h3
  replace h3 : Ext (putL (w.heap.size + 1) 0 [.int .i64 r.x, .int .i64 r.y, .bool r.far] w2) w3 := h3
  have BW := (BZ.put [.int .i64 r.x, .int .i64 r.y, .bool r.far] rfl).ext h3 (by rw [size_putL]; have := Below.size h2; omega)
  have hF : Ext w w3 := ((hE.trans h2).putL (by omega) [.int .i64 r.x, .int .i64 r.y, .bool r.far]).trans h3
  clear h2 h3 BZ
  have q0 := (BW 0 _ rfl).1
  have q1 := (BW 1 _ rfl).1
  have q2 := (BW 2 _ rfl).1
  go_wp2
  refine bodyPost_ret (v := .agg #[.int .i64 r.x, .int .i64 r.y, .bool r.far]) (by simp [results, Tryd.results49, go_sem, q0, q1, q2]) rfl ⟨rfl, hF⟩

set_option maxHeartbeats 1600000 in
set_option maxRecDepth 100000 in
theorem rdPt_odd_no (P A B N gx gy : Int) (a : Option Addr) (b off n cap : Nat) (f : Nat → Int) (x : Int) (hn : n = 4) (h0 : f 0 = 3) (hx : rd3 f 1 = x) (hA : Hid (∀ W : World, Tab W → Calls Tryd.prog 93 #[.agg #[.int .i64 0, .int .i64 0, .bool true, .int .i64 gx, .int .i64 gy, .bool false, .func (.func 87) #[.agg #[.int .i64 P, .int .i64 A, .int .i64 B, .int .i64 N, .int .i64 gx, .int .i64 gy]] #[], .func (.func 88) #[.agg #[.int .i64 P, .int .i64 A, .int .i64 B, .int .i64 N, .int .i64 gx, .int .i64 gy]] #[], .func (.func 89) #[.agg #[.int .i64 P, .int .i64 A, .int .i64 B, .int .i64 N, .int .i64 gx, .int .i64 gy]] #[], .func (.func 90) #[.agg #[.int .i64 P, .int .i64 A, .int .i64 B, .int .i64 N, .int .i64 gx, .int .i64 gy]] #[], .func (.func 84) #[] #[]], .int .i64 x, .int .i64 1] W fun e w' => e = .panicked [nrE] ∧ Ext W w')) (w : World) (hT : Tab w) (hs : BSeg w a b off n f) (hr : ∀ i, i < n → 0 ≤ f i ∧ f i ≤ 255) (hcap : n ≤ cap) :
    Calls Tryd.prog 49 #[.agg #[.int .i64 0, .int .i64 0, .bool true, .int .i64 gx, .int .i64 gy, .bool false, .func (.func 87) #[.agg #[.int .i64 P, .int .i64 A, .int .i64 B, .int .i64 N, .int .i64 gx, .int .i64 gy]] #[], .func (.func 88) #[.agg #[.int .i64 P, .int .i64 A, .int .i64 B, .int .i64 N, .int .i64 gx, .int .i64 gy]] #[], .func (.func 89) #[.agg #[.int .i64 P, .int .i64 A, .int .i64 B, .int .i64 N, .int .i64 gx, .int .i64 gy]] #[], .func (.func 90) #[.agg #[.int .i64 P, .int .i64 A, .int .i64 B, .int .i64 N, .int .i64 gx, .int .i64 gy]] #[], .func (.func 84) #[] #[]], .slice a n cap] w fun e w' => e = .panicked [nrE] ∧ Ext w w' := by
  subst hn
  have hb := hs.lt (by omega)
  obtain rfl := hs.at' (by omega)
  have HX : Hid (∀ W, BSeg W (some ⟨b, off, none⟩) b off 4 f → Calls Tryd.prog 94 #[.slice (some ⟨b, off + 1, none⟩) 3 (cap - 1)] W fun r w' => r = .returned (.int .i64 x) ∧ Ext W w') := fun W h => by
    have := readHigh_any b (off + 1) (cap - 1) (fun i => f (1 + i)) W (h.drop 1 3 (by omega)) (fun i hi => hr _ (by omega))
    rwa [show rd3 (fun i => f (1 + i)) 0 = x from hx] at this
  have hT := hide hT
  go_enter Tryd.func49, Tryd.ntmps49
  go_wp2_with fail
  refine (want_yes _).mono ?_
  rintro r w' ⟨rfl, rfl⟩
  obtain ⟨V, hV⟩ : ∃ V, (w.alloc (.cells #[.int .i64 0, .int .i64 0, .bool true, .int .i64 gx, .int .i64 gy, .bool false, .func (.func 87) #[.agg #[.int .i64 P, .int .i64 A, .int .i64 B, .int .i64 N, .int .i64 gx, .int .i64 gy]] #[], .func (.func 88) #[.agg #[.int .i64 P, .int .i64 A, .int .i64 B, .int .i64 N, .int .i64 gx, .int .i64 gy]] #[], .func (.func 89) #[.agg #[.int .i64 P, .int .i64 A, .int .i64 B, .int .i64 N, .int .i64 gx, .int .i64 gy]] #[], .func (.func 90) #[.agg #[.int .i64 P, .int .i64 A, .int .i64 B, .int .i64 N, .int .i64 gx, .int .i64 gy]] #[], .func (.func 84) #[] #[]] 82)).alloc (.cells #[.int .i64 0, .int .i64 0, .bool false] 27) = V := ⟨_, rfl⟩
  obtain ⟨B1, B2, hE, hz⟩ := box2 w [.int .i64 0, .int .i64 0, .bool true, .int .i64 gx, .int .i64 gy, .bool false, .func (.func 87) #[.agg #[.int .i64 P, .int .i64 A, .int .i64 B, .int .i64 N, .int .i64 gx, .int .i64 gy]] #[], .func (.func 88) #[.agg #[.int .i64 P, .int .i64 A, .int .i64 B, .int .i64 N, .int .i64 gx, .int .i64 gy]] #[], .func (.func 89) #[.agg #[.int .i64 P, .int .i64 A, .int .i64 B, .int .i64 N, .int .i64 gx, .int .i64 gy]] #[], .func (.func 90) #[.agg #[.int .i64 P, .int .i64 A, .int .i64 B, .int .i64 N, .int .i64 gx, .int .i64 gy]] #[], .func (.func 84) #[] #[]] [.int .i64 0, .int .i64 0, .bool false] 82 27 (hV ▸ Ext.refl _ : Ext ((w.alloc (.cells #[.int .i64 0, .int .i64 0, .bool true, .int .i64 gx, .int .i64 gy, .bool false, .func (.func 87) #[.agg #[.int .i64 P, .int .i64 A, .int .i64 B, .int .i64 N, .int .i64 gx, .int .i64 gy]] #[], .func (.func 88) #[.agg #[.int .i64 P, .int .i64 A, .int .i64 B, .int .i64 N, .int .i64 gx, .int .i64 gy]] #[], .func (.func 89) #[.agg #[.int .i64 P, .int .i64 A, .int .i64 B, .int .i64 N, .int .i64 gx, .int .i64 gy]] #[], .func (.func 90) #[.agg #[.int .i64 P, .int .i64 A, .int .i64 B, .int .i64 N, .int .i64 gx, .int .i64 gy]] #[], .func (.func 84) #[] #[]] 82)).alloc (.cells #[.int .i64 0, .int .i64 0, .bool false] 27)) V)
  simp only [hV]
  clear hV
  have HS := hide (hs.of_all hE)
  have HT := hide (hT.out.ext hE)
  have hcl := HS.out.cell 0 (by omega)
  rw [Nat.add_zero, h0] at hcl
  have t1' := hT.out.one
  clear hs hr h0 hx hT
  obtain ⟨o1, eo1⟩ : ∃ o, off + 1 = o := ⟨_, rfl⟩
  obtain ⟨p1, ep1⟩ : ∃ o, cap - 1 = o := ⟨_, rfl⟩
  rw [eo1, ep1] at HX
  have h4c : (4 : Int) ≤ (cap : Int) := by omega
  have hc1 : ¬ cap = 1 := by omega
  obtain ⟨X, hX⟩ : ∃ X : Nat → Prop, X = fun k => w.heap.size + 1 ≤ k := ⟨_, rfl⟩
  have x0 : ∀ k, k < w.heap.size + 1 → ¬ X k := fun k h => by rw [hX]; simp; omega
  have xC : X (w.heap.size + 1) := by rw [hX]; exact Nat.le_refl _
  clear hX
  have xb : ¬ X b := x0 b (by omega)
  have xT : ¬ X 1 := x0 1 (by omega)
  clear t1'
  go_wp2
  clear hcl
  have g0 := cell_reC (B1 0 _ rfl).1 (x0 _ (by first | omega | (simp only; omega)))
  have g1 := cell_reC (B1 1 _ rfl).1 (x0 _ (by first | omega | (simp only; omega)))
  have g2 := cell_reC (B1 2 _ rfl).1 (x0 _ (by first | omega | (simp only; omega)))
  have g3 := cell_reC (B1 3 _ rfl).1 (x0 _ (by first | omega | (simp only; omega)))
  have g4 := cell_reC (B1 4 _ rfl).1 (x0 _ (by first | omega | (simp only; omega)))
  have g5 := cell_reC (B1 5 _ rfl).1 (x0 _ (by first | omega | (simp only; omega)))
  have g6 := cell_reC (B1 6 _ rfl).1 (x0 _ (by first | omega | (simp only; omega)))
  have g7 := cell_reC (B1 7 _ rfl).1 (x0 _ (by first | omega | (simp only; omega)))
  have g8 := cell_reC (B1 8 _ rfl).1 (x0 _ (by first | omega | (simp only; omega)))
  have g9 := cell_reC (B1 9 _ rfl).1 (x0 _ (by first | omega | (simp only; omega)))
  have g10 := cell_reC (B1 10 _ rfl).1 (x0 _ (by first | omega | (simp only; omega)))
  refine anyK_begin X 6 rfl (by kernel_rfl) ?_
  refine anyK_take 0 4 2 rfl (by decide) (by kernel_rfl) (fun _ _ d _ _ h => by cases d <;> exact h) ?_
  repeat (refine headC_step (fun K hK => ?_); go_simp; first | (refine hK _ ?_; clear hK K) | (apply Exists.intro; refine ⟨fun _ => ?_, hK _ ?_⟩; ((go_at_call 94; exact Calls.re_of (HX.out _ (HS.out.reC xb _)))); clear hK K))
  refine headC_nil ?_
  clear g0 g1 g2 g3 g4 g5 g6 g7 g8 g9 g10 h4c hc1 eo1 ep1
  refine anyK_one 4 (by kernel_rfl) ?_
  refine stepK_run rfl ?_
  intro w2 h2 K hK
  go_simp
  refine (hA.out _ (HT.out.ext h2)).mono ?_
  rintro e w3 ⟨rfl, h3⟩
  exact ⟨rfl, rfl, (hE.trans h2).trans h3⟩

set_option maxHeartbeats 1600000 in
set_option maxRecDepth 100000 in
theorem rdPt_long_yes (P A B N gx gy : Int) (a : Option Addr) (b off n cap : Nat) (f : Nat → Int) (x y : Int) (hn : n = 7) (h0 : f 0 = 4) (hx : rd3 f 1 = x) (hy : rd3 f 4 = y) (hA : Hid (∀ W : World, Calls Tryd.prog 46 #[.agg #[.int .i64 0, .int .i64 0, .bool true, .int .i64 gx, .int .i64 gy, .bool false, .func (.func 87) #[.agg #[.int .i64 P, .int .i64 A, .int .i64 B, .int .i64 N, .int .i64 gx, .int .i64 gy]] #[], .func (.func 88) #[.agg #[.int .i64 P, .int .i64 A, .int .i64 B, .int .i64 N, .int .i64 gx, .int .i64 gy]] #[], .func (.func 89) #[.agg #[.int .i64 P, .int .i64 A, .int .i64 B, .int .i64 N, .int .i64 gx, .int .i64 gy]] #[], .func (.func 90) #[.agg #[.int .i64 P, .int .i64 A, .int .i64 B, .int .i64 N, .int .i64 gx, .int .i64 gy]] #[], .func (.func 84) #[] #[]], .agg #[.int .i64 x, .int .i64 y, .bool false]] W fun e w' => e = .returned (.agg #[.int .i64 x, .int .i64 y, .bool false]) ∧ Ext W w')) (w : World) (hT : Tab w) (hs : BSeg w a b off n f) (hr : ∀ i, i < n → 0 ≤ f i ∧ f i ≤ 255) (hcap : n ≤ cap) :
    Calls Tryd.prog 49 #[.agg #[.int .i64 0, .int .i64 0, .bool true, .int .i64 gx, .int .i64 gy, .bool false, .func (.func 87) #[.agg #[.int .i64 P, .int .i64 A, .int .i64 B, .int .i64 N, .int .i64 gx, .int .i64 gy]] #[], .func (.func 88) #[.agg #[.int .i64 P, .int .i64 A, .int .i64 B, .int .i64 N, .int .i64 gx, .int .i64 gy]] #[], .func (.func 89) #[.agg #[.int .i64 P, .int .i64 A, .int .i64 B, .int .i64 N, .int .i64 gx, .int .i64 gy]] #[], .func (.func 90) #[.agg #[.int .i64 P, .int .i64 A, .int .i64 B, .int .i64 N, .int .i64 gx, .int .i64 gy]] #[], .func (.func 84) #[] #[]], .slice a n cap] w fun e w' => e = .returned (.agg #[.int .i64 x, .int .i64 y, .bool false]) ∧ Ext w w' := by
  subst hn
  have hb := hs.lt (by omega)
  obtain rfl := hs.at' (by omega)
  have HX : Hid (∀ W, BSeg W (some ⟨b, off, none⟩) b off 7 f → Calls Tryd.prog 94 #[.slice (some ⟨b, off + 1, none⟩) 3 (cap - 1)] W fun r w' => r = .returned (.int .i64 x) ∧ Ext W w') := fun W h => by
    have := readHigh_any b (off + 1) (cap - 1) (fun i => f (1 + i)) W (h.drop 1 3 (by omega)) (fun i hi => hr _ (by omega))
    rwa [show rd3 (fun i => f (1 + i)) 0 = x from hx] at this
  have HY : Hid (∀ W, BSeg W (some ⟨b, off, none⟩) b off 7 f → Calls Tryd.prog 94 #[.slice (some ⟨b, off + 4, none⟩) 3 (cap - 4)] W fun r w' => r = .returned (.int .i64 y) ∧ Ext W w') := fun W h => by
    have := readHigh_any b (off + 4) (cap - 4) (fun i => f (4 + i)) W (h.drop 4 3 (by omega)) (fun i hi => hr _ (by omega))
    rwa [show rd3 (fun i => f (4 + i)) 0 = y from hy] at this
  go_enter Tryd.func49, Tryd.ntmps49
  go_wp2_with fail
  refine (want_yes _).mono ?_
  rintro r w' ⟨rfl, rfl⟩
  obtain ⟨V, hV⟩ : ∃ V, (w.alloc (.cells #[.int .i64 0, .int .i64 0, .bool true, .int .i64 gx, .int .i64 gy, .bool false, .func (.func 87) #[.agg #[.int .i64 P, .int .i64 A, .int .i64 B, .int .i64 N, .int .i64 gx, .int .i64 gy]] #[], .func (.func 88) #[.agg #[.int .i64 P, .int .i64 A, .int .i64 B, .int .i64 N, .int .i64 gx, .int .i64 gy]] #[], .func (.func 89) #[.agg #[.int .i64 P, .int .i64 A, .int .i64 B, .int .i64 N, .int .i64 gx, .int .i64 gy]] #[], .func (.func 90) #[.agg #[.int .i64 P, .int .i64 A, .int .i64 B, .int .i64 N, .int .i64 gx, .int .i64 gy]] #[], .func (.func 84) #[] #[]] 82)).alloc (.cells #[.int .i64 0, .int .i64 0, .bool false] 27) = V := ⟨_, rfl⟩
  obtain ⟨B1, B2, hE, hz⟩ := box2 w [.int .i64 0, .int .i64 0, .bool true, .int .i64 gx, .int .i64 gy, .bool false, .func (.func 87) #[.agg #[.int .i64 P, .int .i64 A, .int .i64 B, .int .i64 N, .int .i64 gx, .int .i64 gy]] #[], .func (.func 88) #[.agg #[.int .i64 P, .int .i64 A, .int .i64 B, .int .i64 N, .int .i64 gx, .int .i64 gy]] #[], .func (.func 89) #[.agg #[.int .i64 P, .int .i64 A, .int .i64 B, .int .i64 N, .int .i64 gx, .int .i64 gy]] #[], .func (.func 90) #[.agg #[.int .i64 P, .int .i64 A, .int .i64 B, .int .i64 N, .int .i64 gx, .int .i64 gy]] #[], .func (.func 84) #[] #[]] [.int .i64 0, .int .i64 0, .bool false] 82 27 (hV ▸ Ext.refl _ : Ext ((w.alloc (.cells #[.int .i64 0, .int .i64 0, .bool true, .int .i64 gx, .int .i64 gy, .bool false, .func (.func 87) #[.agg #[.int .i64 P, .int .i64 A, .int .i64 B, .int .i64 N, .int .i64 gx, .int .i64 gy]] #[], .func (.func 88) #[.agg #[.int .i64 P, .int .i64 A, .int .i64 B, .int .i64 N, .int .i64 gx, .int .i64 gy]] #[], .func (.func 89) #[.agg #[.int .i64 P, .int .i64 A, .int .i64 B, .int .i64 N, .int .i64 gx, .int .i64 gy]] #[], .func (.func 90) #[.agg #[.int .i64 P, .int .i64 A, .int .i64 B, .int .i64 N, .int .i64 gx, .int .i64 gy]] #[], .func (.func 84) #[] #[]] 82)).alloc (.cells #[.int .i64 0, .int .i64 0, .bool false] 27)) V)
  simp only [hV]
  clear hV
  have HS := hide (hs.of_all hE)
  have hcl := HS.out.cell 0 (by omega)
  rw [Nat.add_zero, h0] at hcl
  clear hs hr h0 hx hy hT
  obtain ⟨o1, eo1⟩ : ∃ o, off + 1 = o := ⟨_, rfl⟩
  obtain ⟨p1, ep1⟩ : ∃ o, cap - 1 = o := ⟨_, rfl⟩
  obtain ⟨o4, eo4⟩ : ∃ o, off + 4 = o := ⟨_, rfl⟩
  obtain ⟨p4, ep4⟩ : ∃ o, cap - 4 = o := ⟨_, rfl⟩
  rw [eo1, ep1] at HX
  rw [eo4, ep4] at HY
  have h4c : (4 : Int) ≤ (cap : Int) := by omega
  have h7c : (7 : Int) ≤ (cap : Int) := by omega
  have hc1 : ¬ cap = 1 := by omega
  have hc4 : ¬ cap = 4 := by omega
  obtain ⟨X, hX⟩ : ∃ X : Nat → Prop, X = fun k => w.heap.size + 1 ≤ k := ⟨_, rfl⟩
  have x0 : ∀ k, k < w.heap.size + 1 → ¬ X k := fun k h => by rw [hX]; simp; omega
  have xC : X (w.heap.size + 1) := by rw [hX]; exact Nat.le_refl _
  clear hX
  have xb : ¬ X b := x0 b (by omega)
  go_wp2
  clear hcl
  have g0 := cell_reC (B1 0 _ rfl).1 (x0 _ (by first | omega | (simp only; omega)))
  have g1 := cell_reC (B1 1 _ rfl).1 (x0 _ (by first | omega | (simp only; omega)))
  have g2 := cell_reC (B1 2 _ rfl).1 (x0 _ (by first | omega | (simp only; omega)))
  have g3 := cell_reC (B1 3 _ rfl).1 (x0 _ (by first | omega | (simp only; omega)))
  have g4 := cell_reC (B1 4 _ rfl).1 (x0 _ (by first | omega | (simp only; omega)))
  have g5 := cell_reC (B1 5 _ rfl).1 (x0 _ (by first | omega | (simp only; omega)))
  have g6 := cell_reC (B1 6 _ rfl).1 (x0 _ (by first | omega | (simp only; omega)))
  have g7 := cell_reC (B1 7 _ rfl).1 (x0 _ (by first | omega | (simp only; omega)))
  have g8 := cell_reC (B1 8 _ rfl).1 (x0 _ (by first | omega | (simp only; omega)))
  have g9 := cell_reC (B1 9 _ rfl).1 (x0 _ (by first | omega | (simp only; omega)))
  have g10 := cell_reC (B1 10 _ rfl).1 (x0 _ (by first | omega | (simp only; omega)))
  refine anyK_begin X 10 rfl (by kernel_rfl) ?_
  refine anyK_take 0 9 1 rfl (by decide) (by kernel_rfl) (fun _ _ d _ _ h => by cases d <;> exact h) ?_
  repeat (refine headC_step (fun K hK => ?_); go_simp; first | (refine hK _ ?_; clear hK K) | (apply Exists.intro; refine ⟨fun _ => ?_, hK _ ?_⟩; (first | (go_at_call_of 94 (p1); exact Calls.re_of (HX.out _ (HS.out.reC xb _))) | (go_at_call_of 94 (p4); exact Calls.re_of (HY.out _ (HS.out.reC xb _))) | (go_at_call 46; exact Calls.re_of (hA.out _))); clear hK K))
  refine headC_nil ?_
  clear g0 g1 g2 g3 g4 g5 g6 g7 g8 g9 g10 h4c h7c hc1 hc4 eo1 ep1 eo4 ep4
  refine anyK_one 9 (by kernel_rfl) ?_
  refine stepK_run rfl ?_
  intro w2 h2 K hK
  have BZ := B2.ext h2 (by omega)
  have d0 := (BZ 0 _ rfl).1
  have d1 := (BZ 1 _ rfl).1
  have d2 := (BZ 2 _ rfl).1
  have z0 := (BZ 0 _ rfl).2
  have z1 := (BZ 1 _ rfl).2
  have z2 := (BZ 2 _ rfl).2
  go_simp
  refine hK _ _ (show Grw X V (putL (w.heap.size + 1) 0 [.int .i64 x, .int .i64 y, .bool false] w2) from Grw.putL xC _ _ _ (.of_ext h2)) ?_
  clear hK K d0 d1 d2 z0 z1 z2
  refine anyK_done (by kernel_rfl) ?_ 0
  intro w3 h3
  replace h3 : Ext (putL (w.heap.size + 1) 0 [.int .i64 x, .int .i64 y, .bool false] w2) w3 := h3
  have BW := (BZ.put [.int .i64 x, .int .i64 y, .bool false] rfl).ext h3 (by rw [size_putL]; have := Below.size h2; omega)
  have hF : Ext w w3 := ((hE.trans h2).putL (by omega) [.int .i64 x, .int .i64 y, .bool false]).trans h3
  clear h2 h3 BZ
  have q0 := (BW 0 _ rfl).1
  have q1 := (BW 1 _ rfl).1
  have q2 := (BW 2 _ rfl).1
  go_wp2
  refine bodyPost_ret (v := .agg #[.int .i64 x, .int .i64 y, .bool false]) (by simp [results, Tryd.results49, go_sem, q0, q1, q2]) rfl ⟨rfl, hF⟩

set_option maxHeartbeats 1600000 in
set_option maxRecDepth 100000 in
theorem rdPt_long_no (P A B N gx gy : Int) (a : Option Addr) (b off n cap : Nat) (f : Nat → Int) (x y : Int) (hn : n = 7) (h0 : f 0 = 4) (hx : rd3 f 1 = x) (hy : rd3 f 4 = y) (hA : Hid (∀ W : World, Calls Tryd.prog 46 #[.agg #[.int .i64 0, .int .i64 0, .bool true, .int .i64 gx, .int .i64 gy, .bool false, .func (.func 87) #[.agg #[.int .i64 P, .int .i64 A, .int .i64 B, .int .i64 N, .int .i64 gx, .int .i64 gy]] #[], .func (.func 88) #[.agg #[.int .i64 P, .int .i64 A, .int .i64 B, .int .i64 N, .int .i64 gx, .int .i64 gy]] #[], .func (.func 89) #[.agg #[.int .i64 P, .int .i64 A, .int .i64 B, .int .i64 N, .int .i64 gx, .int .i64 gy]] #[], .func (.func 90) #[.agg #[.int .i64 P, .int .i64 A, .int .i64 B, .int .i64 N, .int .i64 gx, .int .i64 gy]] #[], .func (.func 84) #[] #[]], .agg #[.int .i64 x, .int .i64 y, .bool false]] W fun e w' => e = .panicked [nrE] ∧ Ext W w')) (w : World) (hT : Tab w) (hs : BSeg w a b off n f) (hr : ∀ i, i < n → 0 ≤ f i ∧ f i ≤ 255) (hcap : n ≤ cap) :
    Calls Tryd.prog 49 #[.agg #[.int .i64 0, .int .i64 0, .bool true, .int .i64 gx, .int .i64 gy, .bool false, .func (.func 87) #[.agg #[.int .i64 P, .int .i64 A, .int .i64 B, .int .i64 N, .int .i64 gx, .int .i64 gy]] #[], .func (.func 88) #[.agg #[.int .i64 P, .int .i64 A, .int .i64 B, .int .i64 N, .int .i64 gx, .int .i64 gy]] #[], .func (.func 89) #[.agg #[.int .i64 P, .int .i64 A, .int .i64 B, .int .i64 N, .int .i64 gx, .int .i64 gy]] #[], .func (.func 90) #[.agg #[.int .i64 P, .int .i64 A, .int .i64 B, .int .i64 N, .int .i64 gx, .int .i64 gy]] #[], .func (.func 84) #[] #[]], .slice a n cap] w fun e w' => e = .panicked [nrE] ∧ Ext w w' := by
  subst hn
  have hb := hs.lt (by omega)
  obtain rfl := hs.at' (by omega)
  have HX : Hid (∀ W, BSeg W (some ⟨b, off, none⟩) b off 7 f → Calls Tryd.prog 94 #[.slice (some ⟨b, off + 1, none⟩) 3 (cap - 1)] W fun r w' => r = .returned (.int .i64 x) ∧ Ext W w') := fun W h => by
    have := readHigh_any b (off + 1) (cap - 1) (fun i => f (1 + i)) W (h.drop 1 3 (by omega)) (fun i hi => hr _ (by omega))
    rwa [show rd3 (fun i => f (1 + i)) 0 = x from hx] at this
  have HY : Hid (∀ W, BSeg W (some ⟨b, off, none⟩) b off 7 f → Calls Tryd.prog 94 #[.slice (some ⟨b, off + 4, none⟩) 3 (cap - 4)] W fun r w' => r = .returned (.int .i64 y) ∧ Ext W w') := fun W h => by
    have := readHigh_any b (off + 4) (cap - 4) (fun i => f (4 + i)) W (h.drop 4 3 (by omega)) (fun i hi => hr _ (by omega))
    rwa [show rd3 (fun i => f (4 + i)) 0 = y from hy] at this
  go_enter Tryd.func49, Tryd.ntmps49
  go_wp2_with fail
  refine (want_yes _).mono ?_
  rintro r w' ⟨rfl, rfl⟩
  obtain ⟨V, hV⟩ : ∃ V, (w.alloc (.cells #[.int .i64 0, .int .i64 0, .bool true, .int .i64 gx, .int .i64 gy, .bool false, .func (.func 87) #[.agg #[.int .i64 P, .int .i64 A, .int .i64 B, .int .i64 N, .int .i64 gx, .int .i64 gy]] #[], .func (.func 88) #[.agg #[.int .i64 P, .int .i64 A, .int .i64 B, .int .i64 N, .int .i64 gx, .int .i64 gy]] #[], .func (.func 89) #[.agg #[.int .i64 P, .int .i64 A, .int .i64 B, .int .i64 N, .int .i64 gx, .int .i64 gy]] #[], .func (.func 90) #[.agg #[.int .i64 P, .int .i64 A, .int .i64 B, .int .i64 N, .int .i64 gx, .int .i64 gy]] #[], .func (.func 84) #[] #[]] 82)).alloc (.cells #[.int .i64 0, .int .i64 0, .bool false] 27) = V := ⟨_, rfl⟩
  obtain ⟨B1, B2, hE, hz⟩ := box2 w [.int .i64 0, .int .i64 0, .bool true, .int .i64 gx, .int .i64 gy, .bool false, .func (.func 87) #[.agg #[.int .i64 P, .int .i64 A, .int .i64 B, .int .i64 N, .int .i64 gx, .int .i64 gy]] #[], .func (.func 88) #[.agg #[.int .i64 P, .int .i64 A, .int .i64 B, .int .i64 N, .int .i64 gx, .int .i64 gy]] #[], .func (.func 89) #[.agg #[.int .i64 P, .int .i64 A, .int .i64 B, .int .i64 N, .int .i64 gx, .int .i64 gy]] #[], .func (.func 90) #[.agg #[.int .i64 P, .int .i64 A, .int .i64 B, .int .i64 N, .int .i64 gx, .int .i64 gy]] #[], .func (.func 84) #[] #[]] [.int .i64 0, .int .i64 0, .bool false] 82 27 (hV ▸ Ext.refl _ : Ext ((w.alloc (.cells #[.int .i64 0, .int .i64 0, .bool true, .int .i64 gx, .int .i64 gy, .bool false, .func (.func 87) #[.agg #[.int .i64 P, .int .i64 A, .int .i64 B, .int .i64 N, .int .i64 gx, .int .i64 gy]] #[], .func (.func 88) #[.agg #[.int .i64 P, .int .i64 A, .int .i64 B, .int .i64 N, .int .i64 gx, .int .i64 gy]] #[], .func (.func 89) #[.agg #[.int .i64 P, .int .i64 A, .int .i64 B, .int .i64 N, .int .i64 gx, .int .i64 gy]] #[], .func (.func 90) #[.agg #[.int .i64 P, .int .i64 A, .int .i64 B, .int .i64 N, .int .i64 gx, .int .i64 gy]] #[], .func (.func 84) #[] #[]] 82)).alloc (.cells #[.int .i64 0, .int .i64 0, .bool false] 27)) V)
  simp only [hV]
  clear hV
  have HS := hide (hs.of_all hE)
  have hcl := HS.out.cell 0 (by omega)
  rw [Nat.add_zero, h0] at hcl
  clear hs hr h0 hx hy hT
  obtain ⟨o1, eo1⟩ : ∃ o, off + 1 = o := ⟨_, rfl⟩
  obtain ⟨p1, ep1⟩ : ∃ o, cap - 1 = o := ⟨_, rfl⟩
  obtain ⟨o4, eo4⟩ : ∃ o, off + 4 = o := ⟨_, rfl⟩
  obtain ⟨p4, ep4⟩ : ∃ o, cap - 4 = o := ⟨_, rfl⟩
  rw [eo1, ep1] at HX
  rw [eo4, ep4] at HY
  have h4c : (4 : Int) ≤ (cap : Int) := by omega
  have h7c : (7 : Int) ≤ (cap : Int) := by omega
  have hc1 : ¬ cap = 1 := by omega
  have hc4 : ¬ cap = 4 := by omega
  obtain ⟨X, hX⟩ : ∃ X : Nat → Prop, X = fun k => w.heap.size + 1 ≤ k := ⟨_, rfl⟩
  have x0 : ∀ k, k < w.heap.size + 1 → ¬ X k := fun k h => by rw [hX]; simp; omega
  have xC : X (w.heap.size + 1) := by rw [hX]; exact Nat.le_refl _
  clear hX
  have xb : ¬ X b := x0 b (by omega)
  go_wp2
  clear hcl
  have g0 := cell_reC (B1 0 _ rfl).1 (x0 _ (by first | omega | (simp only; omega)))
  have g1 := cell_reC (B1 1 _ rfl).1 (x0 _ (by first | omega | (simp only; omega)))
  have g2 := cell_reC (B1 2 _ rfl).1 (x0 _ (by first | omega | (simp only; omega)))
  have g3 := cell_reC (B1 3 _ rfl).1 (x0 _ (by first | omega | (simp only; omega)))
  have g4 := cell_reC (B1 4 _ rfl).1 (x0 _ (by first | omega | (simp only; omega)))
  have g5 := cell_reC (B1 5 _ rfl).1 (x0 _ (by first | omega | (simp only; omega)))
  have g6 := cell_reC (B1 6 _ rfl).1 (x0 _ (by first | omega | (simp only; omega)))
  have g7 := cell_reC (B1 7 _ rfl).1 (x0 _ (by first | omega | (simp only; omega)))
  have g8 := cell_reC (B1 8 _ rfl).1 (x0 _ (by first | omega | (simp only; omega)))
  have g9 := cell_reC (B1 9 _ rfl).1 (x0 _ (by first | omega | (simp only; omega)))
  have g10 := cell_reC (B1 10 _ rfl).1 (x0 _ (by first | omega | (simp only; omega)))
  refine anyK_begin X 10 rfl (by kernel_rfl) ?_
  refine anyK_take 0 8 2 rfl (by decide) (by kernel_rfl) (fun _ _ d _ _ h => by cases d <;> exact h) ?_
  repeat (refine headC_step (fun K hK => ?_); go_simp; first | (refine hK _ ?_; clear hK K) | (apply Exists.intro; refine ⟨fun _ => ?_, hK _ ?_⟩; (first | (go_at_call_of 94 (p1); exact Calls.re_of (HX.out _ (HS.out.reC xb _))) | (go_at_call_of 94 (p4); exact Calls.re_of (HY.out _ (HS.out.reC xb _)))); clear hK K))
  refine headC_nil ?_
  clear g0 g1 g2 g3 g4 g5 g6 g7 g8 g9 g10 h4c h7c hc1 hc4 eo1 ep1 eo4 ep4
  refine anyK_one 8 (by kernel_rfl) ?_
  refine stepK_run rfl ?_
  intro w2 h2 K hK
  go_simp
  refine (hA.out _).mono ?_
  rintro e w3 ⟨rfl, h3⟩
  exact ⟨rfl, rfl, (hE.trans h2).trans h3⟩

set_option linter.unusedSimpArgs false

set_option maxHeartbeats 1600000 in
set_option maxRecDepth 100000 in
theorem pointBytes_far (short : Bool) (w : World) : Calls Tryd.prog 44 #[.agg #[.int .i64 0, .int .i64 0, .bool true], .bool short] w fun e w' => GivesB w 1 (fun _ => 0) e w' := by
  have hEq := run_eqPt
  have HG : Hid (∀ e w', GivesB w 1 (fun _ => 0) e w' → GivesB w 1 (fun _ => 0) e w') := fun _ _ h => h
  go_enter Tryd.func44, Tryd.ntmps44
  go_wp2
  obtain ⟨V, hV⟩ : ∃ V, w.alloc (.cells #[.int .i64 0, .int .i64 0, .bool true] 27) = V := ⟨_, rfl⟩
  obtain ⟨B1, hE, hz⟩ := box1 w [.int .i64 0, .int .i64 0, .bool true] 27 (hV ▸ Ext.refl _ : Ext (w.alloc (.cells #[.int .i64 0, .int .i64 0, .bool true] 27)) V)
  simp only [hV]
  clear hV
  obtain ⟨X, hX⟩ : ∃ X : Nat → Prop, X = fun _ => False := ⟨_, rfl⟩
  have x0 : ∀ k, k < V.heap.size → ¬ X k := fun k h => by rw [hX]; exact fun e => e
  clear hX
  have k0 := cell_reC (B1 0 _ rfl).1 (x0 _ (by first | omega | (simp only; omega)))
  have k1 := cell_reC (B1 1 _ rfl).1 (x0 _ (by first | omega | (simp only; omega)))
  have k2 := cell_reC (B1 2 _ rfl).1 (x0 _ (by first | omega | (simp only; omega)))
  refine anyK_begin X 3 rfl (by kernel_rfl) ?_
  refine anyK_take 0 3 0 rfl (by decide) (by kernel_rfl) (fun _ _ d _ _ h => by cases d <;> exact h) ?_
  repeat (refine headC_step (fun K hK => ?_); go_simp; first | (refine hK _ ?_; clear hK K) | (apply Exists.intro; refine ⟨fun _ => ?_, hK _ ?_⟩; (exact Calls.re_of (unitPt _)); clear hK K))
  refine headC_nil ?_
  clear k0 k1 k2
  refine anyK_done (by kernel_rfl) ?_ 0
  intro w2 h2
  go_wp2
  go_ret
  exact HG.out _ _ (GivesB.of (xs := #[.int .u8 0]) (hE.trans h2) rfl (Ext.refl _))

theorem byts_short (x y : Int) : #[.int .u8 (2 + y % 2), .int .u8 (x / 65536), .int .u8 (x / 256 % 256), .int .u8 (x % 256)] = (byts (ptByte ⟨x, y, false⟩ true) 4).toArray := rfl

theorem byts_long (x y : Int) : #[.int .u8 4, .int .u8 (x / 65536), .int .u8 (x / 256 % 256), .int .u8 (x % 256), .int .u8 (y / 65536), .int .u8 (y / 256 % 256), .int .u8 (y % 256)] = (byts (ptByte ⟨x, y, false⟩ false) 7).toArray := rfl

set_option maxHeartbeats 3200000 in
set_option maxRecDepth 100000 in
theorem pointBytes_short (x y : Int) (x0 : 0 ≤ x) (x1 : x ≤ 16777215) (y0 : 0 ≤ y) (y1 : y ≤ 16777215) (w : World) : Calls Tryd.prog 44 #[.agg #[.int .i64 x, .int .i64 y, .bool false], .bool true] w fun e w' => GivesB w 4 (ptByte ⟨x, y, false⟩ true) e w' := by
  have hEq := run_eqPt
  have HX := hide (fun w => highBytes_any x w x0 x1)
  have HY := hide (fun w => highBytes_any y w y0 y1)
  have HP := hide (parityPt ⟨x, y, false⟩ y0)
  have HG : Hid (∀ e w', GivesB w 4 (ptByte ⟨x, y, false⟩ true) e w' → GivesB w 4 (ptByte ⟨x, y, false⟩ true) e w') := fun _ _ h => h
  have HE := hide (byts_short x y)
  simp only at HP
  obtain ⟨q, hq⟩ : ∃ q, y % 2 = q := ⟨_, rfl⟩
  have q0 : 0 ≤ q := by omega
  have q1 : q ≤ 1 := by omega
  rw [hq] at HP HE
  have w1' : IntKind.u8.wrap (2 + q) = 2 + q := by simp [IntKind.wrap_u8]; omega
  have w2' : IntKind.i64.wrap (2 + q) = 2 + q := by rw [IntKind.wrap_i64]; omega
  have w3' : wrap64 (2 + q) = 2 + q := by unfold wrap64; omega
  obtain ⟨u0, hu0⟩ : ∃ h, x / 65536 = h := ⟨_, rfl⟩
  obtain ⟨u1, hu1⟩ : ∃ h, x / 256 % 256 = h := ⟨_, rfl⟩
  obtain ⟨u2, hu2⟩ : ∃ h, x % 256 = h := ⟨_, rfl⟩
  obtain ⟨v0, hv0⟩ : ∃ h, y / 65536 = h := ⟨_, rfl⟩
  obtain ⟨v1, hv1⟩ : ∃ h, y / 256 % 256 = h := ⟨_, rfl⟩
  obtain ⟨v2, hv2⟩ : ∃ h, y % 256 = h := ⟨_, rfl⟩
  rw [hu0, hu1, hu2] at HX HE
  rw [hv0, hv1, hv2] at HY
  clear hu0 hu1 hu2 hv0 hv1 hv2 hq x0 x1 y0 y1
  go_enter Tryd.func44, Tryd.ntmps44
  go_wp2
  obtain ⟨V0, hV⟩ : ∃ V, w.alloc (.cells #[.int .i64 x, .int .i64 y, .bool false] 27) = V := ⟨_, rfl⟩
  obtain ⟨B0, hE0, hz0⟩ := box1 w [.int .i64 x, .int .i64 y, .bool false] 27 (hV ▸ Ext.refl _ : Ext (w.alloc (.cells #[.int .i64 x, .int .i64 y, .bool false] 27)) V0)
  simp only [hV]
  clear hV
  obtain ⟨X, hX⟩ : ∃ X : Nat → Prop, X = fun _ => False := ⟨_, rfl⟩
  have x0 : ∀ k, k < V0.heap.size → ¬ X k := fun k h => by rw [hX]; exact fun e => e
  clear hX
  have k0 := cell_reC (B0 0 _ rfl).1 (x0 _ (by first | omega | (simp only; omega)))
  have k1 := cell_reC (B0 1 _ rfl).1 (x0 _ (by first | omega | (simp only; omega)))
  have k2 := cell_reC (B0 2 _ rfl).1 (x0 _ (by first | omega | (simp only; omega)))
  refine anyK_begin X 3 rfl (by kernel_rfl) ?_
  refine anyK_take 0 3 0 rfl (by decide) (by kernel_rfl) (fun _ _ d _ _ h => by cases d <;> exact h) ?_
  repeat (refine headC_step (fun K hK => ?_); go_simp; first | (refine hK _ ?_; clear hK K) | (apply Exists.intro; refine ⟨fun _ => ?_, hK _ ?_⟩; (exact Calls.re_of (unitPt _)); clear hK K))
  refine headC_nil ?_
  clear k0 k1 k2
  refine anyK_done (by kernel_rfl) ?_ 0
  intro V h2
  clear x0 X
  have B1 := B0.ext h2 (by omega)
  have hE := hE0.trans h2
  have hz : w.heap.size + 1 ≤ V.heap.size := Nat.le_trans hz0 (Below.size h2)
  clear h2 B0 hE0 hz0 hEq
  go_wp2
  obtain ⟨X, hX⟩ : ∃ X : Nat → Prop, X = fun k => V.heap.size ≤ k := ⟨_, rfl⟩
  have x0 : ∀ k, k < V.heap.size → ¬ X k := fun k h => by rw [hX]; simp; omega
  have x1 : ∀ k, V.heap.size ≤ k → X k := fun k h => by rw [hX]; exact h
  clear hX
  have k0 := cell_reC (B1 0 _ rfl).1 (x0 _ (by first | omega | (simp only; omega)))
  have k1 := cell_reC (B1 1 _ rfl).1 (x0 _ (by first | omega | (simp only; omega)))
  have k2 := cell_reC (B1 2 _ rfl).1 (x0 _ (by first | omega | (simp only; omega)))
  refine anyK_begin X 10 rfl (by kernel_rfl) ?_
  refine anyK_take 0 6 4 rfl (by decide) (by kernel_rfl) (fun _ _ d _ _ h => by cases d <;> exact h) ?_
  repeat (refine headC_step (fun K hK => ?_); go_simp; first | (refine hK _ ?_; clear hK K) | (apply Exists.intro; refine ⟨fun _ => ?_, hK _ ?_⟩; (first | (go_at_call_of 83 (x); exact Calls.re_of (HX.out _)) | (go_at_call_of 83 (y); exact Calls.re_of (HY.out _))); clear hK K))
  refine headC_nil ?_
  clear k0 k1 k2 HX HY
  refine anyK_two 6 7 (by kernel_rfl) ?_ ?_
  · refine stepK_run rfl ?_
    intro w2 h2 K hK
    go_simp
    refine hK _ _ (.of_ext (h2.trans (Ext.alloc _ _))) ?_
    clear hK K
    refine anyK_one 7 (by kernel_rfl) ?_
    refine stepK_run rfl ?_
    intro w3 h3 K hK
    go_simp
    refine hK _ _ (.of_ext (((h2.trans (Ext.alloc _ _)).trans h3).trans (Ext.alloc _ _))) ?_
    clear hK K
    refine anyK_one 8 (by kernel_rfl) ?_
    refine stepK_run rfl ?_
    intro w4 h4 K hK
    obtain ⟨BS, BT, hV4, lS, lT, ne, sS, sT⟩ := two_alloc (z := [.int .u8 0, .int .u8 0, .int .u8 0]) (z' := [.int .u8 0, .int .u8 0, .int .u8 0]) h2 h3 h4
    clear h2 h3 h4
    generalize w2.heap.size = S at *
    generalize w3.heap.size = T at *
    have s0 := (BS 0 _ rfl).1
    have s1 := (BS 1 _ rfl).1
    have s2 := (BS 2 _ rfl).1
    have y0 := (BS 0 _ rfl).2
    have y1 := (BS 1 _ rfl).2
    have y2 := (BS 2 _ rfl).2
    go_simp
    refine hK _ _ (show Grw X V (putL S 0 [.int .u8 u0, .int .u8 u1, .int .u8 u2] w4) from Grw.putL (x1 _ lS) _ _ _ (.of_ext hV4)) ?_
    clear hK K s0 s1 s2 y0 y1 y2
    refine anyK_one 9 (by kernel_rfl) ?_
    refine stepK_run rfl ?_
    intro w5 h5 K hK
    replace h5 : Ext (putL S 0 [.int .u8 u0, .int .u8 u1, .int .u8 u2] w4) w5 := h5
    have BT5 := (BT.put_other [.int .u8 u0, .int .u8 u1, .int .u8 u2] ne.symm).ext h5 (by rw [size_putL]; exact sT)
    have s0 := (BT5 0 _ rfl).1
    have s1 := (BT5 1 _ rfl).1
    have s2 := (BT5 2 _ rfl).1
    have y0 := (BT5 0 _ rfl).2
    have y1 := (BT5 1 _ rfl).2
    have y2 := (BT5 2 _ rfl).2
    go_simp
    refine hK _ _ (show Grw X V (putL T 0 [.int .u8 v0, .int .u8 v1, .int .u8 v2] w5) from Grw.putL (x1 _ lT) _ _ _ ((Grw.putL (x1 _ lS) _ _ _ (.of_ext hV4)).trans (.of_ext h5))) ?_
    clear hK K s0 s1 s2 y0 y1 y2 BT5
    refine anyK_done (by kernel_rfl) ?_ 0
    intro w6 h6
    replace h6 : Ext (putL T 0 [.int .u8 v0, .int .u8 v1, .int .u8 v2] w5) w6 := h6
    obtain ⟨B4, B5, hV6, sS6, sT6⟩ := two_put (z := [.int .u8 0, .int .u8 0, .int .u8 0]) (u := [.int .u8 u0, .int .u8 u1, .int .u8 u2]) (v := [.int .u8 v0, .int .u8 v1, .int .u8 v2]) rfl rfl BS BT hV4 lS lT ne sS sT h5 h6
    replace B1 := B1.ext hV6 (by omega)
    replace hE := hE.trans hV6
    have hz6 := Nat.le_trans hz (Below.size hV6)
    clear BS BT hV4 lS lT ne sS sT h5 h6 hV6 x0 x1 X w4 w5 hz
    go_wp2
    obtain ⟨X, hX⟩ : ∃ X : Nat → Prop, X = fun _ => False := ⟨_, rfl⟩
    have x0 : ∀ k, k < w6.heap.size → ¬ X k := fun k h => by rw [hX]; exact fun e => e
    clear hX
    have k0 := cell_reC (B1 0 _ rfl).1 (x0 _ (by first | omega | (simp only; omega)))
    have k1 := cell_reC (B1 1 _ rfl).1 (x0 _ (by first | omega | (simp only; omega)))
    have k2 := cell_reC (B1 2 _ rfl).1 (x0 _ (by first | omega | (simp only; omega)))
    have c0 := cell_reC (B4 0 _ rfl).1 (x0 _ (by first | omega | (simp only; omega)))
    have c1 := cell_reC (B4 1 _ rfl).1 (x0 _ (by first | omega | (simp only; omega)))
    have c2 := cell_reC (B4 2 _ rfl).1 (x0 _ (by first | omega | (simp only; omega)))
    refine anyK_begin X 12 rfl (by kernel_rfl) ?_
    refine anyK_take 0 10 2 rfl (by decide) (by kernel_rfl) (fun _ _ d _ _ h => by cases d <;> exact h) ?_
    repeat (refine headC_step (fun K hK => ?_); go_simp; first | (refine hK _ ?_; clear hK K) | (apply Exists.intro; refine ⟨fun _ => ?_, hK _ ?_⟩; (exact Calls.re_of (HP.out _)); clear hK K))
    refine headC_nil ?_
    clear k0 k1 k2 c0 c1 c2 w1' w2' w3'
    refine anyK_one 10 (by kernel_rfl) ?_
    refine stepK_run rfl ?_
    intro w7 h7 K hK
    go_simp
    refine hK _ _ (.of_ext (h7.trans (Ext.alloc _ _))) ?_
    clear hK K
    refine anyK_take 11 1 0 rfl (by decide) (by kernel_rfl) (fun _ _ d _ _ h => by cases d <;> exact h) ?_
    repeat (refine headC_step (fun K hK => ?_); go_simp; first | (refine hK _ ?_; clear hK K) | (apply Exists.intro; refine ⟨fun _ => ?_, hK _ ?_⟩; (fail); clear hK K))
    refine headC_nil ?_
    refine anyK_done (by kernel_rfl) ?_ 0
    intro w8 h8
    go_wp2
    go_ret
    exact HG.out _ _ (GivesB.of (hE.trans h7) HE.out h8)
  · refine stepK_run rfl ?_
    intro w2 h2 K hK
    go_simp
    refine hK _ _ (.of_ext (h2.trans (Ext.alloc _ _))) ?_
    clear hK K
    refine anyK_one 6 (by kernel_rfl) ?_
    refine stepK_run rfl ?_
    intro w3 h3 K hK
    go_simp
    refine hK _ _ (.of_ext (((h2.trans (Ext.alloc _ _)).trans h3).trans (Ext.alloc _ _))) ?_
    clear hK K
    refine anyK_one 8 (by kernel_rfl) ?_
    refine stepK_run rfl ?_
    intro w4 h4 K hK
    obtain ⟨BT, BS, hV4, lT, lS, ne, sT, sS⟩ := two_alloc (z := [.int .u8 0, .int .u8 0, .int .u8 0]) (z' := [.int .u8 0, .int .u8 0, .int .u8 0]) h2 h3 h4
    replace ne := ne.symm
    clear h2 h3 h4
    generalize w2.heap.size = T at *
    generalize w3.heap.size = S at *
    have s0 := (BS 0 _ rfl).1
    have s1 := (BS 1 _ rfl).1
    have s2 := (BS 2 _ rfl).1
    have y0 := (BS 0 _ rfl).2
    have y1 := (BS 1 _ rfl).2
    have y2 := (BS 2 _ rfl).2
    go_simp
    refine hK _ _ (show Grw X V (putL S 0 [.int .u8 u0, .int .u8 u1, .int .u8 u2] w4) from Grw.putL (x1 _ lS) _ _ _ (.of_ext hV4)) ?_
    clear hK K s0 s1 s2 y0 y1 y2
    refine anyK_one 9 (by kernel_rfl) ?_
    refine stepK_run rfl ?_
    intro w5 h5 K hK
    replace h5 : Ext (putL S 0 [.int .u8 u0, .int .u8 u1, .int .u8 u2] w4) w5 := h5
    have BT5 := (BT.put_other [.int .u8 u0, .int .u8 u1, .int .u8 u2] ne.symm).ext h5 (by rw [size_putL]; exact sT)
    have s0 := (BT5 0 _ rfl).1
    have s1 := (BT5 1 _ rfl).1
    have s2 := (BT5 2 _ rfl).1
    have y0 := (BT5 0 _ rfl).2
    have y1 := (BT5 1 _ rfl).2
    have y2 := (BT5 2 _ rfl).2
    go_simp
    refine hK _ _ (show Grw X V (putL T 0 [.int .u8 v0, .int .u8 v1, .int .u8 v2] w5) from Grw.putL (x1 _ lT) _ _ _ ((Grw.putL (x1 _ lS) _ _ _ (.of_ext hV4)).trans (.of_ext h5))) ?_
    clear hK K s0 s1 s2 y0 y1 y2 BT5
    refine anyK_done (by kernel_rfl) ?_ 0
    intro w6 h6
    replace h6 : Ext (putL T 0 [.int .u8 v0, .int .u8 v1, .int .u8 v2] w5) w6 := h6
    obtain ⟨B4, B5, hV6, sS6, sT6⟩ := two_put (z := [.int .u8 0, .int .u8 0, .int .u8 0]) (u := [.int .u8 u0, .int .u8 u1, .int .u8 u2]) (v := [.int .u8 v0, .int .u8 v1, .int .u8 v2]) rfl rfl BS BT hV4 lS lT ne sS sT h5 h6
    replace B1 := B1.ext hV6 (by omega)
    replace hE := hE.trans hV6
    have hz6 := Nat.le_trans hz (Below.size hV6)
    clear BS BT hV4 lS lT ne sS sT h5 h6 hV6 x0 x1 X w4 w5 hz
    go_wp2
    obtain ⟨X, hX⟩ : ∃ X : Nat → Prop, X = fun _ => False := ⟨_, rfl⟩
    have x0 : ∀ k, k < w6.heap.size → ¬ X k := fun k h => by rw [hX]; exact fun e => e
    clear hX
    have k0 := cell_reC (B1 0 _ rfl).1 (x0 _ (by first | omega | (simp only; omega)))
    have k1 := cell_reC (B1 1 _ rfl).1 (x0 _ (by first | omega | (simp only; omega)))
    have k2 := cell_reC (B1 2 _ rfl).1 (x0 _ (by first | omega | (simp only; omega)))
    have c0 := cell_reC (B4 0 _ rfl).1 (x0 _ (by first | omega | (simp only; omega)))
    have c1 := cell_reC (B4 1 _ rfl).1 (x0 _ (by first | omega | (simp only; omega)))
    have c2 := cell_reC (B4 2 _ rfl).1 (x0 _ (by first | omega | (simp only; omega)))
    refine anyK_begin X 12 rfl (by kernel_rfl) ?_
    refine anyK_take 0 10 2 rfl (by decide) (by kernel_rfl) (fun _ _ d _ _ h => by cases d <;> exact h) ?_
    repeat (refine headC_step (fun K hK => ?_); go_simp; first | (refine hK _ ?_; clear hK K) | (apply Exists.intro; refine ⟨fun _ => ?_, hK _ ?_⟩; (exact Calls.re_of (HP.out _)); clear hK K))
    refine headC_nil ?_
    clear k0 k1 k2 c0 c1 c2 w1' w2' w3'
    refine anyK_one 10 (by kernel_rfl) ?_
    refine stepK_run rfl ?_
    intro w7 h7 K hK
    go_simp
    refine hK _ _ (.of_ext (h7.trans (Ext.alloc _ _))) ?_
    clear hK K
    refine anyK_take 11 1 0 rfl (by decide) (by kernel_rfl) (fun _ _ d _ _ h => by cases d <;> exact h) ?_
    repeat (refine headC_step (fun K hK => ?_); go_simp; first | (refine hK _ ?_; clear hK K) | (apply Exists.intro; refine ⟨fun _ => ?_, hK _ ?_⟩; (fail); clear hK K))
    refine headC_nil ?_
    refine anyK_done (by kernel_rfl) ?_ 0
    intro w8 h8
    go_wp2
    go_ret
    exact HG.out _ _ (GivesB.of (hE.trans h7) HE.out h8)

set_option maxHeartbeats 3200000 in
set_option maxRecDepth 100000 in
theorem pointBytes_long (x y : Int) (x0 : 0 ≤ x) (x1 : x ≤ 16777215) (y0 : 0 ≤ y) (y1 : y ≤ 16777215) (w : World) : Calls Tryd.prog 44 #[.agg #[.int .i64 x, .int .i64 y, .bool false], .bool false] w fun e w' => GivesB w 7 (ptByte ⟨x, y, false⟩ false) e w' := by
  have hEq := run_eqPt
  have HX := hide (fun w => highBytes_any x w x0 x1)
  have HY := hide (fun w => highBytes_any y w y0 y1)
  have HP := hide (parityPt ⟨x, y, false⟩ y0)
  have HG : Hid (∀ e w', GivesB w 7 (ptByte ⟨x, y, false⟩ false) e w' → GivesB w 7 (ptByte ⟨x, y, false⟩ false) e w') := fun _ _ h => h
  have HE := hide (byts_long x y)
  simp only at HP
  obtain ⟨q, hq⟩ : ∃ q, y % 2 = q := ⟨_, rfl⟩
  have q0 : 0 ≤ q := by omega
  have q1 : q ≤ 1 := by omega
  rw [hq] at HP
  have w1' : IntKind.u8.wrap (2 + q) = 2 + q := by simp [IntKind.wrap_u8]; omega
  have w2' : IntKind.i64.wrap (2 + q) = 2 + q := by rw [IntKind.wrap_i64]; omega
  have w3' : wrap64 (2 + q) = 2 + q := by unfold wrap64; omega
  obtain ⟨u0, hu0⟩ : ∃ h, x / 65536 = h := ⟨_, rfl⟩
  obtain ⟨u1, hu1⟩ : ∃ h, x / 256 % 256 = h := ⟨_, rfl⟩
  obtain ⟨u2, hu2⟩ : ∃ h, x % 256 = h := ⟨_, rfl⟩
  obtain ⟨v0, hv0⟩ : ∃ h, y / 65536 = h := ⟨_, rfl⟩
  obtain ⟨v1, hv1⟩ : ∃ h, y / 256 % 256 = h := ⟨_, rfl⟩
  obtain ⟨v2, hv2⟩ : ∃ h, y % 256 = h := ⟨_, rfl⟩
  rw [hu0, hu1, hu2] at HX HE
  rw [hv0, hv1, hv2] at HY HE
  clear hu0 hu1 hu2 hv0 hv1 hv2 hq x0 x1 y0 y1
  go_enter Tryd.func44, Tryd.ntmps44
  go_wp2
  obtain ⟨V0, hV⟩ : ∃ V, w.alloc (.cells #[.int .i64 x, .int .i64 y, .bool false] 27) = V := ⟨_, rfl⟩
  obtain ⟨B0, hE0, hz0⟩ := box1 w [.int .i64 x, .int .i64 y, .bool false] 27 (hV ▸ Ext.refl _ : Ext (w.alloc (.cells #[.int .i64 x, .int .i64 y, .bool false] 27)) V0)
  simp only [hV]
  clear hV
  obtain ⟨X, hX⟩ : ∃ X : Nat → Prop, X = fun _ => False := ⟨_, rfl⟩
  have x0 : ∀ k, k < V0.heap.size → ¬ X k := fun k h => by rw [hX]; exact fun e => e
  clear hX
  have k0 := cell_reC (B0 0 _ rfl).1 (x0 _ (by first | omega | (simp only; omega)))
  have k1 := cell_reC (B0 1 _ rfl).1 (x0 _ (by first | omega | (simp only; omega)))
  have k2 := cell_reC (B0 2 _ rfl).1 (x0 _ (by first | omega | (simp only; omega)))
  refine anyK_begin X 3 rfl (by kernel_rfl) ?_
  refine anyK_take 0 3 0 rfl (by decide) (by kernel_rfl) (fun _ _ d _ _ h => by cases d <;> exact h) ?_
  repeat (refine headC_step (fun K hK => ?_); go_simp; first | (refine hK _ ?_; clear hK K) | (apply Exists.intro; refine ⟨fun _ => ?_, hK _ ?_⟩; (exact Calls.re_of (unitPt _)); clear hK K))
  refine headC_nil ?_
  clear k0 k1 k2
  refine anyK_done (by kernel_rfl) ?_ 0
  intro V h2
  clear x0 X
  have B1 := B0.ext h2 (by omega)
  have hE := hE0.trans h2
  have hz : w.heap.size + 1 ≤ V.heap.size := Nat.le_trans hz0 (Below.size h2)
  clear h2 B0 hE0 hz0 hEq
  go_wp2
  obtain ⟨X, hX⟩ : ∃ X : Nat → Prop, X = fun k => V.heap.size ≤ k := ⟨_, rfl⟩
  have x0 : ∀ k, k < V.heap.size → ¬ X k := fun k h => by rw [hX]; simp; omega
  have x1 : ∀ k, V.heap.size ≤ k → X k := fun k h => by rw [hX]; exact h
  clear hX
  have k0 := cell_reC (B1 0 _ rfl).1 (x0 _ (by first | omega | (simp only; omega)))
  have k1 := cell_reC (B1 1 _ rfl).1 (x0 _ (by first | omega | (simp only; omega)))
  have k2 := cell_reC (B1 2 _ rfl).1 (x0 _ (by first | omega | (simp only; omega)))
  refine anyK_begin X 10 rfl (by kernel_rfl) ?_
  refine anyK_take 0 6 4 rfl (by decide) (by kernel_rfl) (fun _ _ d _ _ h => by cases d <;> exact h) ?_
  repeat (refine headC_step (fun K hK => ?_); go_simp; first | (refine hK _ ?_; clear hK K) | (apply Exists.intro; refine ⟨fun _ => ?_, hK _ ?_⟩; (first | (go_at_call_of 83 (x); exact Calls.re_of (HX.out _)) | (go_at_call_of 83 (y); exact Calls.re_of (HY.out _))); clear hK K))
  refine headC_nil ?_
  clear k0 k1 k2 HX HY
  refine anyK_two 6 7 (by kernel_rfl) ?_ ?_
  · refine stepK_run rfl ?_
    intro w2 h2 K hK
    go_simp
    refine hK _ _ (.of_ext (h2.trans (Ext.alloc _ _))) ?_
    clear hK K
    refine anyK_one 7 (by kernel_rfl) ?_
    refine stepK_run rfl ?_
    intro w3 h3 K hK
    go_simp
    refine hK _ _ (.of_ext (((h2.trans (Ext.alloc _ _)).trans h3).trans (Ext.alloc _ _))) ?_
    clear hK K
    refine anyK_one 8 (by kernel_rfl) ?_
    refine stepK_run rfl ?_
    intro w4 h4 K hK
    obtain ⟨BS, BT, hV4, lS, lT, ne, sS, sT⟩ := two_alloc (z := [.int .u8 0, .int .u8 0, .int .u8 0]) (z' := [.int .u8 0, .int .u8 0, .int .u8 0]) h2 h3 h4
    clear h2 h3 h4
    generalize w2.heap.size = S at *
    generalize w3.heap.size = T at *
    have s0 := (BS 0 _ rfl).1
    have s1 := (BS 1 _ rfl).1
    have s2 := (BS 2 _ rfl).1
    have y0 := (BS 0 _ rfl).2
    have y1 := (BS 1 _ rfl).2
    have y2 := (BS 2 _ rfl).2
    go_simp
    refine hK _ _ (show Grw X V (putL S 0 [.int .u8 u0, .int .u8 u1, .int .u8 u2] w4) from Grw.putL (x1 _ lS) _ _ _ (.of_ext hV4)) ?_
    clear hK K s0 s1 s2 y0 y1 y2
    refine anyK_one 9 (by kernel_rfl) ?_
    refine stepK_run rfl ?_
    intro w5 h5 K hK
    replace h5 : Ext (putL S 0 [.int .u8 u0, .int .u8 u1, .int .u8 u2] w4) w5 := h5
    have BT5 := (BT.put_other [.int .u8 u0, .int .u8 u1, .int .u8 u2] ne.symm).ext h5 (by rw [size_putL]; exact sT)
    have s0 := (BT5 0 _ rfl).1
    have s1 := (BT5 1 _ rfl).1
    have s2 := (BT5 2 _ rfl).1
    have y0 := (BT5 0 _ rfl).2
    have y1 := (BT5 1 _ rfl).2
    have y2 := (BT5 2 _ rfl).2
    go_simp
    refine hK _ _ (show Grw X V (putL T 0 [.int .u8 v0, .int .u8 v1, .int .u8 v2] w5) from Grw.putL (x1 _ lT) _ _ _ ((Grw.putL (x1 _ lS) _ _ _ (.of_ext hV4)).trans (.of_ext h5))) ?_
    clear hK K s0 s1 s2 y0 y1 y2 BT5
    refine anyK_done (by kernel_rfl) ?_ 0
    intro w6 h6
    replace h6 : Ext (putL T 0 [.int .u8 v0, .int .u8 v1, .int .u8 v2] w5) w6 := h6
    obtain ⟨B4, B5, hV6, sS6, sT6⟩ := two_put (z := [.int .u8 0, .int .u8 0, .int .u8 0]) (u := [.int .u8 u0, .int .u8 u1, .int .u8 u2]) (v := [.int .u8 v0, .int .u8 v1, .int .u8 v2]) rfl rfl BS BT hV4 lS lT ne sS sT h5 h6
    replace B1 := B1.ext hV6 (by omega)
    replace hE := hE.trans hV6
    have hz6 := Nat.le_trans hz (Below.size hV6)
    clear BS BT hV4 lS lT ne sS sT h5 h6 hV6 x0 x1 X w4 w5 hz
    have s0 := (B4 0 _ rfl).1
    have s1 := (B4 1 _ rfl).1
    have s2 := (B4 2 _ rfl).1
    have t0 := (B5 0 _ rfl).1
    have t1 := (B5 1 _ rfl).1
    have t2 := (B5 2 _ rfl).1
    go_wp2
    go_ret
    exact HG.out _ _ (GivesB.of hE HE.out (Ext.refl _))
  · refine stepK_run rfl ?_
    intro w2 h2 K hK
    go_simp
    refine hK _ _ (.of_ext (h2.trans (Ext.alloc _ _))) ?_
    clear hK K
    refine anyK_one 6 (by kernel_rfl) ?_
    refine stepK_run rfl ?_
    intro w3 h3 K hK
    go_simp
    refine hK _ _ (.of_ext (((h2.trans (Ext.alloc _ _)).trans h3).trans (Ext.alloc _ _))) ?_
    clear hK K
    refine anyK_one 8 (by kernel_rfl) ?_
    refine stepK_run rfl ?_
    intro w4 h4 K hK
    obtain ⟨BT, BS, hV4, lT, lS, ne, sT, sS⟩ := two_alloc (z := [.int .u8 0, .int .u8 0, .int .u8 0]) (z' := [.int .u8 0, .int .u8 0, .int .u8 0]) h2 h3 h4
    replace ne := ne.symm
    clear h2 h3 h4
    generalize w2.heap.size = T at *
    generalize w3.heap.size = S at *
    have s0 := (BS 0 _ rfl).1
    have s1 := (BS 1 _ rfl).1
    have s2 := (BS 2 _ rfl).1
    have y0 := (BS 0 _ rfl).2
    have y1 := (BS 1 _ rfl).2
    have y2 := (BS 2 _ rfl).2
    go_simp
    refine hK _ _ (show Grw X V (putL S 0 [.int .u8 u0, .int .u8 u1, .int .u8 u2] w4) from Grw.putL (x1 _ lS) _ _ _ (.of_ext hV4)) ?_
    clear hK K s0 s1 s2 y0 y1 y2
    refine anyK_one 9 (by kernel_rfl) ?_
    refine stepK_run rfl ?_
    intro w5 h5 K hK
    replace h5 : Ext (putL S 0 [.int .u8 u0, .int .u8 u1, .int .u8 u2] w4) w5 := h5
    have BT5 := (BT.put_other [.int .u8 u0, .int .u8 u1, .int .u8 u2] ne.symm).ext h5 (by rw [size_putL]; exact sT)
    have s0 := (BT5 0 _ rfl).1
    have s1 := (BT5 1 _ rfl).1
    have s2 := (BT5 2 _ rfl).1
    have y0 := (BT5 0 _ rfl).2
    have y1 := (BT5 1 _ rfl).2
    have y2 := (BT5 2 _ rfl).2
    go_simp
    refine hK _ _ (show Grw X V (putL T 0 [.int .u8 v0, .int .u8 v1, .int .u8 v2] w5) from Grw.putL (x1 _ lT) _ _ _ ((Grw.putL (x1 _ lS) _ _ _ (.of_ext hV4)).trans (.of_ext h5))) ?_
    clear hK K s0 s1 s2 y0 y1 y2 BT5
    refine anyK_done (by kernel_rfl) ?_ 0
    intro w6 h6
    replace h6 : Ext (putL T 0 [.int .u8 v0, .int .u8 v1, .int .u8 v2] w5) w6 := h6
    obtain ⟨B4, B5, hV6, sS6, sT6⟩ := two_put (z := [.int .u8 0, .int .u8 0, .int .u8 0]) (u := [.int .u8 u0, .int .u8 u1, .int .u8 u2]) (v := [.int .u8 v0, .int .u8 v1, .int .u8 v2]) rfl rfl BS BT hV4 lS lT ne sS sT h5 h6
    replace B1 := B1.ext hV6 (by omega)
    replace hE := hE.trans hV6
    have hz6 := Nat.le_trans hz (Below.size hV6)
    clear BS BT hV4 lS lT ne sS sT h5 h6 hV6 x0 x1 X w4 w5 hz
    have s0 := (B4 0 _ rfl).1
    have s1 := (B4 1 _ rfl).1
    have s2 := (B4 2 _ rfl).1
    have t0 := (B5 0 _ rfl).1
    have t1 := (B5 1 _ rfl).1
    have t2 := (B5 2 _ rfl).1
    go_wp2
    go_ret
    exact HG.out _ _ (GivesB.of hE HE.out (Ext.refl _))

set_option linter.unusedSimpArgs false

theorem ext_reC {X : Nat → Prop} {w V : World} (hE : Ext w V) (h : ∀ k, k < w.heap.size → ¬ X k) (p : ReC X V) : Ext w p.val :=
  Below.trans (show Below w.heap.size w V from hE) (p.ok.below h (Below.size hE))

theorem GivesB.lift {w W w' : World} {m : Nat} {F : Nat → Int} {e : Ending} (h : Ext w W) (k : GivesB W m F e w') : GivesB w m F e w' := by
  obtain ⟨g, e, hg, hl, hx⟩ := k
  exact ⟨g, e, Nat.le_trans (Below.size h) hg, hl, h.trans hx⟩

theorem GivesB.ex {w w' : World} {m : Nat} {F : Nat → Int} {e : Ending} (k : GivesB w m F e w') : ∃ v, e = .returned v ∧ GivesB w m F (.returned v) w' := by
  obtain ⟨g, rfl, h⟩ := k
  exact ⟨_, rfl, g, rfl, h⟩

set_option maxHeartbeats 1600000 in
set_option maxRecDepth 100000 in
theorem cloPointBytes_yes (P A B N gx gy : Int) (c : Pt) (short : Bool) (m : Nat) (F : Nat → Int) (C0 C1 C2 : Nat) (w : World) (B0 : Blk w C0 [.int .i64 P, .int .i64 A, .int .i64 B, .int .i64 N, .int .i64 gx, .int .i64 gy]) (l0 : C0 < w.heap.size) (B1 : Blk w C1 [.int .i64 c.x, .int .i64 c.y, .bool c.far]) (l1 : C1 < w.heap.size) (B2 : Blk w C2 [.bool short]) (l2 : C2 < w.heap.size) (hG : Hid (∀ W : World, Calls Tryd.prog 45 #[.agg #[.int .i64 P, .int .i64 A, .int .i64 B, .int .i64 N, .int .i64 gx, .int .i64 gy]] W fun e w' => e = .returned (.agg #[.int .i64 0, .int .i64 0, .bool true, .int .i64 gx, .int .i64 gy, .bool false, .func (.func 87) #[.agg #[.int .i64 P, .int .i64 A, .int .i64 B, .int .i64 N, .int .i64 gx, .int .i64 gy]] #[], .func (.func 88) #[.agg #[.int .i64 P, .int .i64 A, .int .i64 B, .int .i64 N, .int .i64 gx, .int .i64 gy]] #[], .func (.func 89) #[.agg #[.int .i64 P, .int .i64 A, .int .i64 B, .int .i64 N, .int .i64 gx, .int .i64 gy]] #[], .func (.func 90) #[.agg #[.int .i64 P, .int .i64 A, .int .i64 B, .int .i64 N, .int .i64 gx, .int .i64 gy]] #[], .func (.func 84) #[] #[]]) ∧ Ext W w')) (hK' : Hid (∀ W : World, Calls Tryd.prog 46 #[.agg #[.int .i64 0, .int .i64 0, .bool true, .int .i64 gx, .int .i64 gy, .bool false, .func (.func 87) #[.agg #[.int .i64 P, .int .i64 A, .int .i64 B, .int .i64 N, .int .i64 gx, .int .i64 gy]] #[], .func (.func 88) #[.agg #[.int .i64 P, .int .i64 A, .int .i64 B, .int .i64 N, .int .i64 gx, .int .i64 gy]] #[], .func (.func 89) #[.agg #[.int .i64 P, .int .i64 A, .int .i64 B, .int .i64 N, .int .i64 gx, .int .i64 gy]] #[], .func (.func 90) #[.agg #[.int .i64 P, .int .i64 A, .int .i64 B, .int .i64 N, .int .i64 gx, .int .i64 gy]] #[], .func (.func 84) #[] #[]], .agg #[.int .i64 c.x, .int .i64 c.y, .bool c.far]] W fun e w' => e = .returned (.agg #[.int .i64 c.x, .int .i64 c.y, .bool c.far]) ∧ Ext W w')) (hF : Hid (∀ W : World, Calls Tryd.prog 44 #[.agg #[.int .i64 c.x, .int .i64 c.y, .bool c.far], .bool short] W fun e w' => GivesB W m F e w')) :
    Calls Tryd.prog 43 #[.pointer (some ⟨C0, 0, none⟩), .pointer (some ⟨C1, 0, none⟩), .pointer (some ⟨C2, 0, none⟩)] w fun e w' => GivesB w m F e w' := by
  have HQ : Hid (∀ W e w', Ext w W → GivesB W m F e w' → GivesB w m F e w') := fun W e w' h k => k.lift h
  have HX : Hid (∀ (g : Nat) (w1 w2 : World), GivesB w m F (.returned (.slice (some ⟨g, 0, none⟩) m m)) w1 → Ext w1 w2 → GivesB w m F (.returned (.slice (some ⟨g, 0, none⟩) m m)) w2) := fun g w1 w2 h k => by
    obtain ⟨g', e, hg, hl, hx⟩ := h
    exact ⟨g', e, hg, hl.ext k, hx.trans k⟩
  go_enter Tryd.func43, Tryd.ntmps43
  go_wp2
  obtain ⟨X, hX⟩ : ∃ X : Nat → Prop, X = fun _ => False := ⟨_, rfl⟩
  have x0 : ∀ k, k < w.heap.size → ¬ X k := fun k h => by rw [hX]; exact fun e => e
  clear hX
  have c0 := cell_reC (B0 0 _ rfl).1 (x0 _ (by first | omega | (simp only; omega)))
  have c1 := cell_reC (B0 1 _ rfl).1 (x0 _ (by first | omega | (simp only; omega)))
  have c2 := cell_reC (B0 2 _ rfl).1 (x0 _ (by first | omega | (simp only; omega)))
  have c3 := cell_reC (B0 3 _ rfl).1 (x0 _ (by first | omega | (simp only; omega)))
  have c4 := cell_reC (B0 4 _ rfl).1 (x0 _ (by first | omega | (simp only; omega)))
  have c5 := cell_reC (B0 5 _ rfl).1 (x0 _ (by first | omega | (simp only; omega)))
  have d0 := cell_reC (B1 0 _ rfl).1 (x0 _ (by first | omega | (simp only; omega)))
  have d1 := cell_reC (B1 1 _ rfl).1 (x0 _ (by first | omega | (simp only; omega)))
  have d2 := cell_reC (B1 2 _ rfl).1 (x0 _ (by first | omega | (simp only; omega)))
  have e0 := cell_reC (B2 0 _ rfl).1 (x0 _ (by first | omega | (simp only; omega)))
  refine anyK_begin X 7 rfl (by kernel_rfl) ?_
  refine anyK_take 0 5 2 rfl (by decide) (by kernel_rfl) (fun _ _ d _ _ h => by cases d <;> exact h) ?_
  repeat (refine headC_step (fun K hK => ?_); go_simp; first | (refine hK _ ?_; clear hK K) | (apply Exists.intro; refine ⟨fun _ => ?_, hK _ ?_⟩; (first | (go_at_call 45; exact Calls.re_of (hG.out _)) | (go_at_call 46; exact Calls.re_of (hK'.out _))); clear hK K))
  refine headC_nil ?_
  clear c0 c1 c2 c3 c4 c5 d0 d1 d2 e0
  refine anyK_one 5 (by kernel_rfl) ?_
  refine stepK_run rfl ?_
  intro w2 h2 K hK
  go_simp
  refine (hF.out _).mono ?_
  rintro e w3 h3
  replace h3 := HQ.out _ _ _ h2 h3
  obtain ⟨g, rfl, hg⟩ := h3
  have hx3 := hg.2.2
  have H3 : Hid (GivesB w m F (.returned (.slice (some ⟨g, 0, none⟩) m m)) w3) := ⟨g, rfl, hg⟩
  clear hg
  go_simp
  refine hK _ _ (.of_ext hx3) ?_
  clear hK K h2
  refine anyK_take 6 1 0 rfl (by decide) (by kernel_rfl) (fun _ _ d _ _ h => by cases d <;> exact h) ?_
  repeat (refine headC_step (fun K hK => ?_); go_simp; first | (refine hK _ ?_; clear hK K) | (apply Exists.intro; refine ⟨fun _ => ?_, hK _ ?_⟩; (fail); clear hK K))
  refine headC_nil ?_
  refine anyK_done (by kernel_rfl) ?_ 0
  intro w4 h4
  go_wp2
  go_ret
  exact HX.out _ _ _ H3.out h4

set_option maxHeartbeats 1600000 in
set_option maxRecDepth 100000 in
theorem cloPointBytes_noG (P A B N gx gy : Int) (c : Pt) (short : Bool) (C0 C1 C2 : Nat) (w : World) (B0 : Blk w C0 [.int .i64 P, .int .i64 A, .int .i64 B, .int .i64 N, .int .i64 gx, .int .i64 gy]) (l0 : C0 < w.heap.size) (B1 : Blk w C1 [.int .i64 c.x, .int .i64 c.y, .bool c.far]) (l1 : C1 < w.heap.size) (B2 : Blk w C2 [.bool short]) (l2 : C2 < w.heap.size) (hG : Hid (∀ W : World, Calls Tryd.prog 45 #[.agg #[.int .i64 P, .int .i64 A, .int .i64 B, .int .i64 N, .int .i64 gx, .int .i64 gy]] W fun e w' => e = .panicked [nrE] ∧ Ext W w')) :
    Calls Tryd.prog 43 #[.pointer (some ⟨C0, 0, none⟩), .pointer (some ⟨C1, 0, none⟩), .pointer (some ⟨C2, 0, none⟩)] w fun e w' => e = .panicked [nrE] ∧ Ext w w' := by
  go_enter Tryd.func43, Tryd.ntmps43
  go_wp2
  obtain ⟨X, hX⟩ : ∃ X : Nat → Prop, X = fun _ => False := ⟨_, rfl⟩
  have x0 : ∀ k, k < w.heap.size → ¬ X k := fun k h => by rw [hX]; exact fun e => e
  clear hX
  have c0 := cell_reC (B0 0 _ rfl).1 (x0 _ (by first | omega | (simp only; omega)))
  have c1 := cell_reC (B0 1 _ rfl).1 (x0 _ (by first | omega | (simp only; omega)))
  have c2 := cell_reC (B0 2 _ rfl).1 (x0 _ (by first | omega | (simp only; omega)))
  have c3 := cell_reC (B0 3 _ rfl).1 (x0 _ (by first | omega | (simp only; omega)))
  have c4 := cell_reC (B0 4 _ rfl).1 (x0 _ (by first | omega | (simp only; omega)))
  have c5 := cell_reC (B0 5 _ rfl).1 (x0 _ (by first | omega | (simp only; omega)))
  have d0 := cell_reC (B1 0 _ rfl).1 (x0 _ (by first | omega | (simp only; omega)))
  have d1 := cell_reC (B1 1 _ rfl).1 (x0 _ (by first | omega | (simp only; omega)))
  have d2 := cell_reC (B1 2 _ rfl).1 (x0 _ (by first | omega | (simp only; omega)))
  have e0 := cell_reC (B2 0 _ rfl).1 (x0 _ (by first | omega | (simp only; omega)))
  refine anyK_begin X 7 rfl (by kernel_rfl) ?_
  refine anyK_take 0 1 6 rfl (by decide) (by kernel_rfl) (fun _ _ d _ _ h => by cases d <;> exact h) ?_
  repeat (refine headC_step (fun K hK => ?_); go_simp; first | (refine hK _ ?_; clear hK K) | (apply Exists.intro; refine ⟨fun _ => ?_, hK _ ?_⟩; (fail); clear hK K))
  refine headC_nil ?_
  refine anyK_take 2 1 5 rfl (by decide) (by kernel_rfl) (fun _ _ d _ _ h => by cases d <;> exact h) ?_
  repeat (refine headC_step (fun K hK => ?_); go_simp; first | (refine hK _ ?_; clear hK K) | (apply Exists.intro; refine ⟨fun _ => ?_, hK _ ?_⟩; (fail); clear hK K))
  refine headC_nil ?_
  refine anyK_take 4 1 4 rfl (by decide) (by kernel_rfl) (fun _ _ d _ _ h => by cases d <;> exact h) ?_
  repeat (refine headC_step (fun K hK => ?_); go_simp; first | (refine hK _ ?_; clear hK K) | (apply Exists.intro; refine ⟨fun _ => ?_, hK _ ?_⟩; (fail); clear hK K))
  refine headC_nil ?_
  clear c0 c1 c2 c3 c4 c5 d0 d1 d2 e0
  refine anyK_one 1 (by kernel_rfl) ?_
  refine stepK_run rfl ?_
  intro w2 h2 K hK
  go_simp
  refine (hG.out _).mono ?_
  rintro e w3 ⟨rfl, h3⟩
  exact ⟨rfl, rfl, h2.trans h3⟩

set_option maxHeartbeats 1600000 in
set_option maxRecDepth 100000 in
theorem cloPointBytes_noK (P A B N gx gy : Int) (c : Pt) (short : Bool) (C0 C1 C2 : Nat) (w : World) (B0 : Blk w C0 [.int .i64 P, .int .i64 A, .int .i64 B, .int .i64 N, .int .i64 gx, .int .i64 gy]) (l0 : C0 < w.heap.size) (B1 : Blk w C1 [.int .i64 c.x, .int .i64 c.y, .bool c.far]) (l1 : C1 < w.heap.size) (B2 : Blk w C2 [.bool short]) (l2 : C2 < w.heap.size) (hG : Hid (∀ W : World, Calls Tryd.prog 45 #[.agg #[.int .i64 P, .int .i64 A, .int .i64 B, .int .i64 N, .int .i64 gx, .int .i64 gy]] W fun e w' => e = .returned (.agg #[.int .i64 0, .int .i64 0, .bool true, .int .i64 gx, .int .i64 gy, .bool false, .func (.func 87) #[.agg #[.int .i64 P, .int .i64 A, .int .i64 B, .int .i64 N, .int .i64 gx, .int .i64 gy]] #[], .func (.func 88) #[.agg #[.int .i64 P, .int .i64 A, .int .i64 B, .int .i64 N, .int .i64 gx, .int .i64 gy]] #[], .func (.func 89) #[.agg #[.int .i64 P, .int .i64 A, .int .i64 B, .int .i64 N, .int .i64 gx, .int .i64 gy]] #[], .func (.func 90) #[.agg #[.int .i64 P, .int .i64 A, .int .i64 B, .int .i64 N, .int .i64 gx, .int .i64 gy]] #[], .func (.func 84) #[] #[]]) ∧ Ext W w')) (hK' : Hid (∀ W : World, Calls Tryd.prog 46 #[.agg #[.int .i64 0, .int .i64 0, .bool true, .int .i64 gx, .int .i64 gy, .bool false, .func (.func 87) #[.agg #[.int .i64 P, .int .i64 A, .int .i64 B, .int .i64 N, .int .i64 gx, .int .i64 gy]] #[], .func (.func 88) #[.agg #[.int .i64 P, .int .i64 A, .int .i64 B, .int .i64 N, .int .i64 gx, .int .i64 gy]] #[], .func (.func 89) #[.agg #[.int .i64 P, .int .i64 A, .int .i64 B, .int .i64 N, .int .i64 gx, .int .i64 gy]] #[], .func (.func 90) #[.agg #[.int .i64 P, .int .i64 A, .int .i64 B, .int .i64 N, .int .i64 gx, .int .i64 gy]] #[], .func (.func 84) #[] #[]], .agg #[.int .i64 c.x, .int .i64 c.y, .bool c.far]] W fun e w' => e = .panicked [nrE] ∧ Ext W w')) :
    Calls Tryd.prog 43 #[.pointer (some ⟨C0, 0, none⟩), .pointer (some ⟨C1, 0, none⟩), .pointer (some ⟨C2, 0, none⟩)] w fun e w' => e = .panicked [nrE] ∧ Ext w w' := by
  go_enter Tryd.func43, Tryd.ntmps43
  go_wp2
  obtain ⟨X, hX⟩ : ∃ X : Nat → Prop, X = fun _ => False := ⟨_, rfl⟩
  have x0 : ∀ k, k < w.heap.size → ¬ X k := fun k h => by rw [hX]; exact fun e => e
  clear hX
  have c0 := cell_reC (B0 0 _ rfl).1 (x0 _ (by first | omega | (simp only; omega)))
  have c1 := cell_reC (B0 1 _ rfl).1 (x0 _ (by first | omega | (simp only; omega)))
  have c2 := cell_reC (B0 2 _ rfl).1 (x0 _ (by first | omega | (simp only; omega)))
  have c3 := cell_reC (B0 3 _ rfl).1 (x0 _ (by first | omega | (simp only; omega)))
  have c4 := cell_reC (B0 4 _ rfl).1 (x0 _ (by first | omega | (simp only; omega)))
  have c5 := cell_reC (B0 5 _ rfl).1 (x0 _ (by first | omega | (simp only; omega)))
  have d0 := cell_reC (B1 0 _ rfl).1 (x0 _ (by first | omega | (simp only; omega)))
  have d1 := cell_reC (B1 1 _ rfl).1 (x0 _ (by first | omega | (simp only; omega)))
  have d2 := cell_reC (B1 2 _ rfl).1 (x0 _ (by first | omega | (simp only; omega)))
  have e0 := cell_reC (B2 0 _ rfl).1 (x0 _ (by first | omega | (simp only; omega)))
  refine anyK_begin X 7 rfl (by kernel_rfl) ?_
  refine anyK_take 0 3 4 rfl (by decide) (by kernel_rfl) (fun _ _ d _ _ h => by cases d <;> exact h) ?_
  repeat (refine headC_step (fun K hK => ?_); go_simp; first | (refine hK _ ?_; clear hK K) | (apply Exists.intro; refine ⟨fun _ => ?_, hK _ ?_⟩; ((go_at_call 45; exact Calls.re_of (hG.out _))); clear hK K))
  refine headC_nil ?_
  refine anyK_take 4 1 3 rfl (by decide) (by kernel_rfl) (fun _ _ d _ _ h => by cases d <;> exact h) ?_
  repeat (refine headC_step (fun K hK => ?_); go_simp; first | (refine hK _ ?_; clear hK K) | (apply Exists.intro; refine ⟨fun _ => ?_, hK _ ?_⟩; (fail); clear hK K))
  refine headC_nil ?_
  clear c0 c1 c2 c3 c4 c5 d0 d1 d2 e0
  refine anyK_one 3 (by kernel_rfl) ?_
  refine stepK_run rfl ?_
  intro w2 h2 K hK
  go_simp
  refine (hK'.out _).mono ?_
  rintro e w3 ⟨rfl, h3⟩
  exact ⟨rfl, rfl, h2.trans h3⟩

set_option maxHeartbeats 1600000 in
set_option maxRecDepth 100000 in
theorem expPointBytes_yes (P A B N gx gy : Int) (c : Pt) (short : Bool) (m : Nat) (F : Nat → Int) (hm : m ≤ maxLen) (hC : Hid (∀ (C0 C1 C2 : Nat) (w : World), Blk w C0 [.int .i64 P, .int .i64 A, .int .i64 B, .int .i64 N, .int .i64 gx, .int .i64 gy] → C0 < w.heap.size → Blk w C1 [.int .i64 c.x, .int .i64 c.y, .bool c.far] → C1 < w.heap.size → Blk w C2 [.bool short] → C2 < w.heap.size → Calls Tryd.prog 43 #[.pointer (some ⟨C0, 0, none⟩), .pointer (some ⟨C1, 0, none⟩), .pointer (some ⟨C2, 0, none⟩)] w fun e w' => GivesB w m F e w')) (w : World) :
    Calls Tryd.prog 11 #[.agg #[.int .i64 P, .int .i64 A, .int .i64 B, .int .i64 N, .int .i64 gx, .int .i64 gy], .agg #[.int .i64 c.x, .int .i64 c.y, .bool c.far], .bool short] w fun e w' => GivesBs w m F true e w' := by
  have hmf : ∀ (fn : Fn) (first cap : Array Value) (w : World), (Instr.makeFunc fn first cap).run Tryd.prog w = .ok (.func fn first cap) w := fun _ _ _ _ => rfl
  have HR : Hid (∀ v w', GivesB w m F (.returned v) w' → GivesBs w m F true (.returned (.tuple #[v, .bool true])) w') := fun v w' h => h.yes hm
  go_enter Tryd.func11, Tryd.ntmps11
  go_wp2_with fail
  refine (answB_yes 43 #[.pointer (some ⟨w.heap.size, 0, none⟩), .pointer (some ⟨w.heap.size + 1, 0, none⟩), .pointer (some ⟨w.heap.size + 1 + 1, 0, none⟩)] (fun _ _ => rfl) (fun v w' => GivesB w m F (.returned v) w') _ ?_).mono ?_
  · obtain ⟨B0, B1, B2, hE, hz⟩ := box3 w [.int .i64 P, .int .i64 A, .int .i64 B, .int .i64 N, .int .i64 gx, .int .i64 gy] [.int .i64 c.x, .int .i64 c.y, .bool c.far] [.bool short] 25 27 4 (Ext.refl (((w.alloc (.cells #[.int .i64 P, .int .i64 A, .int .i64 B, .int .i64 N, .int .i64 gx, .int .i64 gy] 25)).alloc (.cells #[.int .i64 c.x, .int .i64 c.y, .bool c.far] 27)).alloc (.cells #[.bool short] 4)))
    exact (hC.out _ _ _ _ B0 (by omega) B1 (by omega) B2 (by omega)).mono fun e w' h => (h.lift hE).ex
  rintro e w1 ⟨v, rfl, hR⟩
  replace hR := hide (HR.out _ _ hR)
  clear hC HR
  go_wp2
  go_ret2
  exact hR.out

set_option maxHeartbeats 1600000 in
set_option maxRecDepth 100000 in
theorem expPointBytes_no (P A B N gx gy : Int) (c : Pt) (short : Bool) (F : Nat → Int) (hC : Hid (∀ (C0 C1 C2 : Nat) (w : World), Blk w C0 [.int .i64 P, .int .i64 A, .int .i64 B, .int .i64 N, .int .i64 gx, .int .i64 gy] → C0 < w.heap.size → Blk w C1 [.int .i64 c.x, .int .i64 c.y, .bool c.far] → C1 < w.heap.size → Blk w C2 [.bool short] → C2 < w.heap.size → Calls Tryd.prog 43 #[.pointer (some ⟨C0, 0, none⟩), .pointer (some ⟨C1, 0, none⟩), .pointer (some ⟨C2, 0, none⟩)] w fun e w' => e = .panicked [nrE] ∧ Ext w w')) (w : World) :
    Calls Tryd.prog 11 #[.agg #[.int .i64 P, .int .i64 A, .int .i64 B, .int .i64 N, .int .i64 gx, .int .i64 gy], .agg #[.int .i64 c.x, .int .i64 c.y, .bool c.far], .bool short] w fun e w' => GivesBs w 0 F false e w' := by
  have hmf : ∀ (fn : Fn) (first cap : Array Value) (w : World), (Instr.makeFunc fn first cap).run Tryd.prog w = .ok (.func fn first cap) w := fun _ _ _ _ => rfl
  have HR : Hid (∀ w', Ext w w' → GivesBs w 0 F false (.returned (.tuple #[.slice none 0 0, .bool false])) w') := fun w' h => givesBs_none F h
  go_enter Tryd.func11, Tryd.ntmps11
  go_wp2_with fail
  refine (answB_no 43 #[.pointer (some ⟨w.heap.size, 0, none⟩), .pointer (some ⟨w.heap.size + 1, 0, none⟩), .pointer (some ⟨w.heap.size + 1 + 1, 0, none⟩)] (fun _ _ => rfl) _ ?_).mono ?_
  · obtain ⟨B0, B1, B2, hE, hz⟩ := box3 w [.int .i64 P, .int .i64 A, .int .i64 B, .int .i64 N, .int .i64 gx, .int .i64 gy] [.int .i64 c.x, .int .i64 c.y, .bool c.far] [.bool short] 25 27 4 (Ext.refl (((w.alloc (.cells #[.int .i64 P, .int .i64 A, .int .i64 B, .int .i64 N, .int .i64 gx, .int .i64 gy] 25)).alloc (.cells #[.int .i64 c.x, .int .i64 c.y, .bool c.far] 27)).alloc (.cells #[.bool short] 4)))
    exact hC.out _ _ _ _ B0 (by omega) B1 (by omega) B2 (by omega)
  rintro e w1 ⟨rfl, hR⟩
  obtain ⟨B0, B1, B2, hE, hz⟩ := box3 w [.int .i64 P, .int .i64 A, .int .i64 B, .int .i64 N, .int .i64 gx, .int .i64 gy] [.int .i64 c.x, .int .i64 c.y, .bool c.far] [.bool short] 25 27 4 hR
  replace hR := hide (HR.out _ hE)
  clear hC HR
  go_wp2
  go_ret2
  exact hR.out

set_option maxHeartbeats 1600000 in
set_option maxRecDepth 100000 in
theorem cloPointRead_yes (P A B N gx gy : Int) (a : Option Addr) (n cap : Nat) (r : Pt) (C0 C1 : Nat) (w : World) (B0 : Blk w C0 [.int .i64 P, .int .i64 A, .int .i64 B, .int .i64 N, .int .i64 gx, .int .i64 gy]) (l0 : C0 < w.heap.size) (B1 : Blk w C1 [.slice a n cap]) (l1 : C1 < w.heap.size) (hG : Hid (∀ W : World, Calls Tryd.prog 45 #[.agg #[.int .i64 P, .int .i64 A, .int .i64 B, .int .i64 N, .int .i64 gx, .int .i64 gy]] W fun e w' => e = .returned (.agg #[.int .i64 0, .int .i64 0, .bool true, .int .i64 gx, .int .i64 gy, .bool false, .func (.func 87) #[.agg #[.int .i64 P, .int .i64 A, .int .i64 B, .int .i64 N, .int .i64 gx, .int .i64 gy]] #[], .func (.func 88) #[.agg #[.int .i64 P, .int .i64 A, .int .i64 B, .int .i64 N, .int .i64 gx, .int .i64 gy]] #[], .func (.func 89) #[.agg #[.int .i64 P, .int .i64 A, .int .i64 B, .int .i64 N, .int .i64 gx, .int .i64 gy]] #[], .func (.func 90) #[.agg #[.int .i64 P, .int .i64 A, .int .i64 B, .int .i64 N, .int .i64 gx, .int .i64 gy]] #[], .func (.func 84) #[] #[]]) ∧ Ext W w')) (hF : Hid (∀ W : World, Ext w W → Calls Tryd.prog 49 #[.agg #[.int .i64 0, .int .i64 0, .bool true, .int .i64 gx, .int .i64 gy, .bool false, .func (.func 87) #[.agg #[.int .i64 P, .int .i64 A, .int .i64 B, .int .i64 N, .int .i64 gx, .int .i64 gy]] #[], .func (.func 88) #[.agg #[.int .i64 P, .int .i64 A, .int .i64 B, .int .i64 N, .int .i64 gx, .int .i64 gy]] #[], .func (.func 89) #[.agg #[.int .i64 P, .int .i64 A, .int .i64 B, .int .i64 N, .int .i64 gx, .int .i64 gy]] #[], .func (.func 90) #[.agg #[.int .i64 P, .int .i64 A, .int .i64 B, .int .i64 N, .int .i64 gx, .int .i64 gy]] #[], .func (.func 84) #[] #[]], .slice a n cap] W fun e w' => e = .returned (.agg #[.int .i64 r.x, .int .i64 r.y, .bool r.far]) ∧ Ext W w')) :
    Calls Tryd.prog 48 #[.pointer (some ⟨C0, 0, none⟩), .pointer (some ⟨C1, 0, none⟩)] w fun e w' => e = .returned (.agg #[.int .i64 r.x, .int .i64 r.y, .bool r.far]) ∧ Ext w w' := by
  go_enter Tryd.func48, Tryd.ntmps48
  go_wp2
  obtain ⟨V, hV⟩ : ∃ V, w.alloc (.cells #[.int .i64 0, .int .i64 0, .bool false] 27) = V := ⟨_, rfl⟩
  have hE : Ext w V := hV ▸ Ext.alloc _ _
  obtain ⟨BR, -, hz⟩ := box1 w [.int .i64 0, .int .i64 0, .bool false] 27 (hV ▸ Ext.refl _ : Ext (w.alloc (.cells #[.int .i64 0, .int .i64 0, .bool false] 27)) V)
  simp only [hV]
  clear hV
  obtain ⟨X, hX⟩ : ∃ X : Nat → Prop, X = fun k => w.heap.size ≤ k := ⟨_, rfl⟩
  have x0 : ∀ k, k < w.heap.size → ¬ X k := fun k h => by rw [hX]; simp; omega
  have xC : X w.heap.size := by rw [hX]; exact Nat.le_refl _
  clear hX
  have D0 := B0.ext hE l0
  have D1 := B1.ext hE l1
  have c0 := cell_reC (D0 0 _ rfl).1 (x0 _ (by first | omega | (simp only; omega)))
  have c1 := cell_reC (D0 1 _ rfl).1 (x0 _ (by first | omega | (simp only; omega)))
  have c2 := cell_reC (D0 2 _ rfl).1 (x0 _ (by first | omega | (simp only; omega)))
  have c3 := cell_reC (D0 3 _ rfl).1 (x0 _ (by first | omega | (simp only; omega)))
  have c4 := cell_reC (D0 4 _ rfl).1 (x0 _ (by first | omega | (simp only; omega)))
  have c5 := cell_reC (D0 5 _ rfl).1 (x0 _ (by first | omega | (simp only; omega)))
  have d0 := cell_reC (D1 0 _ rfl).1 (x0 _ (by first | omega | (simp only; omega)))
  refine anyK_begin X 5 rfl (by kernel_rfl) ?_
  refine anyK_take 0 4 1 rfl (by decide) (by kernel_rfl) (fun _ _ d _ _ h => by cases d <;> exact h) ?_
  repeat (refine headC_step (fun K hK => ?_); go_simp; first | (refine hK _ ?_; clear hK K) | (apply Exists.intro; refine ⟨fun _ => ?_, hK _ ?_⟩; (first | (go_at_call 45; exact Calls.re_of (hG.out _)) | (go_at_call 49; exact Calls.re_of (hF.out _ (ext_reC hE x0 _)))); clear hK K))
  refine headC_nil ?_
  clear c0 c1 c2 c3 c4 c5 d0
  refine anyK_one 4 (by kernel_rfl) ?_
  refine stepK_run rfl ?_
  intro w2 h2 K hK
  have BZ := BR.ext h2 (by omega)
  have d0 := (BZ 0 _ rfl).1
  have d1 := (BZ 1 _ rfl).1
  have d2 := (BZ 2 _ rfl).1
  have z0 := (BZ 0 _ rfl).2
  have z1 := (BZ 1 _ rfl).2
  have z2 := (BZ 2 _ rfl).2
  go_simp
  refine hK _ _ (show Grw X V (putL (w.heap.size) 0 [.int .i64 r.x, .int .i64 r.y, .bool r.far] w2) from Grw.putL xC _ _ _ (.of_ext h2)) ?_
  clear hK K d0 d1 d2 z0 z1 z2
  refine anyK_done (by kernel_rfl) ?_ 0
  intro w3 h3
  replace h3 : Ext (putL (w.heap.size) 0 [.int .i64 r.x, .int .i64 r.y, .bool r.far] w2) w3 := h3
  have BW := (BZ.put [.int .i64 r.x, .int .i64 r.y, .bool r.far] rfl).ext h3 (by rw [size_putL]; have := Below.size h2; omega)
  have hX : Ext w w3 := ((hE.trans h2).putL (by omega) [.int .i64 r.x, .int .i64 r.y, .bool r.far]).trans h3
  clear h2 h3 BZ
  have q0 := (BW 0 _ rfl).1
  have q1 := (BW 1 _ rfl).1
  have q2 := (BW 2 _ rfl).1
  go_wp2
  refine bodyPost_ret (v := .agg #[.int .i64 r.x, .int .i64 r.y, .bool r.far]) (by simp [results, Tryd.results48, go_sem, q0, q1, q2]) rfl ⟨rfl, hX⟩

set_option maxHeartbeats 1600000 in
set_option maxRecDepth 100000 in
theorem cloPointRead_noG (P A B N gx gy : Int) (a : Option Addr) (n cap : Nat) (C0 C1 : Nat) (w : World) (B0 : Blk w C0 [.int .i64 P, .int .i64 A, .int .i64 B, .int .i64 N, .int .i64 gx, .int .i64 gy]) (l0 : C0 < w.heap.size) (B1 : Blk w C1 [.slice a n cap]) (l1 : C1 < w.heap.size) (hG : Hid (∀ W : World, Calls Tryd.prog 45 #[.agg #[.int .i64 P, .int .i64 A, .int .i64 B, .int .i64 N, .int .i64 gx, .int .i64 gy]] W fun e w' => e = .panicked [nrE] ∧ Ext W w')) :
    Calls Tryd.prog 48 #[.pointer (some ⟨C0, 0, none⟩), .pointer (some ⟨C1, 0, none⟩)] w fun e w' => e = .panicked [nrE] ∧ Ext w w' := by
  go_enter Tryd.func48, Tryd.ntmps48
  go_wp2
  obtain ⟨V, hV⟩ : ∃ V, w.alloc (.cells #[.int .i64 0, .int .i64 0, .bool false] 27) = V := ⟨_, rfl⟩
  have hE : Ext w V := hV ▸ Ext.alloc _ _
  obtain ⟨BR, -, hz⟩ := box1 w [.int .i64 0, .int .i64 0, .bool false] 27 (hV ▸ Ext.refl _ : Ext (w.alloc (.cells #[.int .i64 0, .int .i64 0, .bool false] 27)) V)
  simp only [hV]
  clear hV
  obtain ⟨X, hX⟩ : ∃ X : Nat → Prop, X = fun k => w.heap.size ≤ k := ⟨_, rfl⟩
  have x0 : ∀ k, k < w.heap.size → ¬ X k := fun k h => by rw [hX]; simp; omega
  have xC : X w.heap.size := by rw [hX]; exact Nat.le_refl _
  clear hX
  have D0 := B0.ext hE l0
  have D1 := B1.ext hE l1
  have c0 := cell_reC (D0 0 _ rfl).1 (x0 _ (by first | omega | (simp only; omega)))
  have c1 := cell_reC (D0 1 _ rfl).1 (x0 _ (by first | omega | (simp only; omega)))
  have c2 := cell_reC (D0 2 _ rfl).1 (x0 _ (by first | omega | (simp only; omega)))
  have c3 := cell_reC (D0 3 _ rfl).1 (x0 _ (by first | omega | (simp only; omega)))
  have c4 := cell_reC (D0 4 _ rfl).1 (x0 _ (by first | omega | (simp only; omega)))
  have c5 := cell_reC (D0 5 _ rfl).1 (x0 _ (by first | omega | (simp only; omega)))
  have d0 := cell_reC (D1 0 _ rfl).1 (x0 _ (by first | omega | (simp only; omega)))
  refine anyK_begin X 5 rfl (by kernel_rfl) ?_
  refine anyK_take 0 1 4 rfl (by decide) (by kernel_rfl) (fun _ _ d _ _ h => by cases d <;> exact h) ?_
  repeat (refine headC_step (fun K hK => ?_); go_simp; first | (refine hK _ ?_; clear hK K) | (apply Exists.intro; refine ⟨fun _ => ?_, hK _ ?_⟩; (fail); clear hK K))
  refine headC_nil ?_
  refine anyK_take 2 1 3 rfl (by decide) (by kernel_rfl) (fun _ _ d _ _ h => by cases d <;> exact h) ?_
  repeat (refine headC_step (fun K hK => ?_); go_simp; first | (refine hK _ ?_; clear hK K) | (apply Exists.intro; refine ⟨fun _ => ?_, hK _ ?_⟩; (fail); clear hK K))
  refine headC_nil ?_
  clear c0 c1 c2 c3 c4 c5 d0
  refine anyK_one 1 (by kernel_rfl) ?_
  refine stepK_run rfl ?_
  intro w2 h2 K hK
  go_simp
  refine (hG.out _).mono ?_
  rintro e w3 ⟨rfl, h3⟩
  exact ⟨rfl, rfl, (hE.trans h2).trans h3⟩

set_option maxHeartbeats 1600000 in
set_option maxRecDepth 100000 in
theorem cloPointRead_noF (P A B N gx gy : Int) (a : Option Addr) (n cap : Nat) (C0 C1 : Nat) (w : World) (B0 : Blk w C0 [.int .i64 P, .int .i64 A, .int .i64 B, .int .i64 N, .int .i64 gx, .int .i64 gy]) (l0 : C0 < w.heap.size) (B1 : Blk w C1 [.slice a n cap]) (l1 : C1 < w.heap.size) (hG : Hid (∀ W : World, Calls Tryd.prog 45 #[.agg #[.int .i64 P, .int .i64 A, .int .i64 B, .int .i64 N, .int .i64 gx, .int .i64 gy]] W fun e w' => e = .returned (.agg #[.int .i64 0, .int .i64 0, .bool true, .int .i64 gx, .int .i64 gy, .bool false, .func (.func 87) #[.agg #[.int .i64 P, .int .i64 A, .int .i64 B, .int .i64 N, .int .i64 gx, .int .i64 gy]] #[], .func (.func 88) #[.agg #[.int .i64 P, .int .i64 A, .int .i64 B, .int .i64 N, .int .i64 gx, .int .i64 gy]] #[], .func (.func 89) #[.agg #[.int .i64 P, .int .i64 A, .int .i64 B, .int .i64 N, .int .i64 gx, .int .i64 gy]] #[], .func (.func 90) #[.agg #[.int .i64 P, .int .i64 A, .int .i64 B, .int .i64 N, .int .i64 gx, .int .i64 gy]] #[], .func (.func 84) #[] #[]]) ∧ Ext W w')) (hF : Hid (∀ W : World, Ext w W → Calls Tryd.prog 49 #[.agg #[.int .i64 0, .int .i64 0, .bool true, .int .i64 gx, .int .i64 gy, .bool false, .func (.func 87) #[.agg #[.int .i64 P, .int .i64 A, .int .i64 B, .int .i64 N, .int .i64 gx, .int .i64 gy]] #[], .func (.func 88) #[.agg #[.int .i64 P, .int .i64 A, .int .i64 B, .int .i64 N, .int .i64 gx, .int .i64 gy]] #[], .func (.func 89) #[.agg #[.int .i64 P, .int .i64 A, .int .i64 B, .int .i64 N, .int .i64 gx, .int .i64 gy]] #[], .func (.func 90) #[.agg #[.int .i64 P, .int .i64 A, .int .i64 B, .int .i64 N, .int .i64 gx, .int .i64 gy]] #[], .func (.func 84) #[] #[]], .slice a n cap] W fun e w' => e = .panicked [nrE] ∧ Ext W w')) :
    Calls Tryd.prog 48 #[.pointer (some ⟨C0, 0, none⟩), .pointer (some ⟨C1, 0, none⟩)] w fun e w' => e = .panicked [nrE] ∧ Ext w w' := by
  go_enter Tryd.func48, Tryd.ntmps48
  go_wp2
  obtain ⟨V, hV⟩ : ∃ V, w.alloc (.cells #[.int .i64 0, .int .i64 0, .bool false] 27) = V := ⟨_, rfl⟩
  have hE : Ext w V := hV ▸ Ext.alloc _ _
  obtain ⟨BR, -, hz⟩ := box1 w [.int .i64 0, .int .i64 0, .bool false] 27 (hV ▸ Ext.refl _ : Ext (w.alloc (.cells #[.int .i64 0, .int .i64 0, .bool false] 27)) V)
  simp only [hV]
  clear hV
  obtain ⟨X, hX⟩ : ∃ X : Nat → Prop, X = fun k => w.heap.size ≤ k := ⟨_, rfl⟩
  have x0 : ∀ k, k < w.heap.size → ¬ X k := fun k h => by rw [hX]; simp; omega
  have xC : X w.heap.size := by rw [hX]; exact Nat.le_refl _
  clear hX
  have D0 := B0.ext hE l0
  have D1 := B1.ext hE l1
  have c0 := cell_reC (D0 0 _ rfl).1 (x0 _ (by first | omega | (simp only; omega)))
  have c1 := cell_reC (D0 1 _ rfl).1 (x0 _ (by first | omega | (simp only; omega)))
  have c2 := cell_reC (D0 2 _ rfl).1 (x0 _ (by first | omega | (simp only; omega)))
  have c3 := cell_reC (D0 3 _ rfl).1 (x0 _ (by first | omega | (simp only; omega)))
  have c4 := cell_reC (D0 4 _ rfl).1 (x0 _ (by first | omega | (simp only; omega)))
  have c5 := cell_reC (D0 5 _ rfl).1 (x0 _ (by first | omega | (simp only; omega)))
  have d0 := cell_reC (D1 0 _ rfl).1 (x0 _ (by first | omega | (simp only; omega)))
  refine anyK_begin X 5 rfl (by kernel_rfl) ?_
  refine anyK_take 0 3 2 rfl (by decide) (by kernel_rfl) (fun _ _ d _ _ h => by cases d <;> exact h) ?_
  repeat (refine headC_step (fun K hK => ?_); go_simp; first | (refine hK _ ?_; clear hK K) | (apply Exists.intro; refine ⟨fun _ => ?_, hK _ ?_⟩; ((go_at_call 45; exact Calls.re_of (hG.out _))); clear hK K))
  refine headC_nil ?_
  clear c0 c1 c2 c3 c4 c5 d0
  refine anyK_one 3 (by kernel_rfl) ?_
  refine stepK_run rfl ?_
  intro w2 h2 K hK
  go_simp
  refine (hF.out _ (hE.trans h2)).mono ?_
  rintro e w3 ⟨rfl, h3⟩
  exact ⟨rfl, rfl, (hE.trans h2).trans h3⟩

set_option maxHeartbeats 1600000 in
set_option maxRecDepth 100000 in
theorem expPointRead_yes (P A B N gx gy : Int) (a : Option Addr) (n cap : Nat) (r : Pt) (w : World) (hC : Hid (∀ (C0 C1 : Nat) (W : World), Ext w W → Blk W C0 [.int .i64 P, .int .i64 A, .int .i64 B, .int .i64 N, .int .i64 gx, .int .i64 gy] → C0 < W.heap.size → Blk W C1 [.slice a n cap] → C1 < W.heap.size → Calls Tryd.prog 48 #[.pointer (some ⟨C0, 0, none⟩), .pointer (some ⟨C1, 0, none⟩)] W fun e w' => e = .returned (.agg #[.int .i64 r.x, .int .i64 r.y, .bool r.far]) ∧ Ext W w')) :
    Calls Tryd.prog 12 #[.agg #[.int .i64 P, .int .i64 A, .int .i64 B, .int .i64 N, .int .i64 gx, .int .i64 gy], .slice a n cap] w fun e w' => e = .returned (.tuple #[.agg #[.int .i64 r.x, .int .i64 r.y, .bool r.far], .bool true]) ∧ Ext w w' := by
  have hmf : ∀ (fn : Fn) (first cap : Array Value) (w : World), (Instr.makeFunc fn first cap).run Tryd.prog w = .ok (.func fn first cap) w := fun _ _ _ _ => rfl
  go_enter Tryd.func12, Tryd.ntmps12
  go_wp2_with fail
  refine (answPt_yes 48 #[.pointer (some ⟨w.heap.size, 0, none⟩), .pointer (some ⟨w.heap.size + 1, 0, none⟩)] (fun _ _ => rfl) r _ (fun W hW => ?_)).mono ?_
  · obtain ⟨B0, B1, B2, hE, hz⟩ := box3 w [.int .i64 P, .int .i64 A, .int .i64 B, .int .i64 N, .int .i64 gx, .int .i64 gy] [.slice a n cap] [.int .i64 0, .int .i64 0, .bool false] 25 22 27 hW
    exact hC.out _ _ _ hE B0 (by omega) B1 (by omega)
  rintro e w1 ⟨rfl, hw1⟩
  obtain ⟨B0, B1, B2, hE, hz⟩ := box3 w [.int .i64 P, .int .i64 A, .int .i64 B, .int .i64 N, .int .i64 gx, .int .i64 gy] [.slice a n cap] [.int .i64 0, .int .i64 0, .bool false] 25 22 27 hw1
  clear hw1 hC
  have d0 := (B2 0 _ rfl).1
  have d1 := (B2 1 _ rfl).1
  have d2 := (B2 2 _ rfl).1
  have z0 := (B2 0 _ rfl).2
  have z1 := (B2 1 _ rfl).2
  have z2 := (B2 2 _ rfl).2
  go_wp2
  obtain ⟨W, hW⟩ : ∃ W, putL (w.heap.size + 1 + 1) 0 [.int .i64 r.x, .int .i64 r.y, .bool r.far] w1 = W := ⟨_, rfl⟩
  have BW := Blk.put B2 [.int .i64 r.x, .int .i64 r.y, .bool r.far] rfl
  rw [hW] at BW
  have hF : Ext w W := hW ▸ hE.putL (by omega) _
  simp only [putL, Nat.zero_add, Nat.reduceAdd] at hW
  simp only [hW]
  have q0 := (BW 0 _ rfl).1
  have q1 := (BW 1 _ rfl).1
  have q2 := (BW 2 _ rfl).1
  refine bodyPost_ret (v := .tuple #[.agg #[.int .i64 r.x, .int .i64 r.y, .bool r.far], .bool true]) (by simp [results, Tryd.results12, go_sem, q0, q1, q2]) rfl ⟨rfl, hF⟩

set_option maxHeartbeats 1600000 in
set_option maxRecDepth 100000 in
theorem expPointRead_no (P A B N gx gy : Int) (a : Option Addr) (n cap : Nat) (w : World) (hC : Hid (∀ (C0 C1 : Nat) (W : World), Ext w W → Blk W C0 [.int .i64 P, .int .i64 A, .int .i64 B, .int .i64 N, .int .i64 gx, .int .i64 gy] → C0 < W.heap.size → Blk W C1 [.slice a n cap] → C1 < W.heap.size → Calls Tryd.prog 48 #[.pointer (some ⟨C0, 0, none⟩), .pointer (some ⟨C1, 0, none⟩)] W fun e w' => e = .panicked [nrE] ∧ Ext W w')) :
    Calls Tryd.prog 12 #[.agg #[.int .i64 P, .int .i64 A, .int .i64 B, .int .i64 N, .int .i64 gx, .int .i64 gy], .slice a n cap] w fun e w' => e = .returned (.tuple #[.agg #[.int .i64 0, .int .i64 0, .bool false], .bool false]) ∧ Ext w w' := by
  have hmf : ∀ (fn : Fn) (first cap : Array Value) (w : World), (Instr.makeFunc fn first cap).run Tryd.prog w = .ok (.func fn first cap) w := fun _ _ _ _ => rfl
  go_enter Tryd.func12, Tryd.ntmps12
  go_wp2_with fail
  refine (answPt_no 48 #[.pointer (some ⟨w.heap.size, 0, none⟩), .pointer (some ⟨w.heap.size + 1, 0, none⟩)] (fun _ _ => rfl) _ (fun W hW => ?_)).mono ?_
  · obtain ⟨B0, B1, B2, hE, hz⟩ := box3 w [.int .i64 P, .int .i64 A, .int .i64 B, .int .i64 N, .int .i64 gx, .int .i64 gy] [.slice a n cap] [.int .i64 0, .int .i64 0, .bool false] 25 22 27 hW
    exact hC.out _ _ _ hE B0 (by omega) B1 (by omega)
  rintro e w1 ⟨rfl, hw1⟩
  obtain ⟨B0, B1, B2, hE, hz⟩ := box3 w [.int .i64 P, .int .i64 A, .int .i64 B, .int .i64 N, .int .i64 gx, .int .i64 gy] [.slice a n cap] [.int .i64 0, .int .i64 0, .bool false] 25 22 27 hw1
  clear hw1 hC
  have d0 := (B2 0 _ rfl).1
  have d1 := (B2 1 _ rfl).1
  have d2 := (B2 2 _ rfl).1
  have z0 := (B2 0 _ rfl).2
  have z1 := (B2 1 _ rfl).2
  have z2 := (B2 2 _ rfl).2
  go_wp2
  obtain ⟨W, hW⟩ : ∃ W, putL (w.heap.size + 1 + 1) 0 [.int .i64 0, .int .i64 0, .bool false] w1 = W := ⟨_, rfl⟩
  have BW := Blk.put B2 [.int .i64 0, .int .i64 0, .bool false] rfl
  rw [hW] at BW
  have hF : Ext w W := hW ▸ hE.putL (by omega) _
  simp only [putL, Nat.zero_add, Nat.reduceAdd] at hW
  simp only [hW]
  have q0 := (BW 0 _ rfl).1
  have q1 := (BW 1 _ rfl).1
  have q2 := (BW 2 _ rfl).1
  refine bodyPost_ret (v := .tuple #[.agg #[.int .i64 0, .int .i64 0, .bool false], .bool false]) (by simp [results, Tryd.results12, go_sem, q0, q1, q2]) rfl ⟨rfl, hF⟩

set_option linter.unusedSimpArgs false

def OptRt (P A B x v : Int) (ok : Bool) : Prop := (ok = true ∧ Aff P.toNat A B x v) ∨ (ok = false ∧ ∀ z, ¬ Aff P.toNat A B x z)

theorem optRt_of_root {P A B N x v : Int} {ok : Bool} (h : CvNum P A B N) (x0 : 0 ≤ x) (x1 : x < P) (hA : RootAns (sqV P A B x) P v ok) : OptRt P A B x v ok := by
  have h5 := h.p5
  cases ok
  · right
    refine ⟨rfl, fun z hz => (hA.2 rfl).2 ⟨⟨by omega, h.pM, h.pp, Int.emod_nonneg _ (by omega), Int.emod_lt_of_pos _ (by omega)⟩, z, hz.y0, hz.sq (by omega)⟩⟩
  · left
    obtain ⟨_, v0, hv, hl⟩ := hA.1 rfl
    have v1 : v < P := by
      by_cases k : v < P
      · exact k
      · refine absurd ?_ (hl (v - P) (by omega) (by omega))
        rw [← hv]
        refine mod_eq ⟨P - 2 * v, by grind⟩
    exact ⟨rfl, Aff.of_sq (by omega) x0 x1 v0 v1 hv⟩

theorem other_y {P A B x v : Int} (hP : 5 ≤ P) (h : Aff P.toNat A B x v) : Aff P.toNat A B x ((-v) % P) := by
  have h0 := h.x0; have h1 := h.x1
  refine Aff.of_sq (by omega) h.x0 (by omega) (Int.emod_nonneg _ (by omega)) (Int.emod_lt_of_pos _ (by omega)) ?_
  rw [← Int.mul_emod, Int.neg_mul_neg]
  exact h.sq (by omega)

theorem neg_emod {P v : Int} (hP : 0 < P) (v0 : 0 ≤ v) (v1 : v < P) : (-v) % P = if v = 0 then 0 else P - v := by
  by_cases h : v = 0
  · subst h; simp
  · rw [if_neg h]
    have : (-v) % P = (P - v) % P := mod_eq ⟨-1, by omega⟩
    rw [this]
    exact Int.emod_eq_of_lt (by omega) (by omega)

/-- The point at x whose y leaves t. -/
def AtP (P A B x t : Int) (c : Pt) : Prop := c.far = false ∧ c.x = x ∧ c.y % 2 = t ∧ On P.toNat A B c

theorem gatPt {P A B N : Int} (gx gy : Int) (h : CvNum P A B N) (x t : Int) :
    (∃ c : Pt, AtP P A B x t c ∧ ∀ W : World, Tab W → Calls Tryd.prog 93 #[.agg #[.int .i64 0, .int .i64 0, .bool true, .int .i64 gx, .int .i64 gy, .bool false, .func (.func 87) #[.agg #[.int .i64 P, .int .i64 A, .int .i64 B, .int .i64 N, .int .i64 gx, .int .i64 gy]] #[], .func (.func 88) #[.agg #[.int .i64 P, .int .i64 A, .int .i64 B, .int .i64 N, .int .i64 gx, .int .i64 gy]] #[], .func (.func 89) #[.agg #[.int .i64 P, .int .i64 A, .int .i64 B, .int .i64 N, .int .i64 gx, .int .i64 gy]] #[], .func (.func 90) #[.agg #[.int .i64 P, .int .i64 A, .int .i64 B, .int .i64 N, .int .i64 gx, .int .i64 gy]] #[], .func (.func 84) #[] #[]], .int .i64 x, .int .i64 t] W fun e w' => e = .returned (.agg #[.int .i64 c.x, .int .i64 c.y, .bool c.far]) ∧ Ext W w') ∨
    ((∀ z, z % 2 = t → ¬ Aff P.toNat A B x z) ∧ ∀ W : World, Tab W → Calls Tryd.prog 93 #[.agg #[.int .i64 0, .int .i64 0, .bool true, .int .i64 gx, .int .i64 gy, .bool false, .func (.func 87) #[.agg #[.int .i64 P, .int .i64 A, .int .i64 B, .int .i64 N, .int .i64 gx, .int .i64 gy]] #[], .func (.func 88) #[.agg #[.int .i64 P, .int .i64 A, .int .i64 B, .int .i64 N, .int .i64 gx, .int .i64 gy]] #[], .func (.func 89) #[.agg #[.int .i64 P, .int .i64 A, .int .i64 B, .int .i64 N, .int .i64 gx, .int .i64 gy]] #[], .func (.func 90) #[.agg #[.int .i64 P, .int .i64 A, .int .i64 B, .int .i64 N, .int .i64 gx, .int .i64 gy]] #[], .func (.func 84) #[] #[]], .int .i64 x, .int .i64 t] W fun e w' => e = .panicked [nrE] ∧ Ext W w') := by
  have h5 := h.p5; have hM := h.pM; have h4 := h.p4
  by_cases hx : 0 ≤ x ∧ x < P
  rotate_left
  · exact Or.inr ⟨fun z _ k => hx ⟨k.x0, by have := k.x1; omega⟩, fun W hW => atPt_noL P A B N gx gy x t (fun W' _ => liftPt_out gx gy h hx W') W hW⟩
  obtain ⟨v, ok, hA⟩ := rootAns_some (sqV P A B x) P ⟨by omega, h.pM, h.pp, Int.emod_nonneg _ (by omega), Int.emod_lt_of_pos _ (by omega)⟩
  have hR := optRt_of_root h hx.1 hx.2 hA
  cases ok
  · rcases hR with ⟨e, _⟩ | ⟨_, hn⟩
    · cases e
    · have e := (hA.2 rfl).1
      subst e
      exact Or.inr ⟨fun z _ => hn z, fun W hW => atPt_noL P A B N gx gy x t (fun W' hW' => liftPt_none gx gy h hx hA W' hW') W hW⟩
  rcases hR with ⟨_, hv⟩ | ⟨e, _⟩
  rotate_left
  · cases e
  have v0 := hv.y0
  have v1 : v < P := by have := hv.y1; omega
  by_cases c : v % 2 = t
  · refine Or.inl ⟨⟨x, v, false⟩, ⟨rfl, rfl, c, Or.inr ⟨rfl, hv⟩⟩, fun W hW => atPt_one P A B N gx gy x t ⟨x, v, false⟩ (fun W' hW' => liftPt_yes gx gy h hx hA W' hW') (fun W' => ?_) W hW⟩
    have := parityPt ⟨x, v, false⟩ v0 W'
    rwa [show (⟨x, v, false⟩ : Pt).y % 2 = t from c] at this
  have ho := other_y h5 hv
  have hy := neg_emod (show 0 < P by omega) v0 v1
  have y0 := ho.y0
  obtain ⟨y, hyy⟩ : ∃ y, (-v) % P = y := ⟨_, rfl⟩
  have HO : ∀ W : World, Calls Tryd.prog 89 #[.agg #[.int .i64 P, .int .i64 A, .int .i64 B, .int .i64 N, .int .i64 gx, .int .i64 gy], .agg #[.int .i64 x, .int .i64 v, .bool false]] W fun e w' => e = .returned (.agg #[.int .i64 x, .int .i64 y, .bool false]) ∧ Ext W w' := fun W => by
    have := oppPt gx gy h (n := x) v0 v1 W
    rwa [hyy] at this
  rw [hyy] at ho hy y0
  by_cases d : y % 2 = t
  · refine Or.inl ⟨⟨x, y, false⟩, ⟨rfl, rfl, d, Or.inr ⟨rfl, ho⟩⟩, fun W hW => atPt_two P A B N gx gy x t (v % 2) ⟨x, v, false⟩ ⟨x, y, false⟩ (fun W' hW' => liftPt_yes gx gy h hx hA W' hW') (fun W' => parityPt ⟨x, v, false⟩ v0 W') c HO (fun W' => ?_) W hW⟩
    have := parityPt ⟨x, y, false⟩ y0 W'
    rwa [show (⟨x, y, false⟩ : Pt).y % 2 = t from d] at this
  · refine Or.inr ⟨fun z hz k => ?_, fun W hW => atPt_none P A B N gx gy x t (v % 2) (y % 2) ⟨x, v, false⟩ ⟨x, y, false⟩ (fun W' hW' => liftPt_yes gx gy h hx hA W' hW') (fun W' => parityPt ⟨x, v, false⟩ v0 W') c HO (fun W' => parityPt ⟨x, y, false⟩ y0 W') d W hW⟩
    have hky := k.y1
    have hk0 := k.y0
    have := two_roots_int h.pp (by omega) k.y0 (by omega) v0 v1 ((k.sq (by omega)).trans (hv.sq (by omega)).symm)
    by_cases e : v = 0
    · rw [if_pos e] at hy; omega
    · rw [if_neg e] at hy; omega

/-- What readPoint does. -/
theorem rdPt_all {P A B N gx gy : Int} (h : CvOk P A B N gx gy) (a : Option Addr) (b off n cap : Nat) (f : Nat → Int) (w : World) (hT : Tab w) (hs : BSeg w a b off n f) (hr : ∀ i, i < n → 0 ≤ f i ∧ f i ≤ 255) (hcap : n ≤ cap) :
    (∃ c : Pt, Reads P.toNat A B n f c ∧ ∀ W : World, Ext w W → Calls Tryd.prog 49 #[.agg #[.int .i64 0, .int .i64 0, .bool true, .int .i64 gx, .int .i64 gy, .bool false, .func (.func 87) #[.agg #[.int .i64 P, .int .i64 A, .int .i64 B, .int .i64 N, .int .i64 gx, .int .i64 gy]] #[], .func (.func 88) #[.agg #[.int .i64 P, .int .i64 A, .int .i64 B, .int .i64 N, .int .i64 gx, .int .i64 gy]] #[], .func (.func 89) #[.agg #[.int .i64 P, .int .i64 A, .int .i64 B, .int .i64 N, .int .i64 gx, .int .i64 gy]] #[], .func (.func 90) #[.agg #[.int .i64 P, .int .i64 A, .int .i64 B, .int .i64 N, .int .i64 gx, .int .i64 gy]] #[], .func (.func 84) #[] #[]], .slice a n cap] W fun e w' => e = .returned (.agg #[.int .i64 c.x, .int .i64 c.y, .bool c.far]) ∧ Ext W w') ∨
    ((∀ c, ¬ Reads P.toNat A B n f c) ∧ ∀ W : World, Ext w W → Calls Tryd.prog 49 #[.agg #[.int .i64 0, .int .i64 0, .bool true, .int .i64 gx, .int .i64 gy, .bool false, .func (.func 87) #[.agg #[.int .i64 P, .int .i64 A, .int .i64 B, .int .i64 N, .int .i64 gx, .int .i64 gy]] #[], .func (.func 88) #[.agg #[.int .i64 P, .int .i64 A, .int .i64 B, .int .i64 N, .int .i64 gx, .int .i64 gy]] #[], .func (.func 89) #[.agg #[.int .i64 P, .int .i64 A, .int .i64 B, .int .i64 N, .int .i64 gx, .int .i64 gy]] #[], .func (.func 90) #[.agg #[.int .i64 P, .int .i64 A, .int .i64 B, .int .i64 N, .int .i64 gx, .int .i64 gy]] #[], .func (.func 84) #[] #[]], .slice a n cap] W fun e w' => e = .panicked [nrE] ∧ Ext W w') := by
  have hT' : ∀ W, Ext w W → Tab W := fun W e => hT.ext e
  have hs' : ∀ W, Ext w W → BSeg W a b off n f := fun W e => hs.of_all e
  by_cases hn : n = 0
  · exact Or.inr ⟨fun c k => by rcases k with ⟨e, _⟩ | ⟨e, _⟩ | ⟨e, _⟩ <;> omega, fun W e => rdPt_nil P A B N gx gy a b off n cap f hn W (hT' W e) (hs' W e) hr hcap⟩
  have hp : 0 < n := by omega
  by_cases c0 : f 0 = 0
  · by_cases c1 : n = 1
    · exact Or.inl ⟨farP, Or.inl ⟨c1, c0, rfl⟩, fun W e => rdPt_far P A B N gx gy a b off n cap f c1 c0 W (hT' W e) (hs' W e) hr hcap⟩
    · exact Or.inr ⟨fun c k => by rcases k with ⟨e, _⟩ | ⟨e, e', _⟩ | ⟨e, e', _⟩ <;> omega, fun W e => rdPt_none0 P A B N gx gy a b off n cap f hp c0 c1 W (hT' W e) (hs' W e) hr hcap⟩
  by_cases c4 : f 0 = 4
  · by_cases c1 : n = 7
    · by_cases ho : On P.toNat A B ⟨rd3 f 1, rd3 f 4, false⟩
      · exact Or.inl ⟨⟨rd3 f 1, rd3 f 4, false⟩, Or.inr (Or.inl ⟨c1, c4, rfl, ho⟩), fun W e => rdPt_long_yes P A B N gx gy a b off n cap f (rd3 f 1) (rd3 f 4) c1 c4 rfl rfl (knownPt_yes gx gy h.num (a := ⟨rd3 f 1, rd3 f 4, false⟩) ho) W (hT' W e) (hs' W e) hr hcap⟩
      · exact Or.inr ⟨fun c k => by
          rcases k with ⟨e, _⟩ | ⟨_, _, rfl, k⟩ | ⟨e, _⟩
          · omega
          · exact ho k
          · omega, fun W e => rdPt_long_no P A B N gx gy a b off n cap f (rd3 f 1) (rd3 f 4) c1 c4 rfl rfl (knownPt_no gx gy h.num (a := ⟨rd3 f 1, rd3 f 4, false⟩) ho) W (hT' W e) (hs' W e) hr hcap⟩
    · exact Or.inr ⟨fun c k => by rcases k with ⟨e, e', _⟩ | ⟨e, e', _⟩ | ⟨e, e', _⟩ <;> omega, fun W e => rdPt_none4 P A B N gx gy a b off n cap f hp c4 c1 W (hT' W e) (hs' W e) hr hcap⟩
  by_cases c2 : f 0 = 2
  · by_cases c1 : n = 4
    · rcases gatPt gx gy h.num (rd3 f 1) 0 with ⟨c, ⟨k1, k2, k3, k4⟩, hA⟩ | ⟨k, hA⟩
      · exact Or.inl ⟨c, Or.inr (Or.inr ⟨c1, by omega, k1, k2, by rw [k3, c2]; rfl, k4⟩), fun W e => rdPt_even_yes P A B N gx gy a b off n cap f (rd3 f 1) c c1 c2 rfl hA W (hT' W e) (hs' W e) hr hcap⟩
      · refine Or.inr ⟨fun c q => ?_, fun W e => rdPt_even_no P A B N gx gy a b off n cap f (rd3 f 1) c1 c2 rfl hA W (hT' W e) (hs' W e) hr hcap⟩
        rcases q with ⟨e, _⟩ | ⟨e, _⟩ | ⟨_, _, q1, q2, q3, q4⟩
        · omega
        · omega
        · have := q4.aff q1
          rw [q2] at this
          exact k c.y (by omega) this
    · exact Or.inr ⟨fun c k => by rcases k with ⟨e, e', _⟩ | ⟨e, e', _⟩ | ⟨e, e', _⟩ <;> omega, fun W e => rdPt_none2 P A B N gx gy a b off n cap f hp c2 c1 W (hT' W e) (hs' W e) hr hcap⟩
  by_cases c3 : f 0 = 3
  · by_cases c1 : n = 4
    · rcases gatPt gx gy h.num (rd3 f 1) 1 with ⟨c, ⟨k1, k2, k3, k4⟩, hA⟩ | ⟨k, hA⟩
      · exact Or.inl ⟨c, Or.inr (Or.inr ⟨c1, by omega, k1, k2, by rw [k3, c3]; rfl, k4⟩), fun W e => rdPt_odd_yes P A B N gx gy a b off n cap f (rd3 f 1) c c1 c3 rfl hA W (hT' W e) (hs' W e) hr hcap⟩
      · refine Or.inr ⟨fun c q => ?_, fun W e => rdPt_odd_no P A B N gx gy a b off n cap f (rd3 f 1) c1 c3 rfl hA W (hT' W e) (hs' W e) hr hcap⟩
        rcases q with ⟨e, _⟩ | ⟨e, _⟩ | ⟨_, _, q1, q2, q3, q4⟩
        · omega
        · omega
        · have := q4.aff q1
          rw [q2] at this
          exact k c.y (by omega) this
    · exact Or.inr ⟨fun c k => by rcases k with ⟨e, e', _⟩ | ⟨e, e', _⟩ | ⟨e, e', _⟩ <;> omega, fun W e => rdPt_none3 P A B N gx gy a b off n cap f hp c3 c1 W (hT' W e) (hs' W e) hr hcap⟩
  exact Or.inr ⟨fun c k => by rcases k with ⟨e, e', _⟩ | ⟨e, e', _⟩ | ⟨e, e', _⟩ <;> omega, fun W e => rdPt_noneX P A B N gx gy a b off n cap f hp ⟨c0, c2, c3, c4⟩ W (hT' W e) (hs' W e) hr hcap⟩

theorem implPointRead_any (P A B N gx gy : Int) (a : Option Addr) (b off n cap : Nat) (f : Nat → Int) (w : World) (hP1 : P ≤ 9223372036854775807) (hN1 : N ≤ 9223372036854775807) (hT : Tab w) (hs : BSeg w a b off n f) (hr : ∀ i, i < n → 0 ≤ f i ∧ f i ≤ 255) (hcap : n ≤ cap) :
    Calls Tryd.prog 12 #[.agg #[.int .i64 P, .int .i64 A, .int .i64 B, .int .i64 N, .int .i64 gx, .int .i64 gy], .slice a n cap] w fun r w' => GivesRd P A B N gx gy n f r ∧ Below w.heap.size w w' := by
  by_cases h : CvOk P A B N gx gy
  · rcases rdPt_all h a b off n cap f w hT hs hr hcap with ⟨c, hc, hA⟩ | ⟨hn, hA⟩
    · exact (expPointRead_yes P A B N gx gy a n cap c w (fun C0 C1 W e B0 l0 B1 l1 => cloPointRead_yes P A B N gx gy a n cap c C0 C1 W B0 l0 B1 l1 (groupPt_yes P A B N gx gy h) (fun W' e' => hA W' (e.trans e')))).mono fun r w' q => ⟨q.1 ▸ givesRd_yes h hc, q.2⟩
    · exact (expPointRead_no P A B N gx gy a n cap w (fun C0 C1 W e B0 l0 B1 l1 => cloPointRead_noF P A B N gx gy a n cap C0 C1 W B0 l0 B1 l1 (groupPt_yes P A B N gx gy h) (fun W' e' => hA W' (e.trans e')))).mono fun r w' q => ⟨q.1 ▸ givesRd_no (fun c _ => hn c), q.2⟩
  · exact (expPointRead_no P A B N gx gy a n cap w (fun C0 C1 W e B0 l0 B1 l1 => cloPointRead_noG P A B N gx gy a n cap C0 C1 W B0 l0 B1 l1 (groupPt_no P A B N gx gy hP1 hN1 h))).mono fun r w' q => ⟨q.1 ▸ givesRd_no (fun c v => absurd v h), q.2⟩

theorem pointBytes_at {P A B N gx gy : Int} (h : CvOk P A B N gx gy) {a : Pt} (ha : On P.toNat A B a) (short : Bool) (w : World) : Calls Tryd.prog 44 #[.agg #[.int .i64 a.x, .int .i64 a.y, .bool a.far], .bool short] w fun e w' => GivesB w (ptLen a short true) (ptByte a short) e w' := by
  obtain ⟨⟨x0, x1⟩, y0, y1⟩ := on_range h ha
  cases hf : a.far
  · obtain ⟨x, y, fr⟩ := a
    simp only at hf
    subst hf
    cases short
    · exact pointBytes_long x y x0 x1 y0 y1 w
    · exact pointBytes_short x y x0 x1 y0 y1 w
  · rcases ha with ⟨_, hx, hy⟩ | ⟨e, _⟩
    · obtain ⟨x, y, fr⟩ := a
      simp only at hf hx hy
      subst hf hx hy
      have e2 : ptByte ⟨0, 0, true⟩ short = fun _ => 0 := by funext i; simp [ptByte]
      rw [e2]
      exact pointBytes_far short w
    · rw [e] at hf; cases hf

theorem ptLen_le (a : Pt) (short ok : Bool) : ptLen a short ok ≤ maxLen := by
  unfold ptLen
  have : 7 ≤ maxLen := by decide
  repeat' split
  all_goals omega

theorem implPointBytes_any (P A B N gx gy : Int) (a : Pt) (short : Bool) (w : World) (hP1 : P ≤ 9223372036854775807) (hN1 : N ≤ 9223372036854775807) :
    Calls Tryd.prog 11 #[.agg #[.int .i64 P, .int .i64 A, .int .i64 B, .int .i64 N, .int .i64 gx, .int .i64 gy], .agg #[.int .i64 a.x, .int .i64 a.y, .bool a.far], .bool short] w fun e w' => GivesPB P A B N gx gy a short w e w' := by
  by_cases h : CvOk P A B N gx gy
  · by_cases ha : On P.toNat A B a
    · exact (expPointBytes_yes P A B N gx gy a short (ptLen a short true) (ptByte a short) (ptLen_le _ _ _) (fun C0 C1 C2 W B0 l0 B1 l1 B2 l2 => cloPointBytes_yes P A B N gx gy a short _ _ C0 C1 C2 W B0 l0 B1 l1 B2 l2 (groupPt_yes P A B N gx gy h) (knownPt_yes gx gy h.num ha) (pointBytes_at h ha short)) w).mono fun e w' q => ⟨true, ⟨fun _ => ⟨h, ha⟩, fun _ => rfl⟩, q⟩
    · exact (expPointBytes_no P A B N gx gy a short (ptByte a short) (fun C0 C1 C2 W B0 l0 B1 l1 B2 l2 => cloPointBytes_noK P A B N gx gy a short C0 C1 C2 W B0 l0 B1 l1 B2 l2 (groupPt_yes P A B N gx gy h) (knownPt_no gx gy h.num ha)) w).mono fun e w' q => ⟨false, ⟨fun e => by simp at e, fun e => absurd e.2 ha⟩, q⟩
  · exact (expPointBytes_no P A B N gx gy a short (ptByte a short) (fun C0 C1 C2 W B0 l0 B1 l1 B2 l2 => cloPointBytes_noG P A B N gx gy a short C0 C1 C2 W B0 l0 B1 l1 B2 l2 (groupPt_no P A B N gx gy hP1 hN1 h)) w).mono fun e w' q => ⟨false, ⟨fun e => by simp at e, fun e => absurd e.1 h⟩, q⟩

end Go.Proofs.YtcfpmillbdkpcaaDoor
