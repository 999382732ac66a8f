/- Walks: of a curve of the program (impl.Pair): parity, opposite, lift. Walks: the group of a curve of the program (impl.Pair): at. Walks: a pair read of bytes by the program. Walks: a pair's bytes, by the program. Walks: bytes of a curve's elements (impl.Pair), written and read: what is handed to answered, and the face. What the program answers: EdBytes, EdRead. Walks: EdBytes and EdRead of the model. -/
import Derived.Test.YtcfpmillbdkpcaaDoorGrAll
import Derived.Test.YtcfpmillbdkpcaaDoorTabs
import Derived.Test.YtcfpmillbdkpcaaDoorCurveRS
import Derived.Test.YtcfpmillbdkpcaaDoorByBase
import Derived.Test.YtcfpmillbdkpcaaDoorEdNum
import Derived.Test.YtcfpmillbdkpcaaDoorFacAll
import Derived.Test.YtcfpmillbdkpcaaDoorEdVY
namespace Go.Proofs.YtcfpmillbdkpcaaDoor
set_option linter.unusedVariables false
open Go.RowKit

set_option linter.unusedSimpArgs false

theorem parityPr (a : Pr) (h0 : 0 ≤ a.x) (w : World) : Calls Tryd.prog 106 #[.agg #[.int .i64 a.x, .int .i64 a.y]] w fun e w' => e = .returned (.int .i64 (a.x % 2)) ∧ Ext w w' := by
  go_enter Tryd.func106, Tryd.ntmps106
  go_wp2
  go_ret
  exact ⟨rfl, Ext.alloc _ _⟩

set_option maxHeartbeats 400000 in
theorem oppPr {P D L : Int} (bx cy : Int) (h : EvNum P D L) {n v : Int} (v0 : 0 ≤ v) (v1 : v < P) (w : World) : Calls Tryd.prog 104 #[.agg #[.int .i64 P, .int .i64 D, .int .i64 L, .int .i64 bx, .int .i64 cy], .agg #[.int .i64 v, .int .i64 n]] w fun e w' => e = .returned (.agg #[.int .i64 ((-v) % P), .int .i64 n]) ∧ Ext w w' := by
  have h5 := h.p13; have hM := h.pM
  have hwr : IntKind.i64.wrap (-v) = -v := by rw [IntKind.wrap_i64]; omega
  clear h
  go_enter Tryd.func104, Tryd.ntmps104
  go_wp2
  go_region_with ((go_at_call 122; refine (intRest_any _ _ _ (by omega) (by omega) (by omega) (by omega)).mono ?_; rintro r w' ⟨rfl, rfl⟩))
  all_goals go_wp2
  all_goals
    refine bodyPost_ret (v := .agg #[.int .i64 ((-v) % P), .int .i64 n]) (by simp [results, Tryd.results104, go_sem]) rfl ⟨rfl, ?_⟩
    show Below _ _ _
    repeat (first | exact Below.refl _ _ | refine Below.drew ?_ | refine Below.setCell ?_ (by simp <;> omega) _ | refine Below.alloc ?_ (by simp <;> omega) _)

set_option maxHeartbeats 800000 in
theorem liftPr_out {P D L : Int} (bx cy : Int) (h : EvNum P D L) {n : Int} (hn : ¬ (0 ≤ n ∧ n < P)) (w : World) : Calls Tryd.prog 105 #[.agg #[.int .i64 P, .int .i64 D, .int .i64 L, .int .i64 bx, .int .i64 cy], .int .i64 n] w fun e w' => e = .panicked [nrE] ∧ Ext w w' := by
  have HI := hide (inField_at n P false (by simp; omega))
  clear h hn
  go_enter Tryd.func105, Tryd.ntmps105
  go_wp2_with fail
  refine (HI.out _).mono ?_
  rintro r w' ⟨rfl, rfl⟩
  go_wp2_with fail
  refine (want_no _).mono ?_
  rintro r w'' ⟨rfl, rfl⟩
  exact ⟨rfl, rfl, (Ext.alloc _ _).trans (Ext.alloc _ _)⟩

/-- The number of which lift takes a root. -/
def liftV (P D n : Int) : Int := (n * n - 1) % P * iv P.toNat (1 + D * n % P * n % P) % P

set_option maxHeartbeats 1600000 in
set_option maxRecDepth 100000 in
theorem liftPr_yes {P D L : Int} (bx cy : Int) (h : EvNum P D L) {n v : Int} (hn : 0 ≤ n ∧ n < P) (hA : RootAns (liftV P D n) P v true) (w : World) (hT : Tab w) : Calls Tryd.prog 105 #[.agg #[.int .i64 P, .int .i64 D, .int .i64 L, .int .i64 bx, .int .i64 cy], .int .i64 n] w fun e w' => e = .returned (.agg #[.int .i64 v, .int .i64 n]) ∧ Ext w w' := by
  have h5 := h.p13; have hM := h.pM
  have HI := hide (inField_at n P true (by simp; omega))
  obtain ⟨n0, n1⟩ := hn
  have hT := hide hT
  have hd := h.d2
  have hd1 := h.d1
  obtain ⟨q1, q2⟩ := mulBd n0 (show n ≤ 1048576 by omega) n0 (show n ≤ 1048576 by omega)
  obtain ⟨m, hm⟩ : ∃ m, D * n % P * n % P = m := ⟨_, rfl⟩
  have m0 : 0 ≤ m := by rw [← hm]; exact Int.emod_nonneg _ (by omega)
  have m1 : m < P := by rw [← hm]; exact Int.emod_lt_of_pos _ (by omega)
  obtain ⟨S, hS⟩ : ∃ S, liftV P D n = S := ⟨_, rfl⟩
  obtain ⟨U, hU⟩ : ∃ U, n * n - 1 = U := ⟨_, rfl⟩
  obtain ⟨M, hM1⟩ : ∃ M, 1 + m = M := ⟨_, rfl⟩
  have HQ : Hid (∀ W, Calls Tryd.prog 126 #[.agg #[.int .i64 P, .int .i64 D, .int .i64 L, .int .i64 bx, .int .i64 cy], .int .i64 n, .int .i64 n] W fun r w' => r = .returned (.int .i64 m) ∧ Ext W w') := fun W => by
    have := twisted_any P D L bx cy n n W (by omega) h.pM (by omega) (by omega) n0 n1 n0 n1
    rwa [hm] at this
  have HD : Hid (∀ W, Calls Tryd.prog 127 #[.int .i64 U, .int .i64 M, .int .i64 P] W fun r w' => r = .returned (.int .i64 S) ∧ Ext W w') := fun W => by
    have := quotient_ext P.toNat U M W h.pp (by omega) (by omega) (by omega) (by omega) (by omega) (by omega)
    rw [h.nat] at this
    rwa [show U % P * iv P.toNat M % P = S by rw [← hS, ← hU, ← hM1, ← hm]; rfl] at this
  have rA : IntKind.i64.wrap (n * n) = n * n := by rw [IntKind.wrap_i64]; omega
  have rA' : wrap64 (n * n) = n * n := by unfold wrap64; omega
  have rB : IntKind.i64.wrap (n * n - 1) = U := by rw [IntKind.wrap_i64]; omega
  have rB' : wrap64 (n * n - 1) = U := by unfold wrap64; omega
  have rC : IntKind.i64.wrap (1 + m) = M := by rw [IntKind.wrap_i64]; omega
  have rC' : wrap64 (1 + m) = M := by unfold wrap64; omega
  clear hm hU hM1 q1 q2 m0 m1 hd hd1
  rw [hS] at hA
  have HR : Hid (∀ W, Tab W → Calls Tryd.prog 123 #[.int .i64 S, .int .i64 P] W fun r w' => r = .returned (.int .i64 v) ∧ Ext W w') := fun W hW => wantedRoot_yes hA (by omega) (by omega) W hW
  clear hA hS h
  go_enter Tryd.func105, Tryd.ntmps105
  go_wp2_with fail
  refine (HI.out _).mono ?_
  rintro r w' ⟨rfl, rfl⟩
  go_wp2_with fail
  refine (want_yes _).mono ?_
  rintro r w' ⟨rfl, rfl⟩
  go_wp2
  obtain ⟨V, hV⟩ : ∃ V, (w.alloc (.cells #[.int .i64 P, .int .i64 D, .int .i64 L, .int .i64 bx, .int .i64 cy] 37)).alloc (.cells #[.int .i64 0, .int .i64 0] 39) = V := ⟨_, rfl⟩
  obtain ⟨B1, B2, hE, hz⟩ := box2 w [.int .i64 P, .int .i64 D, .int .i64 L, .int .i64 bx, .int .i64 cy] [.int .i64 0, .int .i64 0] 37 39 (hV ▸ Ext.refl _ : Ext ((w.alloc (.cells #[.int .i64 P, .int .i64 D, .int .i64 L, .int .i64 bx, .int .i64 cy] 37)).alloc (.cells #[.int .i64 0, .int .i64 0] 39)) V)
  simp only [hV]
  clear hV
  obtain ⟨X, hX⟩ : ∃ X : Nat → Prop, X = fun k => w.heap.size + 1 ≤ k := ⟨_, rfl⟩
  have x0 : ∀ k, k < w.heap.size + 1 → ¬ X k := fun k h => by rw [hX]; simp; omega
  have xC : X (w.heap.size + 1) := by rw [hX]; exact Nat.le_refl _
  clear hX
  have t1 : ¬ X 1 := x0 1 (by have := hT.out.one; omega)
  have HT := hide (hT.out.ext hE)
  clear hT
  have k0 := cell_reC (B1 0 _ rfl).1 (x0 _ (by first | omega | (simp only; omega)))
  have k1 := cell_reC (B1 1 _ rfl).1 (x0 _ (by first | omega | (simp only; omega)))
  have k2 := cell_reC (B1 2 _ rfl).1 (x0 _ (by first | omega | (simp only; omega)))
  have k3 := cell_reC (B1 3 _ rfl).1 (x0 _ (by first | omega | (simp only; omega)))
  have k4 := cell_reC (B1 4 _ rfl).1 (x0 _ (by first | omega | (simp only; omega)))
  refine anyK_begin X 18 rfl (by kernel_rfl) ?_
  refine anyK_take 0 17 1 rfl (by decide) (by kernel_rfl) (fun _ _ d _ _ h => by cases d <;> exact h) ?_
  repeat (refine headC_step (fun K hK => ?_); go_simp; first | (refine hK _ ?_; clear hK K) | (apply Exists.intro; refine ⟨fun _ => ?_, hK _ ?_⟩; (first | (go_at_call 126; exact Calls.re_of (HQ.out _)) | (go_at_call 127; exact Calls.re_of (HD.out _)) | (go_at_call 123; exact Calls.re_of (HR.out _ (HT.out.reC t1 _)))); clear hK K))
  refine headC_nil ?_
  clear k0 k1 k2 k3 k4
  refine anyK_one 17 (by kernel_rfl) ?_
  refine stepK_run rfl ?_
  intro w2 h2 K hK
  have BZ := B2.ext h2 (by omega)
  have d0 := (BZ 0 _ rfl).1
  have d1 := (BZ 1 _ rfl).1
  have z0 := (BZ 0 _ rfl).2
  have z1 := (BZ 1 _ rfl).2
  go_simp
  refine hK _ _ (show Grw X V (putL (w.heap.size + 1) 0 [.int .i64 v, .int .i64 n] w2) from Grw.putL xC _ _ _ (.of_ext h2)) ?_
  clear hK K d0 d1 z0 z1
  refine anyK_done (by kernel_rfl) ?_ 0
  intro w3 h3
  replace h3 : Ext (putL (w.heap.size + 1) 0 [.int .i64 v, .int .i64 n] w2) w3 := h3
  have BW := (BZ.put [.int .i64 v, .int .i64 n] rfl).ext h3 (by rw [size_putL]; have := Below.size h2; omega)
  have hF : Ext w w3 := ((hE.trans h2).putL (by omega) [.int .i64 v, .int .i64 n]).trans h3
  clear h2 h3 BZ
  have q0 := (BW 0 _ rfl).1
  have q1 := (BW 1 _ rfl).1
  go_wp2
  refine bodyPost_ret (v := .agg #[.int .i64 v, .int .i64 n]) (by simp [results, Tryd.results105, go_sem, q0, q1]) rfl ⟨rfl, hF⟩

set_option maxHeartbeats 1600000 in
set_option maxRecDepth 100000 in
theorem liftPr_none {P D L : Int} (bx cy : Int) (h : EvNum P D L) {n : Int} (hn : 0 ≤ n ∧ n < P) (hA : RootAns (liftV P D n) P 0 false) (w : World) (hT : Tab w) : Calls Tryd.prog 105 #[.agg #[.int .i64 P, .int .i64 D, .int .i64 L, .int .i64 bx, .int .i64 cy], .int .i64 n] w fun e w' => e = .panicked [nrE] ∧ Ext w w' := by
  have h5 := h.p13; have hM := h.pM
  have HI := hide (inField_at n P true (by simp; omega))
  obtain ⟨n0, n1⟩ := hn
  have hT := hide hT
  have hd := h.d2
  have hd1 := h.d1
  obtain ⟨q1, q2⟩ := mulBd n0 (show n ≤ 1048576 by omega) n0 (show n ≤ 1048576 by omega)
  obtain ⟨m, hm⟩ : ∃ m, D * n % P * n % P = m := ⟨_, rfl⟩
  have m0 : 0 ≤ m := by rw [← hm]; exact Int.emod_nonneg _ (by omega)
  have m1 : m < P := by rw [← hm]; exact Int.emod_lt_of_pos _ (by omega)
  obtain ⟨S, hS⟩ : ∃ S, liftV P D n = S := ⟨_, rfl⟩
  obtain ⟨U, hU⟩ : ∃ U, n * n - 1 = U := ⟨_, rfl⟩
  obtain ⟨M, hM1⟩ : ∃ M, 1 + m = M := ⟨_, rfl⟩
  have HQ : Hid (∀ W, Calls Tryd.prog 126 #[.agg #[.int .i64 P, .int .i64 D, .int .i64 L, .int .i64 bx, .int .i64 cy], .int .i64 n, .int .i64 n] W fun r w' => r = .returned (.int .i64 m) ∧ Ext W w') := fun W => by
    have := twisted_any P D L bx cy n n W (by omega) h.pM (by omega) (by omega) n0 n1 n0 n1
    rwa [hm] at this
  have HD : Hid (∀ W, Calls Tryd.prog 127 #[.int .i64 U, .int .i64 M, .int .i64 P] W fun r w' => r = .returned (.int .i64 S) ∧ Ext W w') := fun W => by
    have := quotient_ext P.toNat U M W h.pp (by omega) (by omega) (by omega) (by omega) (by omega) (by omega)
    rw [h.nat] at this
    rwa [show U % P * iv P.toNat M % P = S by rw [← hS, ← hU, ← hM1, ← hm]; rfl] at this
  have rA : IntKind.i64.wrap (n * n) = n * n := by rw [IntKind.wrap_i64]; omega
  have rA' : wrap64 (n * n) = n * n := by unfold wrap64; omega
  have rB : IntKind.i64.wrap (n * n - 1) = U := by rw [IntKind.wrap_i64]; omega
  have rB' : wrap64 (n * n - 1) = U := by unfold wrap64; omega
  have rC : IntKind.i64.wrap (1 + m) = M := by rw [IntKind.wrap_i64]; omega
  have rC' : wrap64 (1 + m) = M := by unfold wrap64; omega
  clear hm hU hM1 q1 q2 m0 m1 hd hd1
  rw [hS] at hA
  have HR : Hid (∀ W, Tab W → Calls Tryd.prog 123 #[.int .i64 S, .int .i64 P] W fun r w' => r = .panicked [nrE] ∧ Ext W w') := fun W hW => wantedRoot_no hA (by omega) (by omega) W hW
  clear hA hS h
  go_enter Tryd.func105, Tryd.ntmps105
  go_wp2_with fail
  refine (HI.out _).mono ?_
  rintro r w' ⟨rfl, rfl⟩
  go_wp2_with fail
  refine (want_yes _).mono ?_
  rintro r w' ⟨rfl, rfl⟩
  go_wp2
  obtain ⟨V, hV⟩ : ∃ V, (w.alloc (.cells #[.int .i64 P, .int .i64 D, .int .i64 L, .int .i64 bx, .int .i64 cy] 37)).alloc (.cells #[.int .i64 0, .int .i64 0] 39) = V := ⟨_, rfl⟩
  obtain ⟨B1, B2, hE, hz⟩ := box2 w [.int .i64 P, .int .i64 D, .int .i64 L, .int .i64 bx, .int .i64 cy] [.int .i64 0, .int .i64 0] 37 39 (hV ▸ Ext.refl _ : Ext ((w.alloc (.cells #[.int .i64 P, .int .i64 D, .int .i64 L, .int .i64 bx, .int .i64 cy] 37)).alloc (.cells #[.int .i64 0, .int .i64 0] 39)) V)
  simp only [hV]
  clear hV
  obtain ⟨X, hX⟩ : ∃ X : Nat → Prop, X = fun k => w.heap.size + 1 ≤ k := ⟨_, rfl⟩
  have x0 : ∀ k, k < w.heap.size + 1 → ¬ X k := fun k h => by rw [hX]; simp; omega
  have xC : X (w.heap.size + 1) := by rw [hX]; exact Nat.le_refl _
  clear hX
  have t1 : ¬ X 1 := x0 1 (by have := hT.out.one; omega)
  have HT := hide (hT.out.ext hE)
  clear hT
  have k0 := cell_reC (B1 0 _ rfl).1 (x0 _ (by first | omega | (simp only; omega)))
  have k1 := cell_reC (B1 1 _ rfl).1 (x0 _ (by first | omega | (simp only; omega)))
  have k2 := cell_reC (B1 2 _ rfl).1 (x0 _ (by first | omega | (simp only; omega)))
  have k3 := cell_reC (B1 3 _ rfl).1 (x0 _ (by first | omega | (simp only; omega)))
  have k4 := cell_reC (B1 4 _ rfl).1 (x0 _ (by first | omega | (simp only; omega)))
  refine anyK_begin X 18 rfl (by kernel_rfl) ?_
  refine anyK_take 0 14 4 rfl (by decide) (by kernel_rfl) (fun _ _ d _ _ h => by cases d <;> exact h) ?_
  repeat (refine headC_step (fun K hK => ?_); go_simp; first | (refine hK _ ?_; clear hK K) | (apply Exists.intro; refine ⟨fun _ => ?_, hK _ ?_⟩; (first | (go_at_call 126; exact Calls.re_of (HQ.out _)) | (go_at_call 127; exact Calls.re_of (HD.out _))); clear hK K))
  refine headC_nil ?_
  refine anyK_take 15 1 3 rfl (by decide) (by kernel_rfl) (fun _ _ d _ _ h => by cases d <;> exact h) ?_
  repeat (refine headC_step (fun K hK => ?_); go_simp; first | (refine hK _ ?_; clear hK K) | (apply Exists.intro; refine ⟨fun _ => ?_, hK _ ?_⟩; (fail); clear hK K))
  refine headC_nil ?_
  clear k0 k1 k2 k3 k4
  refine anyK_one 14 (by kernel_rfl) ?_
  refine stepK_run rfl ?_
  intro w2 h2 K hK
  go_simp
  refine (HR.out _ (HT.out.ext h2)).mono ?_
  rintro e w3 ⟨rfl, h3⟩
  exact ⟨rfl, rfl, (hE.trans h2).trans h3⟩

set_option linter.unusedSimpArgs false

set_option maxHeartbeats 3200000 in
set_option maxRecDepth 100000 in
theorem atPr_noL (P D L bx cy : Int) (n t : Int)  (hL : Hid (∀ W : World, Tab W → Calls Tryd.prog 105 #[.agg #[.int .i64 P, .int .i64 D, .int .i64 L, .int .i64 bx, .int .i64 cy], .int .i64 n] W fun e w' => e = .panicked [nrE] ∧ Ext W w')) (w : World) (hT : Tab w) :
    Calls Tryd.prog 110 #[.agg #[.int .i64 0, .int .i64 1, .int .i64 bx, .int .i64 cy, .func (.func 102) #[.agg #[.int .i64 P, .int .i64 D, .int .i64 L, .int .i64 bx, .int .i64 cy]] #[], .func (.func 103) #[.agg #[.int .i64 P, .int .i64 D, .int .i64 L, .int .i64 bx, .int .i64 cy]] #[], .func (.func 104) #[.agg #[.int .i64 P, .int .i64 D, .int .i64 L, .int .i64 bx, .int .i64 cy]] #[], .func (.func 105) #[.agg #[.int .i64 P, .int .i64 D, .int .i64 L, .int .i64 bx, .int .i64 cy]] #[], .func (.func 106) #[] #[]], .int .i64 n, .int .i64 t] w fun e w' => e = .panicked [nrE] ∧ Ext w w' := by
  have hT := hide hT
  go_enter Tryd.func110, Tryd.ntmps110
  go_wp2_with fail
  refine (hL.out _ (hT.out.ext ((Ext.alloc _ _).trans (Ext.alloc _ _)))).mono ?_
  rintro e w1 ⟨rfl, hw1⟩
  exact ⟨rfl, rfl, ((Ext.alloc _ _).trans (Ext.alloc _ _)).trans hw1⟩

set_option maxHeartbeats 3200000 in
set_option maxRecDepth 100000 in
theorem atPr_one (P D L bx cy : Int) (n t : Int) (a : Pr) (hL : Hid (∀ W : World, Tab W → Calls Tryd.prog 105 #[.agg #[.int .i64 P, .int .i64 D, .int .i64 L, .int .i64 bx, .int .i64 cy], .int .i64 n] W fun e w' => e = .returned (.agg #[.int .i64 a.x, .int .i64 a.y]) ∧ Ext W w')) (hP : Hid (∀ W : World, Calls Tryd.prog 106 #[.agg #[.int .i64 a.x, .int .i64 a.y]] W fun e w' => e = .returned (.int .i64 t) ∧ Ext W w')) (w : World) (hT : Tab w) :
    Calls Tryd.prog 110 #[.agg #[.int .i64 0, .int .i64 1, .int .i64 bx, .int .i64 cy, .func (.func 102) #[.agg #[.int .i64 P, .int .i64 D, .int .i64 L, .int .i64 bx, .int .i64 cy]] #[], .func (.func 103) #[.agg #[.int .i64 P, .int .i64 D, .int .i64 L, .int .i64 bx, .int .i64 cy]] #[], .func (.func 104) #[.agg #[.int .i64 P, .int .i64 D, .int .i64 L, .int .i64 bx, .int .i64 cy]] #[], .func (.func 105) #[.agg #[.int .i64 P, .int .i64 D, .int .i64 L, .int .i64 bx, .int .i64 cy]] #[], .func (.func 106) #[] #[]], .int .i64 n, .int .i64 t] w fun e w' => e = .returned (.agg #[.int .i64 a.x, .int .i64 a.y]) ∧ Ext w w' := by
  have hT := hide hT
  go_enter Tryd.func110, Tryd.ntmps110
  go_wp2_with fail
  refine (hL.out _ (hT.out.ext ((Ext.alloc _ _).trans (Ext.alloc _ _)))).mono ?_
  rintro e w1 ⟨rfl, hw1⟩
  obtain ⟨B1, B2, hE, hz⟩ := box2 w [.int .i64 0, .int .i64 1, .int .i64 bx, .int .i64 cy, .func (.func 102) #[.agg #[.int .i64 P, .int .i64 D, .int .i64 L, .int .i64 bx, .int .i64 cy]] #[], .func (.func 103) #[.agg #[.int .i64 P, .int .i64 D, .int .i64 L, .int .i64 bx, .int .i64 cy]] #[], .func (.func 104) #[.agg #[.int .i64 P, .int .i64 D, .int .i64 L, .int .i64 bx, .int .i64 cy]] #[], .func (.func 105) #[.agg #[.int .i64 P, .int .i64 D, .int .i64 L, .int .i64 bx, .int .i64 cy]] #[], .func (.func 106) #[] #[]] [.int .i64 0, .int .i64 0] 100 39 hw1
  clear hw1 hL hT
  have E2 := Ext.alloc w1 (.cells #[.int .i64 a.x, .int .i64 a.y] 39)
  have C1 := B1.ext E2 (by omega)
  have C2 := B2.ext E2 (by omega)
  have T2 : Blk (w1.alloc (.cells #[.int .i64 a.x, .int .i64 a.y] 39)) w1.heap.size [.int .i64 a.x, .int .i64 a.y] := Blk.alloc w1 [.int .i64 a.x, .int .i64 a.y] 39
  have hE2 := hE.trans E2
  clear B1 B2 hE E2
  have g0 := (C1 0 _ rfl).1
  have g1 := (C1 1 _ rfl).1
  have g2 := (C1 2 _ rfl).1
  have g3 := (C1 3 _ rfl).1
  have g4 := (C1 4 _ rfl).1
  have g5 := (C1 5 _ rfl).1
  have g6 := (C1 6 _ rfl).1
  have g7 := (C1 7 _ rfl).1
  have g8 := (C1 8 _ rfl).1
  have s0 := (T2 0 _ rfl).1
  have s1 := (T2 1 _ rfl).1
  go_wp2_with fail
  refine (hP.out _).mono ?_
  rintro e w2 ⟨rfl, hw2⟩
  replace C1 := C1.ext hw2 (by simp; omega)
  replace C2 := C2.ext hw2 (by simp; omega)
  replace T2 := T2.ext hw2 (by simp)
  replace hE2 := hE2.trans hw2
  have hS : w1.heap.size < w2.heap.size := by have := Below.size hw2; simp at this; omega
  clear hw2 g0 g1 g2 g3 g4 g5 g6 g7 g8 s0 s1
  generalize w1.heap.size = S at *
  have g0 := (C1 0 _ rfl).1
  have g1 := (C1 1 _ rfl).1
  have g2 := (C1 2 _ rfl).1
  have g3 := (C1 3 _ rfl).1
  have g4 := (C1 4 _ rfl).1
  have g5 := (C1 5 _ rfl).1
  have g6 := (C1 6 _ rfl).1
  have g7 := (C1 7 _ rfl).1
  have g8 := (C1 8 _ rfl).1
  have s0 := (T2 0 _ rfl).1
  have s1 := (T2 1 _ rfl).1
  go_wp2_with fail
  refine (hP.out _).mono ?_
  rintro e w3 ⟨rfl, hw3⟩
  replace C2 := C2.ext hw3 (by omega)
  replace T2 := T2.ext hw3 hS
  replace hE2 := hE2.trans hw3
  clear hw3 g0 g1 g2 g3 g4 g5 g6 g7 g8 s0 s1 C1
  go_wp2_with fail
  refine (want_yes _).mono ?_
  rintro e w4 ⟨rfl, rfl⟩
  have s0 := (T2 0 _ rfl).1
  have s1 := (T2 1 _ rfl).1
  have d0 := (C2 0 _ rfl).1
  have d1 := (C2 1 _ rfl).1
  have z0 := (C2 0 _ rfl).2
  have z1 := (C2 1 _ rfl).2
  go_wp2
  obtain ⟨W, hW⟩ : ∃ W, putL (w.heap.size + 1) 0 [.int .i64 a.x, .int .i64 a.y] w4 = W := ⟨_, rfl⟩
  have BW := Blk.put C2 [.int .i64 a.x, .int .i64 a.y] rfl
  rw [hW] at BW
  have hF : Ext w W := hW ▸ hE2.putL (by omega) _
  simp only [putL, Nat.zero_add] at hW
  simp only [hW]
  have q0 := (BW 0 _ rfl).1
  have q1 := (BW 1 _ rfl).1
  refine bodyPost_ret (v := .agg #[.int .i64 a.x, .int .i64 a.y]) (by simp [results, Tryd.results110, go_sem, q0, q1]) rfl ⟨rfl, hF⟩

set_option maxHeartbeats 3200000 in
set_option maxRecDepth 100000 in
theorem atPr_two (P D L bx cy : Int) (n t : Int) (pa : Int) (a b : Pr) (hL : Hid (∀ W : World, Tab W → Calls Tryd.prog 105 #[.agg #[.int .i64 P, .int .i64 D, .int .i64 L, .int .i64 bx, .int .i64 cy], .int .i64 n] W fun e w' => e = .returned (.agg #[.int .i64 a.x, .int .i64 a.y]) ∧ Ext W w')) (hP : Hid (∀ W : World, Calls Tryd.prog 106 #[.agg #[.int .i64 a.x, .int .i64 a.y]] W fun e w' => e = .returned (.int .i64 pa) ∧ Ext W w')) (hne : pa ≠ t) (hO : Hid (∀ W : World, Calls Tryd.prog 104 #[.agg #[.int .i64 P, .int .i64 D, .int .i64 L, .int .i64 bx, .int .i64 cy], .agg #[.int .i64 a.x, .int .i64 a.y]] W fun e w' => e = .returned (.agg #[.int .i64 b.x, .int .i64 b.y]) ∧ Ext W w')) (hQ : Hid (∀ W : World, Calls Tryd.prog 106 #[.agg #[.int .i64 b.x, .int .i64 b.y]] W fun e w' => e = .returned (.int .i64 t) ∧ Ext W w')) (w : World) (hT : Tab w) :
    Calls Tryd.prog 110 #[.agg #[.int .i64 0, .int .i64 1, .int .i64 bx, .int .i64 cy, .func (.func 102) #[.agg #[.int .i64 P, .int .i64 D, .int .i64 L, .int .i64 bx, .int .i64 cy]] #[], .func (.func 103) #[.agg #[.int .i64 P, .int .i64 D, .int .i64 L, .int .i64 bx, .int .i64 cy]] #[], .func (.func 104) #[.agg #[.int .i64 P, .int .i64 D, .int .i64 L, .int .i64 bx, .int .i64 cy]] #[], .func (.func 105) #[.agg #[.int .i64 P, .int .i64 D, .int .i64 L, .int .i64 bx, .int .i64 cy]] #[], .func (.func 106) #[] #[]], .int .i64 n, .int .i64 t] w fun e w' => e = .returned (.agg #[.int .i64 b.x, .int .i64 b.y]) ∧ Ext w w' := by
  have hT := hide hT
  go_enter Tryd.func110, Tryd.ntmps110
  go_wp2_with fail
  refine (hL.out _ (hT.out.ext ((Ext.alloc _ _).trans (Ext.alloc _ _)))).mono ?_
  rintro e w1 ⟨rfl, hw1⟩
  obtain ⟨B1, B2, hE, hz⟩ := box2 w [.int .i64 0, .int .i64 1, .int .i64 bx, .int .i64 cy, .func (.func 102) #[.agg #[.int .i64 P, .int .i64 D, .int .i64 L, .int .i64 bx, .int .i64 cy]] #[], .func (.func 103) #[.agg #[.int .i64 P, .int .i64 D, .int .i64 L, .int .i64 bx, .int .i64 cy]] #[], .func (.func 104) #[.agg #[.int .i64 P, .int .i64 D, .int .i64 L, .int .i64 bx, .int .i64 cy]] #[], .func (.func 105) #[.agg #[.int .i64 P, .int .i64 D, .int .i64 L, .int .i64 bx, .int .i64 cy]] #[], .func (.func 106) #[] #[]] [.int .i64 0, .int .i64 0] 100 39 hw1
  clear hw1 hL hT
  have E2 := Ext.alloc w1 (.cells #[.int .i64 a.x, .int .i64 a.y] 39)
  have C1 := B1.ext E2 (by omega)
  have C2 := B2.ext E2 (by omega)
  have T2 : Blk (w1.alloc (.cells #[.int .i64 a.x, .int .i64 a.y] 39)) w1.heap.size [.int .i64 a.x, .int .i64 a.y] := Blk.alloc w1 [.int .i64 a.x, .int .i64 a.y] 39
  have hE2 := hE.trans E2
  clear B1 B2 hE E2
  have g0 := (C1 0 _ rfl).1
  have g1 := (C1 1 _ rfl).1
  have g2 := (C1 2 _ rfl).1
  have g3 := (C1 3 _ rfl).1
  have g4 := (C1 4 _ rfl).1
  have g5 := (C1 5 _ rfl).1
  have g6 := (C1 6 _ rfl).1
  have g7 := (C1 7 _ rfl).1
  have g8 := (C1 8 _ rfl).1
  have s0 := (T2 0 _ rfl).1
  have s1 := (T2 1 _ rfl).1
  go_wp2_with fail
  refine (hP.out _).mono ?_
  rintro e w2 ⟨rfl, hw2⟩
  replace C1 := C1.ext hw2 (by simp; omega)
  replace C2 := C2.ext hw2 (by simp; omega)
  replace T2 := T2.ext hw2 (by simp)
  replace hE2 := hE2.trans hw2
  have hS : w1.heap.size < w2.heap.size := by have := Below.size hw2; simp at this; omega
  clear hw2 g0 g1 g2 g3 g4 g5 g6 g7 g8 s0 s1
  generalize w1.heap.size = S at *
  have cb : (pa != t) = true := by simpa using hne
  have g0 := (C1 0 _ rfl).1
  have g1 := (C1 1 _ rfl).1
  have g2 := (C1 2 _ rfl).1
  have g3 := (C1 3 _ rfl).1
  have g4 := (C1 4 _ rfl).1
  have g5 := (C1 5 _ rfl).1
  have g6 := (C1 6 _ rfl).1
  have g7 := (C1 7 _ rfl).1
  have g8 := (C1 8 _ rfl).1
  have s0 := (T2 0 _ rfl).1
  have s1 := (T2 1 _ rfl).1
  go_wp2_with fail
  refine (hO.out _).mono ?_
  rintro e w3 ⟨rfl, hw3⟩
  replace C1 := C1.ext hw3 (by omega)
  replace C2 := C2.ext hw3 (by omega)
  replace T2 := T2.ext hw3 hS
  replace hE2 := hE2.trans hw3
  have hS3 : S < w3.heap.size := by have := Below.size hw3; omega
  clear hw3 g0 g1 g2 g3 g4 g5 g6 g7 g8 s0 s1 hP hO cb hS
  have ne1 : ¬ S = w.heap.size := by omega
  have ne2 : ¬ w.heap.size = S := by omega
  have g0 := (C1 0 _ rfl).1
  have g1 := (C1 1 _ rfl).1
  have g2 := (C1 2 _ rfl).1
  have g3 := (C1 3 _ rfl).1
  have g4 := (C1 4 _ rfl).1
  have g5 := (C1 5 _ rfl).1
  have g6 := (C1 6 _ rfl).1
  have g7 := (C1 7 _ rfl).1
  have g8 := (C1 8 _ rfl).1
  have s0 := (T2 0 _ rfl).1
  have s1 := (T2 1 _ rfl).1
  have y0 := (T2 0 _ rfl).2
  have y1 := (T2 1 _ rfl).2
  go_wp2_with fail
  clear g0 g1 g2 g3 g4 g5 g6 g7 g8 s0 s1 y0 y1 C1 ne1 ne2
  obtain ⟨W, hW⟩ : ∃ W, putL S 0 [.int .i64 b.x, .int .i64 b.y] w3 = W := ⟨_, rfl⟩
  have TW := Blk.put T2 [.int .i64 b.x, .int .i64 b.y] rfl
  rw [hW] at TW
  have CW := C2.put_other (C := S) [.int .i64 b.x, .int .i64 b.y] (by omega)
  rw [hW] at CW
  have hF : Ext w W := hW ▸ hE2.putL (by omega) _
  have hS4 : S < W.heap.size := by rw [← hW, size_putL]; exact hS3
  simp only [putL, Nat.zero_add] at hW
  simp only [hW]
  clear hW T2 C2 hE2 hS3
  refine (hQ.out _).mono ?_
  rintro e w4 ⟨rfl, hw4⟩
  replace CW := CW.ext hw4 (by omega)
  replace TW := TW.ext hw4 hS4
  replace hF := hF.trans hw4
  clear hw4
  go_wp2_with fail
  refine (want_yes _).mono ?_
  rintro e w5 ⟨rfl, rfl⟩
  have s0 := (TW 0 _ rfl).1
  have s1 := (TW 1 _ rfl).1
  have d0 := (CW 0 _ rfl).1
  have d1 := (CW 1 _ rfl).1
  have z0 := (CW 0 _ rfl).2
  have z1 := (CW 1 _ rfl).2
  go_wp2
  obtain ⟨W, hW⟩ : ∃ W, putL (w.heap.size + 1) 0 [.int .i64 b.x, .int .i64 b.y] w5 = W := ⟨_, rfl⟩
  have BW := Blk.put CW [.int .i64 b.x, .int .i64 b.y] rfl
  rw [hW] at BW
  have hF' : Ext w W := hW ▸ hF.putL (by omega) _
  simp only [putL, Nat.zero_add] at hW
  simp only [hW]
  have q0 := (BW 0 _ rfl).1
  have q1 := (BW 1 _ rfl).1
  refine bodyPost_ret (v := .agg #[.int .i64 b.x, .int .i64 b.y]) (by simp [results, Tryd.results110, go_sem, q0, q1]) rfl ⟨rfl, hF'⟩

set_option maxHeartbeats 3200000 in
set_option maxRecDepth 100000 in
theorem atPr_none (P D L bx cy : Int) (n t : Int) (pa pb : Int) (a b : Pr) (hL : Hid (∀ W : World, Tab W → Calls Tryd.prog 105 #[.agg #[.int .i64 P, .int .i64 D, .int .i64 L, .int .i64 bx, .int .i64 cy], .int .i64 n] W fun e w' => e = .returned (.agg #[.int .i64 a.x, .int .i64 a.y]) ∧ Ext W w')) (hP : Hid (∀ W : World, Calls Tryd.prog 106 #[.agg #[.int .i64 a.x, .int .i64 a.y]] W fun e w' => e = .returned (.int .i64 pa) ∧ Ext W w')) (hne : pa ≠ t) (hO : Hid (∀ W : World, Calls Tryd.prog 104 #[.agg #[.int .i64 P, .int .i64 D, .int .i64 L, .int .i64 bx, .int .i64 cy], .agg #[.int .i64 a.x, .int .i64 a.y]] W fun e w' => e = .returned (.agg #[.int .i64 b.x, .int .i64 b.y]) ∧ Ext W w')) (hQ : Hid (∀ W : World, Calls Tryd.prog 106 #[.agg #[.int .i64 b.x, .int .i64 b.y]] W fun e w' => e = .returned (.int .i64 pb) ∧ Ext W w')) (hnb : pb ≠ t) (w : World) (hT : Tab w) :
    Calls Tryd.prog 110 #[.agg #[.int .i64 0, .int .i64 1, .int .i64 bx, .int .i64 cy, .func (.func 102) #[.agg #[.int .i64 P, .int .i64 D, .int .i64 L, .int .i64 bx, .int .i64 cy]] #[], .func (.func 103) #[.agg #[.int .i64 P, .int .i64 D, .int .i64 L, .int .i64 bx, .int .i64 cy]] #[], .func (.func 104) #[.agg #[.int .i64 P, .int .i64 D, .int .i64 L, .int .i64 bx, .int .i64 cy]] #[], .func (.func 105) #[.agg #[.int .i64 P, .int .i64 D, .int .i64 L, .int .i64 bx, .int .i64 cy]] #[], .func (.func 106) #[] #[]], .int .i64 n, .int .i64 t] w fun e w' => e = .panicked [nrE] ∧ Ext w w' := by
  have hT := hide hT
  go_enter Tryd.func110, Tryd.ntmps110
  go_wp2_with fail
  refine (hL.out _ (hT.out.ext ((Ext.alloc _ _).trans (Ext.alloc _ _)))).mono ?_
  rintro e w1 ⟨rfl, hw1⟩
  obtain ⟨B1, B2, hE, hz⟩ := box2 w [.int .i64 0, .int .i64 1, .int .i64 bx, .int .i64 cy, .func (.func 102) #[.agg #[.int .i64 P, .int .i64 D, .int .i64 L, .int .i64 bx, .int .i64 cy]] #[], .func (.func 103) #[.agg #[.int .i64 P, .int .i64 D, .int .i64 L, .int .i64 bx, .int .i64 cy]] #[], .func (.func 104) #[.agg #[.int .i64 P, .int .i64 D, .int .i64 L, .int .i64 bx, .int .i64 cy]] #[], .func (.func 105) #[.agg #[.int .i64 P, .int .i64 D, .int .i64 L, .int .i64 bx, .int .i64 cy]] #[], .func (.func 106) #[] #[]] [.int .i64 0, .int .i64 0] 100 39 hw1
  clear hw1 hL hT
  have E2 := Ext.alloc w1 (.cells #[.int .i64 a.x, .int .i64 a.y] 39)
  have C1 := B1.ext E2 (by omega)
  have C2 := B2.ext E2 (by omega)
  have T2 : Blk (w1.alloc (.cells #[.int .i64 a.x, .int .i64 a.y] 39)) w1.heap.size [.int .i64 a.x, .int .i64 a.y] := Blk.alloc w1 [.int .i64 a.x, .int .i64 a.y] 39
  have hE2 := hE.trans E2
  clear B1 B2 hE E2
  have g0 := (C1 0 _ rfl).1
  have g1 := (C1 1 _ rfl).1
  have g2 := (C1 2 _ rfl).1
  have g3 := (C1 3 _ rfl).1
  have g4 := (C1 4 _ rfl).1
  have g5 := (C1 5 _ rfl).1
  have g6 := (C1 6 _ rfl).1
  have g7 := (C1 7 _ rfl).1
  have g8 := (C1 8 _ rfl).1
  have s0 := (T2 0 _ rfl).1
  have s1 := (T2 1 _ rfl).1
  go_wp2_with fail
  refine (hP.out _).mono ?_
  rintro e w2 ⟨rfl, hw2⟩
  replace C1 := C1.ext hw2 (by simp; omega)
  replace C2 := C2.ext hw2 (by simp; omega)
  replace T2 := T2.ext hw2 (by simp)
  replace hE2 := hE2.trans hw2
  have hS : w1.heap.size < w2.heap.size := by have := Below.size hw2; simp at this; omega
  clear hw2 g0 g1 g2 g3 g4 g5 g6 g7 g8 s0 s1
  generalize w1.heap.size = S at *
  have cb : (pa != t) = true := by simpa using hne
  have g0 := (C1 0 _ rfl).1
  have g1 := (C1 1 _ rfl).1
  have g2 := (C1 2 _ rfl).1
  have g3 := (C1 3 _ rfl).1
  have g4 := (C1 4 _ rfl).1
  have g5 := (C1 5 _ rfl).1
  have g6 := (C1 6 _ rfl).1
  have g7 := (C1 7 _ rfl).1
  have g8 := (C1 8 _ rfl).1
  have s0 := (T2 0 _ rfl).1
  have s1 := (T2 1 _ rfl).1
  go_wp2_with fail
  refine (hO.out _).mono ?_
  rintro e w3 ⟨rfl, hw3⟩
  replace C1 := C1.ext hw3 (by omega)
  replace C2 := C2.ext hw3 (by omega)
  replace T2 := T2.ext hw3 hS
  replace hE2 := hE2.trans hw3
  have hS3 : S < w3.heap.size := by have := Below.size hw3; omega
  clear hw3 g0 g1 g2 g3 g4 g5 g6 g7 g8 s0 s1 hP hO cb hS
  have ne1 : ¬ S = w.heap.size := by omega
  have ne2 : ¬ w.heap.size = S := by omega
  have g0 := (C1 0 _ rfl).1
  have g1 := (C1 1 _ rfl).1
  have g2 := (C1 2 _ rfl).1
  have g3 := (C1 3 _ rfl).1
  have g4 := (C1 4 _ rfl).1
  have g5 := (C1 5 _ rfl).1
  have g6 := (C1 6 _ rfl).1
  have g7 := (C1 7 _ rfl).1
  have g8 := (C1 8 _ rfl).1
  have s0 := (T2 0 _ rfl).1
  have s1 := (T2 1 _ rfl).1
  have y0 := (T2 0 _ rfl).2
  have y1 := (T2 1 _ rfl).2
  go_wp2_with fail
  clear g0 g1 g2 g3 g4 g5 g6 g7 g8 s0 s1 y0 y1 C1 ne1 ne2
  obtain ⟨W, hW⟩ : ∃ W, putL S 0 [.int .i64 b.x, .int .i64 b.y] w3 = W := ⟨_, rfl⟩
  have TW := Blk.put T2 [.int .i64 b.x, .int .i64 b.y] rfl
  rw [hW] at TW
  have CW := C2.put_other (C := S) [.int .i64 b.x, .int .i64 b.y] (by omega)
  rw [hW] at CW
  have hF : Ext w W := hW ▸ hE2.putL (by omega) _
  have hS4 : S < W.heap.size := by rw [← hW, size_putL]; exact hS3
  simp only [putL, Nat.zero_add] at hW
  simp only [hW]
  clear hW T2 C2 hE2 hS3
  refine (hQ.out _).mono ?_
  rintro e w4 ⟨rfl, hw4⟩
  replace CW := CW.ext hw4 (by omega)
  replace TW := TW.ext hw4 hS4
  replace hF := hF.trans hw4
  clear hw4
  have db : (pb == t) = false := by simpa using hnb
  go_wp2_with fail
  refine (want_no _).mono ?_
  rintro e w5 ⟨rfl, rfl⟩
  exact ⟨rfl, rfl, hF⟩

set_option linter.unusedSimpArgs false

theorem BSeg.reC {X : Nat → Prop} {w : World} {a : Option Addr} {b off n : Nat} {f : Nat → Int} (h : BSeg w a b off n f) (hX : ¬ X b) (p : ReC X w) : BSeg p.val a b off n f := ⟨h.at', fun i hi => cell_reC (h.cell i hi) hX p⟩

theorem xor_high {x : Int} (h0 : 0 ≤ x) (h1 : x ≤ 255) : bits .xor .u8 x (x / 128 * 128) = x % 128 := by
  have h : ∀ n : Nat, n < 256 → bits .xor .u8 (n : Int) ((n : Int) / 128 * 128) = (n : Int) % 128 := by decide +kernel
  obtain ⟨n, rfl⟩ := Int.eq_ofNat_of_zero_le h0
  exact h n (by omega)

set_option maxHeartbeats 1600000 in
set_option maxRecDepth 100000 in
theorem rdPr_len (P D L bx cy : Int) (a : Option Addr) (b off n cap : Nat) (f : Nat → Int) (hn : n ≠ 3) (w : World) (hT : Tab w) (hs : BSeg w a b off n f) (hr : ∀ i, i < n → 0 ≤ f i ∧ f i ≤ 255) (hcap : n ≤ cap) :
    Calls Tryd.prog 69 #[.agg #[.int .i64 0, .int .i64 1, .int .i64 bx, .int .i64 cy, .func (.func 102) #[.agg #[.int .i64 P, .int .i64 D, .int .i64 L, .int .i64 bx, .int .i64 cy]] #[], .func (.func 103) #[.agg #[.int .i64 P, .int .i64 D, .int .i64 L, .int .i64 bx, .int .i64 cy]] #[], .func (.func 104) #[.agg #[.int .i64 P, .int .i64 D, .int .i64 L, .int .i64 bx, .int .i64 cy]] #[], .func (.func 105) #[.agg #[.int .i64 P, .int .i64 D, .int .i64 L, .int .i64 bx, .int .i64 cy]] #[], .func (.func 106) #[] #[]], .slice a n cap] w fun e w' => e = .panicked [nrE] ∧ Ext w w' := by
  have nq : ((n : Int) == 3) = false := by simp; omega
  clear hs hr hcap hn
  go_enter Tryd.func69, Tryd.ntmps69
  go_wp2_with fail
  refine (want_no _).mono ?_
  rintro r w' ⟨rfl, rfl⟩
  exact ⟨rfl, rfl, (Ext.alloc _ _).trans (Ext.alloc _ _)⟩

set_option maxHeartbeats 1600000 in
set_option maxRecDepth 100000 in
theorem rdPr_yes (P D L bx cy : Int) (a : Option Addr) (b off n cap : Nat) (f : Nat → Int) (y t : Int) (r : Pr) (hn : n = 3) (hy : f 0 + f 1 * 256 + f 2 % 128 * 65536 = y) (ht : f 2 / 128 = t) (hA : Hid (∀ W : World, Tab W → Calls Tryd.prog 110 #[.agg #[.int .i64 0, .int .i64 1, .int .i64 bx, .int .i64 cy, .func (.func 102) #[.agg #[.int .i64 P, .int .i64 D, .int .i64 L, .int .i64 bx, .int .i64 cy]] #[], .func (.func 103) #[.agg #[.int .i64 P, .int .i64 D, .int .i64 L, .int .i64 bx, .int .i64 cy]] #[], .func (.func 104) #[.agg #[.int .i64 P, .int .i64 D, .int .i64 L, .int .i64 bx, .int .i64 cy]] #[], .func (.func 105) #[.agg #[.int .i64 P, .int .i64 D, .int .i64 L, .int .i64 bx, .int .i64 cy]] #[], .func (.func 106) #[] #[]], .int .i64 y, .int .i64 t] W fun e w' => e = .returned (.agg #[.int .i64 r.x, .int .i64 r.y]) ∧ Ext W w')) (w : World) (hT : Tab w) (hs : BSeg w a b off n f) (hr : ∀ i, i < n → 0 ≤ f i ∧ f i ≤ 255) (hcap : n ≤ cap) :
    Calls Tryd.prog 69 #[.agg #[.int .i64 0, .int .i64 1, .int .i64 bx, .int .i64 cy, .func (.func 102) #[.agg #[.int .i64 P, .int .i64 D, .int .i64 L, .int .i64 bx, .int .i64 cy]] #[], .func (.func 103) #[.agg #[.int .i64 P, .int .i64 D, .int .i64 L, .int .i64 bx, .int .i64 cy]] #[], .func (.func 104) #[.agg #[.int .i64 P, .int .i64 D, .int .i64 L, .int .i64 bx, .int .i64 cy]] #[], .func (.func 105) #[.agg #[.int .i64 P, .int .i64 D, .int .i64 L, .int .i64 bx, .int .i64 cy]] #[], .func (.func 106) #[] #[]], .slice a n cap] w fun e w' => e = .returned (.agg #[.int .i64 r.x, .int .i64 r.y]) ∧ Ext w w' := by
  subst hn
  have hb := hs.lt (by omega)
  obtain rfl := hs.at' (by omega)
  obtain ⟨r0, s0⟩ := hr 0 (by omega)
  obtain ⟨r1, s1⟩ := hr 1 (by omega)
  obtain ⟨r2, s2⟩ := hr 2 (by omega)
  obtain ⟨m, hm⟩ : ∃ m, f 2 % 128 = m := ⟨_, rfl⟩
  have HX : Hid (∀ (W : World) (S : Nat), Blk W S [.int .u8 m, .int .u8 (f 1), .int .u8 (f 0)] → Calls Tryd.prog 94 #[.slice (some ⟨S, 0, none⟩) 3 3] W fun r w' => r = .returned (.int .i64 y) ∧ Ext W w') := fun W S h => by
    have := readHigh_any S 0 3 (fun i => if i = 0 then m else if i = 1 then f 1 else f 0) W ⟨fun _ => rfl, fun i hi => by
      have : i = 0 ∨ i = 1 ∨ i = 2 := by omega
      rcases this with rfl | rfl | rfl
      · exact (h 0 _ rfl).1
      · exact (h 1 _ rfl).1
      · exact (h 2 _ rfl).1⟩ (fun i hi => by
      have : i = 0 ∨ i = 1 ∨ i = 2 := by omega
      rcases this with rfl | rfl | rfl
      · simp only [if_pos]; omega
      · exact ⟨r1, s1⟩
      · exact ⟨r0, s0⟩)
    rwa [show rd3 (fun i => if i = 0 then m else if i = 1 then f 1 else f 0) 0 = y by simp [rd3]; omega] at this
  have hxor := xor_high r2 s2
  rw [ht, hm] at hxor
  have t0 : 0 ≤ t := by omega
  have t1 : t ≤ 1 := by omega
  have hT := hide hT
  go_enter Tryd.func69, Tryd.ntmps69
  go_wp2_with fail
  refine (want_yes _).mono ?_
  rintro r w' ⟨rfl, rfl⟩
  obtain ⟨V, hV⟩ : ∃ V, (w.alloc (.cells #[.int .i64 0, .int .i64 1, .int .i64 bx, .int .i64 cy, .func (.func 102) #[.agg #[.int .i64 P, .int .i64 D, .int .i64 L, .int .i64 bx, .int .i64 cy]] #[], .func (.func 103) #[.agg #[.int .i64 P, .int .i64 D, .int .i64 L, .int .i64 bx, .int .i64 cy]] #[], .func (.func 104) #[.agg #[.int .i64 P, .int .i64 D, .int .i64 L, .int .i64 bx, .int .i64 cy]] #[], .func (.func 105) #[.agg #[.int .i64 P, .int .i64 D, .int .i64 L, .int .i64 bx, .int .i64 cy]] #[], .func (.func 106) #[] #[]] 100)).alloc (.cells #[.int .i64 0, .int .i64 0] 39) = V := ⟨_, rfl⟩
  obtain ⟨B1, B2, hE, hz⟩ := box2 w [.int .i64 0, .int .i64 1, .int .i64 bx, .int .i64 cy, .func (.func 102) #[.agg #[.int .i64 P, .int .i64 D, .int .i64 L, .int .i64 bx, .int .i64 cy]] #[], .func (.func 103) #[.agg #[.int .i64 P, .int .i64 D, .int .i64 L, .int .i64 bx, .int .i64 cy]] #[], .func (.func 104) #[.agg #[.int .i64 P, .int .i64 D, .int .i64 L, .int .i64 bx, .int .i64 cy]] #[], .func (.func 105) #[.agg #[.int .i64 P, .int .i64 D, .int .i64 L, .int .i64 bx, .int .i64 cy]] #[], .func (.func 106) #[] #[]] [.int .i64 0, .int .i64 0] 100 39 (hV ▸ Ext.refl _ : Ext ((w.alloc (.cells #[.int .i64 0, .int .i64 1, .int .i64 bx, .int .i64 cy, .func (.func 102) #[.agg #[.int .i64 P, .int .i64 D, .int .i64 L, .int .i64 bx, .int .i64 cy]] #[], .func (.func 103) #[.agg #[.int .i64 P, .int .i64 D, .int .i64 L, .int .i64 bx, .int .i64 cy]] #[], .func (.func 104) #[.agg #[.int .i64 P, .int .i64 D, .int .i64 L, .int .i64 bx, .int .i64 cy]] #[], .func (.func 105) #[.agg #[.int .i64 P, .int .i64 D, .int .i64 L, .int .i64 bx, .int .i64 cy]] #[], .func (.func 106) #[] #[]] 100)).alloc (.cells #[.int .i64 0, .int .i64 0] 39)) V)
  simp only [hV]
  clear hV
  have HS := hide (hs.of_all hE)
  have HT := hide (hT.out.ext hE)
  have t1' := hT.out.one
  have hc2 := HS.out.cell 2 (by omega)
  obtain ⟨X, hX⟩ : ∃ X : Nat → Prop, X = fun k => w.heap.size + 1 ≤ k := ⟨_, rfl⟩
  have x0 : ∀ k, k < w.heap.size + 1 → ¬ X k := fun k h => by rw [hX]; simp; omega
  have xC : X (w.heap.size + 1) := by rw [hX]; exact Nat.le_refl _
  clear hX
  have xb : ¬ X b := x0 b (by omega)
  have c0 := cell_reC (HS.out.cell 0 (by omega)) xb
  have c1 := cell_reC (HS.out.cell 1 (by omega)) xb
  have c2 := cell_reC (HS.out.cell 2 (by omega)) xb
  rw [Nat.add_zero] at c0
  clear hs hr hT t1' hy hm
  generalize f 0 = y0 at *
  generalize f 1 = y1 at *
  generalize f 2 = y2 at *
  have hq : wrap64 y2 = y2 := by unfold wrap64; omega
  have w1 : IntKind.u8.wrap (t * 128) = t * 128 := by simp [IntKind.wrap_u8]; omega
  have w2' : IntKind.i64.wrap t = t := by rw [IntKind.wrap_i64]; omega
  go_wp2
  clear hc2
  have g0 := cell_reC (B1 0 _ rfl).1 (x0 _ (by first | omega | (simp only; omega)))
  have g1 := cell_reC (B1 1 _ rfl).1 (x0 _ (by first | omega | (simp only; omega)))
  have g2 := cell_reC (B1 2 _ rfl).1 (x0 _ (by first | omega | (simp only; omega)))
  have g3 := cell_reC (B1 3 _ rfl).1 (x0 _ (by first | omega | (simp only; omega)))
  have g4 := cell_reC (B1 4 _ rfl).1 (x0 _ (by first | omega | (simp only; omega)))
  have g5 := cell_reC (B1 5 _ rfl).1 (x0 _ (by first | omega | (simp only; omega)))
  have g6 := cell_reC (B1 6 _ rfl).1 (x0 _ (by first | omega | (simp only; omega)))
  have g7 := cell_reC (B1 7 _ rfl).1 (x0 _ (by first | omega | (simp only; omega)))
  have g8 := cell_reC (B1 8 _ rfl).1 (x0 _ (by first | omega | (simp only; omega)))
  refine anyK_begin X 19 rfl (by kernel_rfl) ?_
  refine anyK_take 0 13 6 rfl (by decide) (by kernel_rfl) (fun _ _ d _ _ h => by cases d <;> exact h) ?_
  repeat (refine headC_step (fun K hK => ?_); go_simp; first | (refine hK _ ?_; clear hK K) | (apply Exists.intro; refine ⟨fun _ => ?_, hK _ ?_⟩; (fail); clear hK K))
  refine headC_nil ?_
  refine anyK_take 15 2 4 rfl (by decide) (by kernel_rfl) (fun _ _ d _ _ h => by cases d <;> exact h) ?_
  repeat (refine headC_step (fun K hK => ?_); go_simp; first | (refine hK _ ?_; clear hK K) | (apply Exists.intro; refine ⟨fun _ => ?_, hK _ ?_⟩; (fail); clear hK K))
  refine headC_nil ?_
  clear g0 g1 g2 g3 g4 g5 g6 g7 g8 c0 c1 c2 ht hxor
  refine anyK_one 13 (by kernel_rfl) ?_
  refine stepK_run rfl ?_
  intro w2 h2 K hK
  go_simp
  refine hK _ _ (.of_ext (h2.trans (Ext.alloc _ _))) ?_
  clear hK K
  refine anyK_one 14 (by kernel_rfl) ?_
  refine stepK_run rfl ?_
  intro w3 h3 K hK
  obtain ⟨BS, h23, sS⟩ := box1 w2 [.int .u8 m, .int .u8 y1, .int .u8 y0] 5 h3
  go_simp
  refine (HX.out _ _ BS).mono ?_
  rintro e w4 ⟨rfl, h4⟩
  have h24 := (h2.trans h23).trans h4
  go_simp
  refine hK _ _ (.of_ext h24) ?_
  clear hK K h2 h3 h23 h4 BS sS HX
  refine anyK_one 17 (by kernel_rfl) ?_
  refine stepK_run rfl ?_
  intro w5 h5 K hK
  go_simp
  refine (hA.out _ (HT.out.ext (h24.trans h5))).mono ?_
  rintro e w6 ⟨rfl, h6⟩
  have h26 := (h24.trans h5).trans h6
  go_simp
  refine hK _ _ (.of_ext h26) ?_
  clear hK K h24 h5 h6 hA
  refine anyK_one 18 (by kernel_rfl) ?_
  refine stepK_run rfl ?_
  intro w7 h7 K hK
  have h27 := h26.trans h7
  have BZ := B2.ext h27 (by omega)
  have d0 := (BZ 0 _ rfl).1
  have d1 := (BZ 1 _ rfl).1
  have z0 := (BZ 0 _ rfl).2
  have z1 := (BZ 1 _ rfl).2
  go_simp
  refine hK _ _ (show Grw X V (putL (w.heap.size + 1) 0 [.int .i64 r.x, .int .i64 r.y] w7) from Grw.putL xC _ _ _ (.of_ext h27)) ?_
  clear hK K d0 d1 z0 z1
  refine anyK_done (by kernel_rfl) ?_ 0
  intro w8 h8
  replace h8 : Ext (putL (w.heap.size + 1) 0 [.int .i64 r.x, .int .i64 r.y] w7) w8 := h8
  have BW := (BZ.put [.int .i64 r.x, .int .i64 r.y] rfl).ext h8 (by rw [size_putL]; have := Below.size h27; omega)
  have hF : Ext w w8 := ((hE.trans h27).putL (by omega) [.int .i64 r.x, .int .i64 r.y]).trans h8
  clear h26 h7 h27 h8 BZ
  have q0 := (BW 0 _ rfl).1
  have q1 := (BW 1 _ rfl).1
  go_wp2
  refine bodyPost_ret (v := .agg #[.int .i64 r.x, .int .i64 r.y]) (by simp [results, Tryd.results69, go_sem, q0, q1]) rfl ⟨rfl, hF⟩

set_option maxHeartbeats 1600000 in
set_option maxRecDepth 100000 in
theorem rdPr_no (P D L bx cy : Int) (a : Option Addr) (b off n cap : Nat) (f : Nat → Int) (y t : Int) (hn : n = 3) (hy : f 0 + f 1 * 256 + f 2 % 128 * 65536 = y) (ht : f 2 / 128 = t) (hA : Hid (∀ W : World, Tab W → Calls Tryd.prog 110 #[.agg #[.int .i64 0, .int .i64 1, .int .i64 bx, .int .i64 cy, .func (.func 102) #[.agg #[.int .i64 P, .int .i64 D, .int .i64 L, .int .i64 bx, .int .i64 cy]] #[], .func (.func 103) #[.agg #[.int .i64 P, .int .i64 D, .int .i64 L, .int .i64 bx, .int .i64 cy]] #[], .func (.func 104) #[.agg #[.int .i64 P, .int .i64 D, .int .i64 L, .int .i64 bx, .int .i64 cy]] #[], .func (.func 105) #[.agg #[.int .i64 P, .int .i64 D, .int .i64 L, .int .i64 bx, .int .i64 cy]] #[], .func (.func 106) #[] #[]], .int .i64 y, .int .i64 t] W fun e w' => e = .panicked [nrE] ∧ Ext W w')) (w : World) (hT : Tab w) (hs : BSeg w a b off n f) (hr : ∀ i, i < n → 0 ≤ f i ∧ f i ≤ 255) (hcap : n ≤ cap) :
    Calls Tryd.prog 69 #[.agg #[.int .i64 0, .int .i64 1, .int .i64 bx, .int .i64 cy, .func (.func 102) #[.agg #[.int .i64 P, .int .i64 D, .int .i64 L, .int .i64 bx, .int .i64 cy]] #[], .func (.func 103) #[.agg #[.int .i64 P, .int .i64 D, .int .i64 L, .int .i64 bx, .int .i64 cy]] #[], .func (.func 104) #[.agg #[.int .i64 P, .int .i64 D, .int .i64 L, .int .i64 bx, .int .i64 cy]] #[], .func (.func 105) #[.agg #[.int .i64 P, .int .i64 D, .int .i64 L, .int .i64 bx, .int .i64 cy]] #[], .func (.func 106) #[] #[]], .slice a n cap] w fun e w' => e = .panicked [nrE] ∧ Ext w w' := by
  subst hn
  have hb := hs.lt (by omega)
  obtain rfl := hs.at' (by omega)
  obtain ⟨r0, s0⟩ := hr 0 (by omega)
  obtain ⟨r1, s1⟩ := hr 1 (by omega)
  obtain ⟨r2, s2⟩ := hr 2 (by omega)
  obtain ⟨m, hm⟩ : ∃ m, f 2 % 128 = m := ⟨_, rfl⟩
  have HX : Hid (∀ (W : World) (S : Nat), Blk W S [.int .u8 m, .int .u8 (f 1), .int .u8 (f 0)] → Calls Tryd.prog 94 #[.slice (some ⟨S, 0, none⟩) 3 3] W fun r w' => r = .returned (.int .i64 y) ∧ Ext W w') := fun W S h => by
    have := readHigh_any S 0 3 (fun i => if i = 0 then m else if i = 1 then f 1 else f 0) W ⟨fun _ => rfl, fun i hi => by
      have : i = 0 ∨ i = 1 ∨ i = 2 := by omega
      rcases this with rfl | rfl | rfl
      · exact (h 0 _ rfl).1
      · exact (h 1 _ rfl).1
      · exact (h 2 _ rfl).1⟩ (fun i hi => by
      have : i = 0 ∨ i = 1 ∨ i = 2 := by omega
      rcases this with rfl | rfl | rfl
      · simp only [if_pos]; omega
      · exact ⟨r1, s1⟩
      · exact ⟨r0, s0⟩)
    rwa [show rd3 (fun i => if i = 0 then m else if i = 1 then f 1 else f 0) 0 = y by simp [rd3]; omega] at this
  have hxor := xor_high r2 s2
  rw [ht, hm] at hxor
  have t0 : 0 ≤ t := by omega
  have t1 : t ≤ 1 := by omega
  have hT := hide hT
  go_enter Tryd.func69, Tryd.ntmps69
  go_wp2_with fail
  refine (want_yes _).mono ?_
  rintro r w' ⟨rfl, rfl⟩
  obtain ⟨V, hV⟩ : ∃ V, (w.alloc (.cells #[.int .i64 0, .int .i64 1, .int .i64 bx, .int .i64 cy, .func (.func 102) #[.agg #[.int .i64 P, .int .i64 D, .int .i64 L, .int .i64 bx, .int .i64 cy]] #[], .func (.func 103) #[.agg #[.int .i64 P, .int .i64 D, .int .i64 L, .int .i64 bx, .int .i64 cy]] #[], .func (.func 104) #[.agg #[.int .i64 P, .int .i64 D, .int .i64 L, .int .i64 bx, .int .i64 cy]] #[], .func (.func 105) #[.agg #[.int .i64 P, .int .i64 D, .int .i64 L, .int .i64 bx, .int .i64 cy]] #[], .func (.func 106) #[] #[]] 100)).alloc (.cells #[.int .i64 0, .int .i64 0] 39) = V := ⟨_, rfl⟩
  obtain ⟨B1, B2, hE, hz⟩ := box2 w [.int .i64 0, .int .i64 1, .int .i64 bx, .int .i64 cy, .func (.func 102) #[.agg #[.int .i64 P, .int .i64 D, .int .i64 L, .int .i64 bx, .int .i64 cy]] #[], .func (.func 103) #[.agg #[.int .i64 P, .int .i64 D, .int .i64 L, .int .i64 bx, .int .i64 cy]] #[], .func (.func 104) #[.agg #[.int .i64 P, .int .i64 D, .int .i64 L, .int .i64 bx, .int .i64 cy]] #[], .func (.func 105) #[.agg #[.int .i64 P, .int .i64 D, .int .i64 L, .int .i64 bx, .int .i64 cy]] #[], .func (.func 106) #[] #[]] [.int .i64 0, .int .i64 0] 100 39 (hV ▸ Ext.refl _ : Ext ((w.alloc (.cells #[.int .i64 0, .int .i64 1, .int .i64 bx, .int .i64 cy, .func (.func 102) #[.agg #[.int .i64 P, .int .i64 D, .int .i64 L, .int .i64 bx, .int .i64 cy]] #[], .func (.func 103) #[.agg #[.int .i64 P, .int .i64 D, .int .i64 L, .int .i64 bx, .int .i64 cy]] #[], .func (.func 104) #[.agg #[.int .i64 P, .int .i64 D, .int .i64 L, .int .i64 bx, .int .i64 cy]] #[], .func (.func 105) #[.agg #[.int .i64 P, .int .i64 D, .int .i64 L, .int .i64 bx, .int .i64 cy]] #[], .func (.func 106) #[] #[]] 100)).alloc (.cells #[.int .i64 0, .int .i64 0] 39)) V)
  simp only [hV]
  clear hV
  have HS := hide (hs.of_all hE)
  have HT := hide (hT.out.ext hE)
  have t1' := hT.out.one
  have hc2 := HS.out.cell 2 (by omega)
  obtain ⟨X, hX⟩ : ∃ X : Nat → Prop, X = fun k => w.heap.size + 1 ≤ k := ⟨_, rfl⟩
  have x0 : ∀ k, k < w.heap.size + 1 → ¬ X k := fun k h => by rw [hX]; simp; omega
  have xC : X (w.heap.size + 1) := by rw [hX]; exact Nat.le_refl _
  clear hX
  have xb : ¬ X b := x0 b (by omega)
  have c0 := cell_reC (HS.out.cell 0 (by omega)) xb
  have c1 := cell_reC (HS.out.cell 1 (by omega)) xb
  have c2 := cell_reC (HS.out.cell 2 (by omega)) xb
  rw [Nat.add_zero] at c0
  clear hs hr hT t1' hy hm
  generalize f 0 = y0 at *
  generalize f 1 = y1 at *
  generalize f 2 = y2 at *
  have hq : wrap64 y2 = y2 := by unfold wrap64; omega
  have w1 : IntKind.u8.wrap (t * 128) = t * 128 := by simp [IntKind.wrap_u8]; omega
  have w2' : IntKind.i64.wrap t = t := by rw [IntKind.wrap_i64]; omega
  go_wp2
  clear hc2
  have g0 := cell_reC (B1 0 _ rfl).1 (x0 _ (by first | omega | (simp only; omega)))
  have g1 := cell_reC (B1 1 _ rfl).1 (x0 _ (by first | omega | (simp only; omega)))
  have g2 := cell_reC (B1 2 _ rfl).1 (x0 _ (by first | omega | (simp only; omega)))
  have g3 := cell_reC (B1 3 _ rfl).1 (x0 _ (by first | omega | (simp only; omega)))
  have g4 := cell_reC (B1 4 _ rfl).1 (x0 _ (by first | omega | (simp only; omega)))
  have g5 := cell_reC (B1 5 _ rfl).1 (x0 _ (by first | omega | (simp only; omega)))
  have g6 := cell_reC (B1 6 _ rfl).1 (x0 _ (by first | omega | (simp only; omega)))
  have g7 := cell_reC (B1 7 _ rfl).1 (x0 _ (by first | omega | (simp only; omega)))
  have g8 := cell_reC (B1 8 _ rfl).1 (x0 _ (by first | omega | (simp only; omega)))
  refine anyK_begin X 19 rfl (by kernel_rfl) ?_
  refine anyK_take 0 13 6 rfl (by decide) (by kernel_rfl) (fun _ _ d _ _ h => by cases d <;> exact h) ?_
  repeat (refine headC_step (fun K hK => ?_); go_simp; first | (refine hK _ ?_; clear hK K) | (apply Exists.intro; refine ⟨fun _ => ?_, hK _ ?_⟩; (fail); clear hK K))
  refine headC_nil ?_
  refine anyK_take 15 2 4 rfl (by decide) (by kernel_rfl) (fun _ _ d _ _ h => by cases d <;> exact h) ?_
  repeat (refine headC_step (fun K hK => ?_); go_simp; first | (refine hK _ ?_; clear hK K) | (apply Exists.intro; refine ⟨fun _ => ?_, hK _ ?_⟩; (fail); clear hK K))
  refine headC_nil ?_
  clear g0 g1 g2 g3 g4 g5 g6 g7 g8 c0 c1 c2 ht hxor
  refine anyK_one 13 (by kernel_rfl) ?_
  refine stepK_run rfl ?_
  intro w2 h2 K hK
  go_simp
  refine hK _ _ (.of_ext (h2.trans (Ext.alloc _ _))) ?_
  clear hK K
  refine anyK_one 14 (by kernel_rfl) ?_
  refine stepK_run rfl ?_
  intro w3 h3 K hK
  obtain ⟨BS, h23, sS⟩ := box1 w2 [.int .u8 m, .int .u8 y1, .int .u8 y0] 5 h3
  go_simp
  refine (HX.out _ _ BS).mono ?_
  rintro e w4 ⟨rfl, h4⟩
  have h24 := (h2.trans h23).trans h4
  go_simp
  refine hK _ _ (.of_ext h24) ?_
  clear hK K h2 h3 h23 h4 BS sS HX
  refine anyK_one 17 (by kernel_rfl) ?_
  refine stepK_run rfl ?_
  intro w5 h5 K hK
  go_simp
  refine (hA.out _ (HT.out.ext (h24.trans h5))).mono ?_
  rintro e w6 ⟨rfl, h6⟩
  exact ⟨rfl, rfl, ((hE.trans h24).trans h5).trans h6⟩

set_option linter.unusedSimpArgs false

theorem or_high {x q : Int} (h0 : 0 ≤ x) (h1 : x ≤ 127) (q0 : 0 ≤ q) (q1 : q ≤ 1) : bits .or .u8 x (q * 128) = x + 128 * q := by
  have h : ∀ n : Nat, n < 128 → ∀ m : Nat, m < 2 → bits .or .u8 (n : Int) ((m : Int) * 128) = (n : Int) + 128 * (m : Int) := by decide +kernel
  obtain ⟨n, rfl⟩ := Int.eq_ofNat_of_zero_le h0
  obtain ⟨m, rfl⟩ := Int.eq_ofNat_of_zero_le q0
  exact h n (by omega) m (by omega)

theorem byts_pr (a : Pr) : #[.int .u8 (a.y % 256), .int .u8 (a.y / 256 % 256), .int .u8 (a.y / 65536 + 128 * (a.x % 2))] = (byts (prByte a) 3).toArray := rfl

set_option maxHeartbeats 1600000 in
set_option maxRecDepth 100000 in
theorem pairBytes_any (a : Pr) (x0 : 0 ≤ a.x) (y0 : 0 ≤ a.y) (y1 : a.y ≤ 1048576) (w : World) : Calls Tryd.prog 67 #[.agg #[.int .i64 a.x, .int .i64 a.y]] w fun e w' => GivesB w 3 (prByte a) e w' := by
  have HH := hide (fun w => highBytes_any a.y w y0 (by omega))
  have HP := hide (parityPr a x0)
  have HG : Hid (∀ e w', GivesB w 3 (prByte a) e w' → GivesB w 3 (prByte a) e w') := fun _ _ h => h
  have HE := hide (byts_pr a)
  obtain ⟨q, hq⟩ : ∃ q, a.x % 2 = q := ⟨_, rfl⟩
  have q0 : 0 ≤ q := by omega
  have q1 : q ≤ 1 := by omega
  have hor := or_high (x := a.y / 65536) (by omega) (by omega) q0 q1
  rw [hq] at HP HE
  have w1' : IntKind.u8.wrap (q * 128) = q * 128 := by simp [IntKind.wrap_u8]; omega
  have w2' : IntKind.i64.wrap (q * 128) = q * 128 := by rw [IntKind.wrap_i64]; omega
  have w3' : wrap64 (q * 128) = q * 128 := by unfold wrap64; omega
  obtain ⟨h0, hh0⟩ : ∃ h, a.y / 65536 = h := ⟨_, rfl⟩
  obtain ⟨h1, hh1⟩ : ∃ h, a.y / 256 % 256 = h := ⟨_, rfl⟩
  obtain ⟨h2, hh2⟩ : ∃ h, a.y % 256 = h := ⟨_, rfl⟩
  rw [hh0] at hor
  rw [hh0, hh1, hh2] at HH HE
  obtain ⟨Z, hZ⟩ : ∃ Z, h0 + 128 * q = Z := ⟨_, rfl⟩
  rw [hZ] at hor HE
  clear hq hh0 hh1 hh2 hZ x0 y0 y1
  go_enter Tryd.func67, Tryd.ntmps67
  go_wp2_with fail
  refine (HH.out _).mono ?_
  rintro e w1 ⟨rfl, hw1⟩
  obtain ⟨B1, hE, hz⟩ := box1 w [.int .i64 a.x, .int .i64 a.y] 39 hw1
  clear hw1 HH
  go_wp2
  obtain ⟨V, hV⟩ : ∃ V, w1.alloc (.cells #[.int .u8 h0, .int .u8 h1, .int .u8 h2] 122) = V := ⟨_, rfl⟩
  obtain ⟨B2, hE2, hz2⟩ := box1 w1 [.int .u8 h0, .int .u8 h1, .int .u8 h2] 122 (hV ▸ Ext.refl _ : Ext (w1.alloc (.cells #[.int .u8 h0, .int .u8 h1, .int .u8 h2] 122)) V)
  simp only [hV]
  replace B1 := B1.ext hE2 (by omega)
  replace hE := hE.trans hE2
  clear hV hE2
  generalize w1.heap.size = S at *
  obtain ⟨X, hX⟩ : ∃ X : Nat → Prop, X = fun _ => False := ⟨_, rfl⟩
  have x0 : ∀ k, k < V.heap.size → ¬ X k := fun k h => by rw [hX]; exact fun e => e
  clear hX
  have k0 := cell_reC (B1 0 _ rfl).1 (x0 _ (by first | omega | (simp only; omega)))
  have k1 := cell_reC (B1 1 _ rfl).1 (x0 _ (by first | omega | (simp only; omega)))
  have c0 := cell_reC (B2 0 _ rfl).1 (x0 _ (by first | omega | (simp only; omega)))
  have c1 := cell_reC (B2 1 _ rfl).1 (x0 _ (by first | omega | (simp only; omega)))
  have c2 := cell_reC (B2 2 _ rfl).1 (x0 _ (by first | omega | (simp only; omega)))
  refine anyK_begin X 13 rfl (by kernel_rfl) ?_
  refine anyK_take 0 11 2 rfl (by decide) (by kernel_rfl) (fun _ _ d _ _ h => by cases d <;> exact h) ?_
  repeat (refine headC_step (fun K hK => ?_); go_simp; first | (refine hK _ ?_; clear hK K) | (apply Exists.intro; refine ⟨fun _ => ?_, hK _ ?_⟩; (exact Calls.re_of (HP.out _)); clear hK K))
  refine headC_nil ?_
  clear k0 k1 c0 c1 c2 hor w1' w2' w3'
  refine anyK_one 11 (by kernel_rfl) ?_
  refine stepK_run rfl ?_
  intro w2 h2' K hK
  go_simp
  refine hK _ _ (.of_ext (h2'.trans (Ext.alloc _ _))) ?_
  clear hK K
  refine anyK_take 12 1 0 rfl (by decide) (by kernel_rfl) (fun _ _ d _ _ h => by cases d <;> exact h) ?_
  repeat (refine headC_step (fun K hK => ?_); go_simp; first | (refine hK _ ?_; clear hK K) | (apply Exists.intro; refine ⟨fun _ => ?_, hK _ ?_⟩; (fail); clear hK K))
  refine headC_nil ?_
  refine anyK_done (by kernel_rfl) ?_ 0
  intro w3 h3
  go_wp2
  go_ret
  exact HG.out _ _ (GivesB.of (hE.trans h2') HE.out h3)

set_option linter.unusedSimpArgs false

theorem ext_reC {X : Nat → Prop} {w V : World} (hE : Ext w V) (h : ∀ k, k < w.heap.size → ¬ X k) (p : ReC X V) : Ext w p.val :=
  Below.trans (show Below w.heap.size w V from hE) (p.ok.below h (Below.size hE))

theorem GivesB.lift {w W w' : World} {m : Nat} {F : Nat → Int} {e : Ending} (h : Ext w W) (k : GivesB W m F e w') : GivesB w m F e w' := by
  obtain ⟨g, e, hg, hl, hx⟩ := k
  exact ⟨g, e, Nat.le_trans (Below.size h) hg, hl, h.trans hx⟩

theorem GivesB.ex {w w' : World} {m : Nat} {F : Nat → Int} {e : Ending} (k : GivesB w m F e w') : ∃ v, e = .returned v ∧ GivesB w m F (.returned v) w' := by
  obtain ⟨g, rfl, h⟩ := k
  exact ⟨_, rfl, g, rfl, h⟩

set_option maxHeartbeats 1600000 in
set_option maxRecDepth 100000 in
theorem cloEdBytes_yes (P D L bx cy : Int) (c : Pr) (m : Nat) (F : Nat → Int) (C0 C1 : Nat) (w : World) (B0 : Blk w C0 [.int .i64 P, .int .i64 D, .int .i64 L, .int .i64 bx, .int .i64 cy]) (l0 : C0 < w.heap.size) (B1 : Blk w C1 [.int .i64 c.x, .int .i64 c.y]) (l1 : C1 < w.heap.size) (hG : Hid (∀ W : World, Calls Tryd.prog 57 #[.agg #[.int .i64 P, .int .i64 D, .int .i64 L, .int .i64 bx, .int .i64 cy]] W fun e w' => e = .returned (.agg #[.int .i64 0, .int .i64 1, .int .i64 bx, .int .i64 cy, .func (.func 102) #[.agg #[.int .i64 P, .int .i64 D, .int .i64 L, .int .i64 bx, .int .i64 cy]] #[], .func (.func 103) #[.agg #[.int .i64 P, .int .i64 D, .int .i64 L, .int .i64 bx, .int .i64 cy]] #[], .func (.func 104) #[.agg #[.int .i64 P, .int .i64 D, .int .i64 L, .int .i64 bx, .int .i64 cy]] #[], .func (.func 105) #[.agg #[.int .i64 P, .int .i64 D, .int .i64 L, .int .i64 bx, .int .i64 cy]] #[], .func (.func 106) #[] #[]]) ∧ Ext W w')) (hK' : Hid (∀ W : World, Calls Tryd.prog 60 #[.agg #[.int .i64 0, .int .i64 1, .int .i64 bx, .int .i64 cy, .func (.func 102) #[.agg #[.int .i64 P, .int .i64 D, .int .i64 L, .int .i64 bx, .int .i64 cy]] #[], .func (.func 103) #[.agg #[.int .i64 P, .int .i64 D, .int .i64 L, .int .i64 bx, .int .i64 cy]] #[], .func (.func 104) #[.agg #[.int .i64 P, .int .i64 D, .int .i64 L, .int .i64 bx, .int .i64 cy]] #[], .func (.func 105) #[.agg #[.int .i64 P, .int .i64 D, .int .i64 L, .int .i64 bx, .int .i64 cy]] #[], .func (.func 106) #[] #[]], .agg #[.int .i64 c.x, .int .i64 c.y]] W fun e w' => e = .returned (.agg #[.int .i64 c.x, .int .i64 c.y]) ∧ Ext W w')) (hF : Hid (∀ W : World, Calls Tryd.prog 67 #[.agg #[.int .i64 c.x, .int .i64 c.y]] W fun e w' => GivesB W m F e w')) :
    Calls Tryd.prog 66 #[.pointer (some ⟨C0, 0, none⟩), .pointer (some ⟨C1, 0, none⟩)] w fun e w' => GivesB w m F e w' := by
  have HQ : Hid (∀ W e w', Ext w W → GivesB W m F e w' → GivesB w m F e w') := fun W e w' h k => k.lift h
  have HX : Hid (∀ (g : Nat) (w1 w2 : World), GivesB w m F (.returned (.slice (some ⟨g, 0, none⟩) m m)) w1 → Ext w1 w2 → GivesB w m F (.returned (.slice (some ⟨g, 0, none⟩) m m)) w2) := fun g w1 w2 h k => by
    obtain ⟨g', e, hg, hl, hx⟩ := h
    exact ⟨g', e, hg, hl.ext k, hx.trans k⟩
  go_enter Tryd.func66, Tryd.ntmps66
  go_wp2
  obtain ⟨X, hX⟩ : ∃ X : Nat → Prop, X = fun _ => False := ⟨_, rfl⟩
  have x0 : ∀ k, k < w.heap.size → ¬ X k := fun k h => by rw [hX]; exact fun e => e
  clear hX
  have c0 := cell_reC (B0 0 _ rfl).1 (x0 _ (by first | omega | (simp only; omega)))
  have c1 := cell_reC (B0 1 _ rfl).1 (x0 _ (by first | omega | (simp only; omega)))
  have c2 := cell_reC (B0 2 _ rfl).1 (x0 _ (by first | omega | (simp only; omega)))
  have c3 := cell_reC (B0 3 _ rfl).1 (x0 _ (by first | omega | (simp only; omega)))
  have c4 := cell_reC (B0 4 _ rfl).1 (x0 _ (by first | omega | (simp only; omega)))
  have d0 := cell_reC (B1 0 _ rfl).1 (x0 _ (by first | omega | (simp only; omega)))
  have d1 := cell_reC (B1 1 _ rfl).1 (x0 _ (by first | omega | (simp only; omega)))
  refine anyK_begin X 6 rfl (by kernel_rfl) ?_
  refine anyK_take 0 4 2 rfl (by decide) (by kernel_rfl) (fun _ _ d _ _ h => by cases d <;> exact h) ?_
  repeat (refine headC_step (fun K hK => ?_); go_simp; first | (refine hK _ ?_; clear hK K) | (apply Exists.intro; refine ⟨fun _ => ?_, hK _ ?_⟩; (first | (go_at_call 57; exact Calls.re_of (hG.out _)) | (go_at_call 60; exact Calls.re_of (hK'.out _))); clear hK K))
  refine headC_nil ?_
  clear c0 c1 c2 c3 c4 d0 d1
  refine anyK_one 4 (by kernel_rfl) ?_
  refine stepK_run rfl ?_
  intro w2 h2 K hK
  go_simp
  refine (hF.out _).mono ?_
  rintro e w3 h3
  replace h3 := HQ.out _ _ _ h2 h3
  obtain ⟨g, rfl, hg⟩ := h3
  have hx3 := hg.2.2
  have H3 : Hid (GivesB w m F (.returned (.slice (some ⟨g, 0, none⟩) m m)) w3) := ⟨g, rfl, hg⟩
  clear hg
  go_simp
  refine hK _ _ (.of_ext hx3) ?_
  clear hK K h2
  refine anyK_take 5 1 0 rfl (by decide) (by kernel_rfl) (fun _ _ d _ _ h => by cases d <;> exact h) ?_
  repeat (refine headC_step (fun K hK => ?_); go_simp; first | (refine hK _ ?_; clear hK K) | (apply Exists.intro; refine ⟨fun _ => ?_, hK _ ?_⟩; (fail); clear hK K))
  refine headC_nil ?_
  refine anyK_done (by kernel_rfl) ?_ 0
  intro w4 h4
  go_wp2
  go_ret
  exact HX.out _ _ _ H3.out h4

set_option maxHeartbeats 1600000 in
set_option maxRecDepth 100000 in
theorem cloEdBytes_noG (P D L bx cy : Int) (c : Pr) (C0 C1 : Nat) (w : World) (B0 : Blk w C0 [.int .i64 P, .int .i64 D, .int .i64 L, .int .i64 bx, .int .i64 cy]) (l0 : C0 < w.heap.size) (B1 : Blk w C1 [.int .i64 c.x, .int .i64 c.y]) (l1 : C1 < w.heap.size) (hG : Hid (∀ W : World, Calls Tryd.prog 57 #[.agg #[.int .i64 P, .int .i64 D, .int .i64 L, .int .i64 bx, .int .i64 cy]] W fun e w' => e = .panicked [nrE] ∧ Ext W w')) :
    Calls Tryd.prog 66 #[.pointer (some ⟨C0, 0, none⟩), .pointer (some ⟨C1, 0, none⟩)] w fun e w' => e = .panicked [nrE] ∧ Ext w w' := by
  go_enter Tryd.func66, Tryd.ntmps66
  go_wp2
  obtain ⟨X, hX⟩ : ∃ X : Nat → Prop, X = fun _ => False := ⟨_, rfl⟩
  have x0 : ∀ k, k < w.heap.size → ¬ X k := fun k h => by rw [hX]; exact fun e => e
  clear hX
  have c0 := cell_reC (B0 0 _ rfl).1 (x0 _ (by first | omega | (simp only; omega)))
  have c1 := cell_reC (B0 1 _ rfl).1 (x0 _ (by first | omega | (simp only; omega)))
  have c2 := cell_reC (B0 2 _ rfl).1 (x0 _ (by first | omega | (simp only; omega)))
  have c3 := cell_reC (B0 3 _ rfl).1 (x0 _ (by first | omega | (simp only; omega)))
  have c4 := cell_reC (B0 4 _ rfl).1 (x0 _ (by first | omega | (simp only; omega)))
  have d0 := cell_reC (B1 0 _ rfl).1 (x0 _ (by first | omega | (simp only; omega)))
  have d1 := cell_reC (B1 1 _ rfl).1 (x0 _ (by first | omega | (simp only; omega)))
  refine anyK_begin X 6 rfl (by kernel_rfl) ?_
  refine anyK_take 0 1 5 rfl (by decide) (by kernel_rfl) (fun _ _ d _ _ h => by cases d <;> exact h) ?_
  repeat (refine headC_step (fun K hK => ?_); go_simp; first | (refine hK _ ?_; clear hK K) | (apply Exists.intro; refine ⟨fun _ => ?_, hK _ ?_⟩; (fail); clear hK K))
  refine headC_nil ?_
  refine anyK_take 2 1 4 rfl (by decide) (by kernel_rfl) (fun _ _ d _ _ h => by cases d <;> exact h) ?_
  repeat (refine headC_step (fun K hK => ?_); go_simp; first | (refine hK _ ?_; clear hK K) | (apply Exists.intro; refine ⟨fun _ => ?_, hK _ ?_⟩; (fail); clear hK K))
  refine headC_nil ?_
  clear c0 c1 c2 c3 c4 d0 d1
  refine anyK_one 1 (by kernel_rfl) ?_
  refine stepK_run rfl ?_
  intro w2 h2 K hK
  go_simp
  refine (hG.out _).mono ?_
  rintro e w3 ⟨rfl, h3⟩
  exact ⟨rfl, rfl, h2.trans h3⟩

set_option maxHeartbeats 1600000 in
set_option maxRecDepth 100000 in
theorem cloEdBytes_noK (P D L bx cy : Int) (c : Pr) (C0 C1 : Nat) (w : World) (B0 : Blk w C0 [.int .i64 P, .int .i64 D, .int .i64 L, .int .i64 bx, .int .i64 cy]) (l0 : C0 < w.heap.size) (B1 : Blk w C1 [.int .i64 c.x, .int .i64 c.y]) (l1 : C1 < w.heap.size) (hG : Hid (∀ W : World, Calls Tryd.prog 57 #[.agg #[.int .i64 P, .int .i64 D, .int .i64 L, .int .i64 bx, .int .i64 cy]] W fun e w' => e = .returned (.agg #[.int .i64 0, .int .i64 1, .int .i64 bx, .int .i64 cy, .func (.func 102) #[.agg #[.int .i64 P, .int .i64 D, .int .i64 L, .int .i64 bx, .int .i64 cy]] #[], .func (.func 103) #[.agg #[.int .i64 P, .int .i64 D, .int .i64 L, .int .i64 bx, .int .i64 cy]] #[], .func (.func 104) #[.agg #[.int .i64 P, .int .i64 D, .int .i64 L, .int .i64 bx, .int .i64 cy]] #[], .func (.func 105) #[.agg #[.int .i64 P, .int .i64 D, .int .i64 L, .int .i64 bx, .int .i64 cy]] #[], .func (.func 106) #[] #[]]) ∧ Ext W w')) (hK' : Hid (∀ W : World, Calls Tryd.prog 60 #[.agg #[.int .i64 0, .int .i64 1, .int .i64 bx, .int .i64 cy, .func (.func 102) #[.agg #[.int .i64 P, .int .i64 D, .int .i64 L, .int .i64 bx, .int .i64 cy]] #[], .func (.func 103) #[.agg #[.int .i64 P, .int .i64 D, .int .i64 L, .int .i64 bx, .int .i64 cy]] #[], .func (.func 104) #[.agg #[.int .i64 P, .int .i64 D, .int .i64 L, .int .i64 bx, .int .i64 cy]] #[], .func (.func 105) #[.agg #[.int .i64 P, .int .i64 D, .int .i64 L, .int .i64 bx, .int .i64 cy]] #[], .func (.func 106) #[] #[]], .agg #[.int .i64 c.x, .int .i64 c.y]] W fun e w' => e = .panicked [nrE] ∧ Ext W w')) :
    Calls Tryd.prog 66 #[.pointer (some ⟨C0, 0, none⟩), .pointer (some ⟨C1, 0, none⟩)] w fun e w' => e = .panicked [nrE] ∧ Ext w w' := by
  go_enter Tryd.func66, Tryd.ntmps66
  go_wp2
  obtain ⟨X, hX⟩ : ∃ X : Nat → Prop, X = fun _ => False := ⟨_, rfl⟩
  have x0 : ∀ k, k < w.heap.size → ¬ X k := fun k h => by rw [hX]; exact fun e => e
  clear hX
  have c0 := cell_reC (B0 0 _ rfl).1 (x0 _ (by first | omega | (simp only; omega)))
  have c1 := cell_reC (B0 1 _ rfl).1 (x0 _ (by first | omega | (simp only; omega)))
  have c2 := cell_reC (B0 2 _ rfl).1 (x0 _ (by first | omega | (simp only; omega)))
  have c3 := cell_reC (B0 3 _ rfl).1 (x0 _ (by first | omega | (simp only; omega)))
  have c4 := cell_reC (B0 4 _ rfl).1 (x0 _ (by first | omega | (simp only; omega)))
  have d0 := cell_reC (B1 0 _ rfl).1 (x0 _ (by first | omega | (simp only; omega)))
  have d1 := cell_reC (B1 1 _ rfl).1 (x0 _ (by first | omega | (simp only; omega)))
  refine anyK_begin X 6 rfl (by kernel_rfl) ?_
  refine anyK_take 0 3 3 rfl (by decide) (by kernel_rfl) (fun _ _ d _ _ h => by cases d <;> exact h) ?_
  repeat (refine headC_step (fun K hK => ?_); go_simp; first | (refine hK _ ?_; clear hK K) | (apply Exists.intro; refine ⟨fun _ => ?_, hK _ ?_⟩; ((go_at_call 57; exact Calls.re_of (hG.out _))); clear hK K))
  refine headC_nil ?_
  clear c0 c1 c2 c3 c4 d0 d1
  refine anyK_one 3 (by kernel_rfl) ?_
  refine stepK_run rfl ?_
  intro w2 h2 K hK
  go_simp
  refine (hK'.out _).mono ?_
  rintro e w3 ⟨rfl, h3⟩
  exact ⟨rfl, rfl, h2.trans h3⟩

set_option maxHeartbeats 1600000 in
set_option maxRecDepth 100000 in
theorem expEdBytes_yes (P D L bx cy : Int) (c : Pr) (m : Nat) (F : Nat → Int) (hm : m ≤ maxLen) (hC : Hid (∀ (C0 C1 : Nat) (w : World), Blk w C0 [.int .i64 P, .int .i64 D, .int .i64 L, .int .i64 bx, .int .i64 cy] → C0 < w.heap.size → Blk w C1 [.int .i64 c.x, .int .i64 c.y] → C1 < w.heap.size → Calls Tryd.prog 66 #[.pointer (some ⟨C0, 0, none⟩), .pointer (some ⟨C1, 0, none⟩)] w fun e w' => GivesB w m F e w')) (w : World) :
    Calls Tryd.prog 21 #[.agg #[.int .i64 P, .int .i64 D, .int .i64 L, .int .i64 bx, .int .i64 cy], .agg #[.int .i64 c.x, .int .i64 c.y]] w fun e w' => GivesBs w m F true e w' := by
  have hmf : ∀ (fn : Fn) (first cap : Array Value) (w : World), (Instr.makeFunc fn first cap).run Tryd.prog w = .ok (.func fn first cap) w := fun _ _ _ _ => rfl
  have HR : Hid (∀ v w', GivesB w m F (.returned v) w' → GivesBs w m F true (.returned (.tuple #[v, .bool true])) w') := fun v w' h => h.yes hm
  go_enter Tryd.func21, Tryd.ntmps21
  go_wp2_with fail
  refine (answB_yes 66 #[.pointer (some ⟨w.heap.size, 0, none⟩), .pointer (some ⟨w.heap.size + 1, 0, none⟩)] (fun _ _ => rfl) (fun v w' => GivesB w m F (.returned v) w') _ ?_).mono ?_
  · obtain ⟨B0, B1, hE, hz⟩ := box2 w [.int .i64 P, .int .i64 D, .int .i64 L, .int .i64 bx, .int .i64 cy] [.int .i64 c.x, .int .i64 c.y] 37 39 (Ext.refl ((w.alloc (.cells #[.int .i64 P, .int .i64 D, .int .i64 L, .int .i64 bx, .int .i64 cy] 37)).alloc (.cells #[.int .i64 c.x, .int .i64 c.y] 39)))
    exact (hC.out _ _ _ B0 (by omega) B1 (by omega)).mono fun e w' h => (h.lift hE).ex
  rintro e w1 ⟨v, rfl, hR⟩
  replace hR := hide (HR.out _ _ hR)
  clear hC HR
  go_wp2
  go_ret2
  exact hR.out

set_option maxHeartbeats 1600000 in
set_option maxRecDepth 100000 in
theorem expEdBytes_no (P D L bx cy : Int) (c : Pr) (F : Nat → Int) (hC : Hid (∀ (C0 C1 : Nat) (w : World), Blk w C0 [.int .i64 P, .int .i64 D, .int .i64 L, .int .i64 bx, .int .i64 cy] → C0 < w.heap.size → Blk w C1 [.int .i64 c.x, .int .i64 c.y] → C1 < w.heap.size → Calls Tryd.prog 66 #[.pointer (some ⟨C0, 0, none⟩), .pointer (some ⟨C1, 0, none⟩)] w fun e w' => e = .panicked [nrE] ∧ Ext w w')) (w : World) :
    Calls Tryd.prog 21 #[.agg #[.int .i64 P, .int .i64 D, .int .i64 L, .int .i64 bx, .int .i64 cy], .agg #[.int .i64 c.x, .int .i64 c.y]] w fun e w' => GivesBs w 0 F false e w' := by
  have hmf : ∀ (fn : Fn) (first cap : Array Value) (w : World), (Instr.makeFunc fn first cap).run Tryd.prog w = .ok (.func fn first cap) w := fun _ _ _ _ => rfl
  have HR : Hid (∀ w', Ext w w' → GivesBs w 0 F false (.returned (.tuple #[.slice none 0 0, .bool false])) w') := fun w' h => givesBs_none F h
  go_enter Tryd.func21, Tryd.ntmps21
  go_wp2_with fail
  refine (answB_no 66 #[.pointer (some ⟨w.heap.size, 0, none⟩), .pointer (some ⟨w.heap.size + 1, 0, none⟩)] (fun _ _ => rfl) _ ?_).mono ?_
  · obtain ⟨B0, B1, hE, hz⟩ := box2 w [.int .i64 P, .int .i64 D, .int .i64 L, .int .i64 bx, .int .i64 cy] [.int .i64 c.x, .int .i64 c.y] 37 39 (Ext.refl ((w.alloc (.cells #[.int .i64 P, .int .i64 D, .int .i64 L, .int .i64 bx, .int .i64 cy] 37)).alloc (.cells #[.int .i64 c.x, .int .i64 c.y] 39)))
    exact hC.out _ _ _ B0 (by omega) B1 (by omega)
  rintro e w1 ⟨rfl, hR⟩
  obtain ⟨B0, B1, hE, hz⟩ := box2 w [.int .i64 P, .int .i64 D, .int .i64 L, .int .i64 bx, .int .i64 cy] [.int .i64 c.x, .int .i64 c.y] 37 39 hR
  replace hR := hide (HR.out _ hE)
  clear hC HR
  go_wp2
  go_ret2
  exact hR.out

set_option maxHeartbeats 1600000 in
set_option maxRecDepth 100000 in
theorem cloEdRead_yes (P D L bx cy : Int) (a : Option Addr) (n cap : Nat) (r : Pr) (C0 C1 : Nat) (w : World) (B0 : Blk w C0 [.int .i64 P, .int .i64 D, .int .i64 L, .int .i64 bx, .int .i64 cy]) (l0 : C0 < w.heap.size) (B1 : Blk w C1 [.slice a n cap]) (l1 : C1 < w.heap.size) (hG : Hid (∀ W : World, Calls Tryd.prog 57 #[.agg #[.int .i64 P, .int .i64 D, .int .i64 L, .int .i64 bx, .int .i64 cy]] W fun e w' => e = .returned (.agg #[.int .i64 0, .int .i64 1, .int .i64 bx, .int .i64 cy, .func (.func 102) #[.agg #[.int .i64 P, .int .i64 D, .int .i64 L, .int .i64 bx, .int .i64 cy]] #[], .func (.func 103) #[.agg #[.int .i64 P, .int .i64 D, .int .i64 L, .int .i64 bx, .int .i64 cy]] #[], .func (.func 104) #[.agg #[.int .i64 P, .int .i64 D, .int .i64 L, .int .i64 bx, .int .i64 cy]] #[], .func (.func 105) #[.agg #[.int .i64 P, .int .i64 D, .int .i64 L, .int .i64 bx, .int .i64 cy]] #[], .func (.func 106) #[] #[]]) ∧ Ext W w')) (hF : Hid (∀ W : World, Ext w W → Calls Tryd.prog 69 #[.agg #[.int .i64 0, .int .i64 1, .int .i64 bx, .int .i64 cy, .func (.func 102) #[.agg #[.int .i64 P, .int .i64 D, .int .i64 L, .int .i64 bx, .int .i64 cy]] #[], .func (.func 103) #[.agg #[.int .i64 P, .int .i64 D, .int .i64 L, .int .i64 bx, .int .i64 cy]] #[], .func (.func 104) #[.agg #[.int .i64 P, .int .i64 D, .int .i64 L, .int .i64 bx, .int .i64 cy]] #[], .func (.func 105) #[.agg #[.int .i64 P, .int .i64 D, .int .i64 L, .int .i64 bx, .int .i64 cy]] #[], .func (.func 106) #[] #[]], .slice a n cap] W fun e w' => e = .returned (.agg #[.int .i64 r.x, .int .i64 r.y]) ∧ Ext W w')) :
    Calls Tryd.prog 68 #[.pointer (some ⟨C0, 0, none⟩), .pointer (some ⟨C1, 0, none⟩)] w fun e w' => e = .returned (.agg #[.int .i64 r.x, .int .i64 r.y]) ∧ Ext w w' := by
  go_enter Tryd.func68, Tryd.ntmps68
  go_wp2
  obtain ⟨V, hV⟩ : ∃ V, w.alloc (.cells #[.int .i64 0, .int .i64 0] 39) = V := ⟨_, rfl⟩
  have hE : Ext w V := hV ▸ Ext.alloc _ _
  obtain ⟨BR, -, hz⟩ := box1 w [.int .i64 0, .int .i64 0] 39 (hV ▸ Ext.refl _ : Ext (w.alloc (.cells #[.int .i64 0, .int .i64 0] 39)) V)
  simp only [hV]
  clear hV
  obtain ⟨X, hX⟩ : ∃ X : Nat → Prop, X = fun k => w.heap.size ≤ k := ⟨_, rfl⟩
  have x0 : ∀ k, k < w.heap.size → ¬ X k := fun k h => by rw [hX]; simp; omega
  have xC : X w.heap.size := by rw [hX]; exact Nat.le_refl _
  clear hX
  have D0 := B0.ext hE l0
  have D1 := B1.ext hE l1
  have c0 := cell_reC (D0 0 _ rfl).1 (x0 _ (by first | omega | (simp only; omega)))
  have c1 := cell_reC (D0 1 _ rfl).1 (x0 _ (by first | omega | (simp only; omega)))
  have c2 := cell_reC (D0 2 _ rfl).1 (x0 _ (by first | omega | (simp only; omega)))
  have c3 := cell_reC (D0 3 _ rfl).1 (x0 _ (by first | omega | (simp only; omega)))
  have c4 := cell_reC (D0 4 _ rfl).1 (x0 _ (by first | omega | (simp only; omega)))
  have d0 := cell_reC (D1 0 _ rfl).1 (x0 _ (by first | omega | (simp only; omega)))
  refine anyK_begin X 5 rfl (by kernel_rfl) ?_
  refine anyK_take 0 4 1 rfl (by decide) (by kernel_rfl) (fun _ _ d _ _ h => by cases d <;> exact h) ?_
  repeat (refine headC_step (fun K hK => ?_); go_simp; first | (refine hK _ ?_; clear hK K) | (apply Exists.intro; refine ⟨fun _ => ?_, hK _ ?_⟩; (first | (go_at_call 57; exact Calls.re_of (hG.out _)) | (go_at_call 69; exact Calls.re_of (hF.out _ (ext_reC hE x0 _)))); clear hK K))
  refine headC_nil ?_
  clear c0 c1 c2 c3 c4 d0
  refine anyK_one 4 (by kernel_rfl) ?_
  refine stepK_run rfl ?_
  intro w2 h2 K hK
  have BZ := BR.ext h2 (by omega)
  have d0 := (BZ 0 _ rfl).1
  have d1 := (BZ 1 _ rfl).1
  have z0 := (BZ 0 _ rfl).2
  have z1 := (BZ 1 _ rfl).2
  go_simp
  refine hK _ _ (show Grw X V (putL (w.heap.size) 0 [.int .i64 r.x, .int .i64 r.y] w2) from Grw.putL xC _ _ _ (.of_ext h2)) ?_
  clear hK K d0 d1 z0 z1
  refine anyK_done (by kernel_rfl) ?_ 0
  intro w3 h3
  replace h3 : Ext (putL (w.heap.size) 0 [.int .i64 r.x, .int .i64 r.y] w2) w3 := h3
  have BW := (BZ.put [.int .i64 r.x, .int .i64 r.y] rfl).ext h3 (by rw [size_putL]; have := Below.size h2; omega)
  have hX : Ext w w3 := ((hE.trans h2).putL (by omega) [.int .i64 r.x, .int .i64 r.y]).trans h3
  clear h2 h3 BZ
  have q0 := (BW 0 _ rfl).1
  have q1 := (BW 1 _ rfl).1
  go_wp2
  refine bodyPost_ret (v := .agg #[.int .i64 r.x, .int .i64 r.y]) (by simp [results, Tryd.results68, go_sem, q0, q1]) rfl ⟨rfl, hX⟩

set_option maxHeartbeats 1600000 in
set_option maxRecDepth 100000 in
theorem cloEdRead_noG (P D L bx cy : Int) (a : Option Addr) (n cap : Nat) (C0 C1 : Nat) (w : World) (B0 : Blk w C0 [.int .i64 P, .int .i64 D, .int .i64 L, .int .i64 bx, .int .i64 cy]) (l0 : C0 < w.heap.size) (B1 : Blk w C1 [.slice a n cap]) (l1 : C1 < w.heap.size) (hG : Hid (∀ W : World, Calls Tryd.prog 57 #[.agg #[.int .i64 P, .int .i64 D, .int .i64 L, .int .i64 bx, .int .i64 cy]] W fun e w' => e = .panicked [nrE] ∧ Ext W w')) :
    Calls Tryd.prog 68 #[.pointer (some ⟨C0, 0, none⟩), .pointer (some ⟨C1, 0, none⟩)] w fun e w' => e = .panicked [nrE] ∧ Ext w w' := by
  go_enter Tryd.func68, Tryd.ntmps68
  go_wp2
  obtain ⟨V, hV⟩ : ∃ V, w.alloc (.cells #[.int .i64 0, .int .i64 0] 39) = V := ⟨_, rfl⟩
  have hE : Ext w V := hV ▸ Ext.alloc _ _
  obtain ⟨BR, -, hz⟩ := box1 w [.int .i64 0, .int .i64 0] 39 (hV ▸ Ext.refl _ : Ext (w.alloc (.cells #[.int .i64 0, .int .i64 0] 39)) V)
  simp only [hV]
  clear hV
  obtain ⟨X, hX⟩ : ∃ X : Nat → Prop, X = fun k => w.heap.size ≤ k := ⟨_, rfl⟩
  have x0 : ∀ k, k < w.heap.size → ¬ X k := fun k h => by rw [hX]; simp; omega
  have xC : X w.heap.size := by rw [hX]; exact Nat.le_refl _
  clear hX
  have D0 := B0.ext hE l0
  have D1 := B1.ext hE l1
  have c0 := cell_reC (D0 0 _ rfl).1 (x0 _ (by first | omega | (simp only; omega)))
  have c1 := cell_reC (D0 1 _ rfl).1 (x0 _ (by first | omega | (simp only; omega)))
  have c2 := cell_reC (D0 2 _ rfl).1 (x0 _ (by first | omega | (simp only; omega)))
  have c3 := cell_reC (D0 3 _ rfl).1 (x0 _ (by first | omega | (simp only; omega)))
  have c4 := cell_reC (D0 4 _ rfl).1 (x0 _ (by first | omega | (simp only; omega)))
  have d0 := cell_reC (D1 0 _ rfl).1 (x0 _ (by first | omega | (simp only; omega)))
  refine anyK_begin X 5 rfl (by kernel_rfl) ?_
  refine anyK_take 0 1 4 rfl (by decide) (by kernel_rfl) (fun _ _ d _ _ h => by cases d <;> exact h) ?_
  repeat (refine headC_step (fun K hK => ?_); go_simp; first | (refine hK _ ?_; clear hK K) | (apply Exists.intro; refine ⟨fun _ => ?_, hK _ ?_⟩; (fail); clear hK K))
  refine headC_nil ?_
  refine anyK_take 2 1 3 rfl (by decide) (by kernel_rfl) (fun _ _ d _ _ h => by cases d <;> exact h) ?_
  repeat (refine headC_step (fun K hK => ?_); go_simp; first | (refine hK _ ?_; clear hK K) | (apply Exists.intro; refine ⟨fun _ => ?_, hK _ ?_⟩; (fail); clear hK K))
  refine headC_nil ?_
  clear c0 c1 c2 c3 c4 d0
  refine anyK_one 1 (by kernel_rfl) ?_
  refine stepK_run rfl ?_
  intro w2 h2 K hK
  go_simp
  refine (hG.out _).mono ?_
  rintro e w3 ⟨rfl, h3⟩
  exact ⟨rfl, rfl, (hE.trans h2).trans h3⟩

set_option maxHeartbeats 1600000 in
set_option maxRecDepth 100000 in
theorem cloEdRead_noF (P D L bx cy : Int) (a : Option Addr) (n cap : Nat) (C0 C1 : Nat) (w : World) (B0 : Blk w C0 [.int .i64 P, .int .i64 D, .int .i64 L, .int .i64 bx, .int .i64 cy]) (l0 : C0 < w.heap.size) (B1 : Blk w C1 [.slice a n cap]) (l1 : C1 < w.heap.size) (hG : Hid (∀ W : World, Calls Tryd.prog 57 #[.agg #[.int .i64 P, .int .i64 D, .int .i64 L, .int .i64 bx, .int .i64 cy]] W fun e w' => e = .returned (.agg #[.int .i64 0, .int .i64 1, .int .i64 bx, .int .i64 cy, .func (.func 102) #[.agg #[.int .i64 P, .int .i64 D, .int .i64 L, .int .i64 bx, .int .i64 cy]] #[], .func (.func 103) #[.agg #[.int .i64 P, .int .i64 D, .int .i64 L, .int .i64 bx, .int .i64 cy]] #[], .func (.func 104) #[.agg #[.int .i64 P, .int .i64 D, .int .i64 L, .int .i64 bx, .int .i64 cy]] #[], .func (.func 105) #[.agg #[.int .i64 P, .int .i64 D, .int .i64 L, .int .i64 bx, .int .i64 cy]] #[], .func (.func 106) #[] #[]]) ∧ Ext W w')) (hF : Hid (∀ W : World, Ext w W → Calls Tryd.prog 69 #[.agg #[.int .i64 0, .int .i64 1, .int .i64 bx, .int .i64 cy, .func (.func 102) #[.agg #[.int .i64 P, .int .i64 D, .int .i64 L, .int .i64 bx, .int .i64 cy]] #[], .func (.func 103) #[.agg #[.int .i64 P, .int .i64 D, .int .i64 L, .int .i64 bx, .int .i64 cy]] #[], .func (.func 104) #[.agg #[.int .i64 P, .int .i64 D, .int .i64 L, .int .i64 bx, .int .i64 cy]] #[], .func (.func 105) #[.agg #[.int .i64 P, .int .i64 D, .int .i64 L, .int .i64 bx, .int .i64 cy]] #[], .func (.func 106) #[] #[]], .slice a n cap] W fun e w' => e = .panicked [nrE] ∧ Ext W w')) :
    Calls Tryd.prog 68 #[.pointer (some ⟨C0, 0, none⟩), .pointer (some ⟨C1, 0, none⟩)] w fun e w' => e = .panicked [nrE] ∧ Ext w w' := by
  go_enter Tryd.func68, Tryd.ntmps68
  go_wp2
  obtain ⟨V, hV⟩ : ∃ V, w.alloc (.cells #[.int .i64 0, .int .i64 0] 39) = V := ⟨_, rfl⟩
  have hE : Ext w V := hV ▸ Ext.alloc _ _
  obtain ⟨BR, -, hz⟩ := box1 w [.int .i64 0, .int .i64 0] 39 (hV ▸ Ext.refl _ : Ext (w.alloc (.cells #[.int .i64 0, .int .i64 0] 39)) V)
  simp only [hV]
  clear hV
  obtain ⟨X, hX⟩ : ∃ X : Nat → Prop, X = fun k => w.heap.size ≤ k := ⟨_, rfl⟩
  have x0 : ∀ k, k < w.heap.size → ¬ X k := fun k h => by rw [hX]; simp; omega
  have xC : X w.heap.size := by rw [hX]; exact Nat.le_refl _
  clear hX
  have D0 := B0.ext hE l0
  have D1 := B1.ext hE l1
  have c0 := cell_reC (D0 0 _ rfl).1 (x0 _ (by first | omega | (simp only; omega)))
  have c1 := cell_reC (D0 1 _ rfl).1 (x0 _ (by first | omega | (simp only; omega)))
  have c2 := cell_reC (D0 2 _ rfl).1 (x0 _ (by first | omega | (simp only; omega)))
  have c3 := cell_reC (D0 3 _ rfl).1 (x0 _ (by first | omega | (simp only; omega)))
  have c4 := cell_reC (D0 4 _ rfl).1 (x0 _ (by first | omega | (simp only; omega)))
  have d0 := cell_reC (D1 0 _ rfl).1 (x0 _ (by first | omega | (simp only; omega)))
  refine anyK_begin X 5 rfl (by kernel_rfl) ?_
  refine anyK_take 0 3 2 rfl (by decide) (by kernel_rfl) (fun _ _ d _ _ h => by cases d <;> exact h) ?_
  repeat (refine headC_step (fun K hK => ?_); go_simp; first | (refine hK _ ?_; clear hK K) | (apply Exists.intro; refine ⟨fun _ => ?_, hK _ ?_⟩; ((go_at_call 57; exact Calls.re_of (hG.out _))); clear hK K))
  refine headC_nil ?_
  clear c0 c1 c2 c3 c4 d0
  refine anyK_one 3 (by kernel_rfl) ?_
  refine stepK_run rfl ?_
  intro w2 h2 K hK
  go_simp
  refine (hF.out _ (hE.trans h2)).mono ?_
  rintro e w3 ⟨rfl, h3⟩
  exact ⟨rfl, rfl, (hE.trans h2).trans h3⟩

set_option maxHeartbeats 1600000 in
set_option maxRecDepth 100000 in
theorem expEdRead_yes (P D L bx cy : Int) (a : Option Addr) (n cap : Nat) (r : Pr) (w : World) (hC : Hid (∀ (C0 C1 : Nat) (W : World), Ext w W → Blk W C0 [.int .i64 P, .int .i64 D, .int .i64 L, .int .i64 bx, .int .i64 cy] → C0 < W.heap.size → Blk W C1 [.slice a n cap] → C1 < W.heap.size → Calls Tryd.prog 68 #[.pointer (some ⟨C0, 0, none⟩), .pointer (some ⟨C1, 0, none⟩)] W fun e w' => e = .returned (.agg #[.int .i64 r.x, .int .i64 r.y]) ∧ Ext W w')) :
    Calls Tryd.prog 22 #[.agg #[.int .i64 P, .int .i64 D, .int .i64 L, .int .i64 bx, .int .i64 cy], .slice a n cap] w fun e w' => e = .returned (.tuple #[.agg #[.int .i64 r.x, .int .i64 r.y], .bool true]) ∧ Ext w w' := by
  have hmf : ∀ (fn : Fn) (first cap : Array Value) (w : World), (Instr.makeFunc fn first cap).run Tryd.prog w = .ok (.func fn first cap) w := fun _ _ _ _ => rfl
  go_enter Tryd.func22, Tryd.ntmps22
  go_wp2_with fail
  refine (answPr_yes 68 #[.pointer (some ⟨w.heap.size, 0, none⟩), .pointer (some ⟨w.heap.size + 1, 0, none⟩)] (fun _ _ => rfl) r _ (fun W hW => ?_)).mono ?_
  · obtain ⟨B0, B1, B2, hE, hz⟩ := box3 w [.int .i64 P, .int .i64 D, .int .i64 L, .int .i64 bx, .int .i64 cy] [.slice a n cap] [.int .i64 0, .int .i64 0] 37 22 39 hW
    exact hC.out _ _ _ hE B0 (by omega) B1 (by omega)
  rintro e w1 ⟨rfl, hw1⟩
  obtain ⟨B0, B1, B2, hE, hz⟩ := box3 w [.int .i64 P, .int .i64 D, .int .i64 L, .int .i64 bx, .int .i64 cy] [.slice a n cap] [.int .i64 0, .int .i64 0] 37 22 39 hw1
  clear hw1 hC
  have d0 := (B2 0 _ rfl).1
  have d1 := (B2 1 _ rfl).1
  have z0 := (B2 0 _ rfl).2
  have z1 := (B2 1 _ rfl).2
  go_wp2
  obtain ⟨W, hW⟩ : ∃ W, putL (w.heap.size + 1 + 1) 0 [.int .i64 r.x, .int .i64 r.y] w1 = W := ⟨_, rfl⟩
  have BW := Blk.put B2 [.int .i64 r.x, .int .i64 r.y] rfl
  rw [hW] at BW
  have hF : Ext w W := hW ▸ hE.putL (by omega) _
  simp only [putL, Nat.zero_add] at hW
  simp only [hW]
  have q0 := (BW 0 _ rfl).1
  have q1 := (BW 1 _ rfl).1
  refine bodyPost_ret (v := .tuple #[.agg #[.int .i64 r.x, .int .i64 r.y], .bool true]) (by simp [results, Tryd.results22, go_sem, q0, q1]) rfl ⟨rfl, hF⟩

set_option maxHeartbeats 1600000 in
set_option maxRecDepth 100000 in
theorem expEdRead_no (P D L bx cy : Int) (a : Option Addr) (n cap : Nat) (w : World) (hC : Hid (∀ (C0 C1 : Nat) (W : World), Ext w W → Blk W C0 [.int .i64 P, .int .i64 D, .int .i64 L, .int .i64 bx, .int .i64 cy] → C0 < W.heap.size → Blk W C1 [.slice a n cap] → C1 < W.heap.size → Calls Tryd.prog 68 #[.pointer (some ⟨C0, 0, none⟩), .pointer (some ⟨C1, 0, none⟩)] W fun e w' => e = .panicked [nrE] ∧ Ext W w')) :
    Calls Tryd.prog 22 #[.agg #[.int .i64 P, .int .i64 D, .int .i64 L, .int .i64 bx, .int .i64 cy], .slice a n cap] w fun e w' => e = .returned (.tuple #[.agg #[.int .i64 0, .int .i64 0], .bool false]) ∧ Ext w w' := by
  have hmf : ∀ (fn : Fn) (first cap : Array Value) (w : World), (Instr.makeFunc fn first cap).run Tryd.prog w = .ok (.func fn first cap) w := fun _ _ _ _ => rfl
  go_enter Tryd.func22, Tryd.ntmps22
  go_wp2_with fail
  refine (answPr_no 68 #[.pointer (some ⟨w.heap.size, 0, none⟩), .pointer (some ⟨w.heap.size + 1, 0, none⟩)] (fun _ _ => rfl) _ (fun W hW => ?_)).mono ?_
  · obtain ⟨B0, B1, B2, hE, hz⟩ := box3 w [.int .i64 P, .int .i64 D, .int .i64 L, .int .i64 bx, .int .i64 cy] [.slice a n cap] [.int .i64 0, .int .i64 0] 37 22 39 hW
    exact hC.out _ _ _ hE B0 (by omega) B1 (by omega)
  rintro e w1 ⟨rfl, hw1⟩
  obtain ⟨B0, B1, B2, hE, hz⟩ := box3 w [.int .i64 P, .int .i64 D, .int .i64 L, .int .i64 bx, .int .i64 cy] [.slice a n cap] [.int .i64 0, .int .i64 0] 37 22 39 hw1
  clear hw1 hC
  have d0 := (B2 0 _ rfl).1
  have d1 := (B2 1 _ rfl).1
  have z0 := (B2 0 _ rfl).2
  have z1 := (B2 1 _ rfl).2
  go_wp2
  obtain ⟨W, hW⟩ : ∃ W, putL (w.heap.size + 1 + 1) 0 [.int .i64 0, .int .i64 0] w1 = W := ⟨_, rfl⟩
  have BW := Blk.put B2 [.int .i64 0, .int .i64 0] rfl
  rw [hW] at BW
  have hF : Ext w W := hW ▸ hE.putL (by omega) _
  simp only [putL, Nat.zero_add] at hW
  simp only [hW]
  have q0 := (BW 0 _ rfl).1
  have q1 := (BW 1 _ rfl).1
  refine bodyPost_ret (v := .tuple #[.agg #[.int .i64 0, .int .i64 0], .bool false]) (by simp [results, Tryd.results22, go_sem, q0, q1]) rfl ⟨rfl, hF⟩

set_option linter.unusedSimpArgs false

/-- What EdBytes answers. -/
def GivesEB (P D L bx cy : Int) (a : Pr) (w : World) (e : Ending) (w' : World) : Prop :=
  ∃ ok : Bool, (ok = true ↔ EvOk P D L bx cy ∧ OnE P.toNat D a) ∧ GivesBs w (if ok then 3 else 0) (prByte a) ok e w'

/-- What a reading call answers. -/
def OptRdE (P D L bx cy : Int) (n : Nat) (f : Nat → Int) (c : Pr) (ok : Bool) : Prop :=
  (ok = true ∧ EvOk P D L bx cy ∧ ReadsE P.toNat D n f c) ∨ (ok = false ∧ (∀ c, EvOk P D L bx cy → ¬ ReadsE P.toNat D n f c) ∧ c = ⟨0, 0⟩)

theorem OptRdE.unique {P D L bx cy : Int} {n : Nat} {f : Nat → Int} {c d : Pr} {ok ok' : Bool} (h : OptRdE P D L bx cy n f c ok) (k : OptRdE P D L bx cy n f d ok') : c = d ∧ ok = ok' := by
  rcases h with ⟨rfl, v, h⟩ | ⟨rfl, h, rfl⟩ <;> rcases k with ⟨rfl, v', k⟩ | ⟨rfl, k, rfl⟩
  · exact ⟨ReadsE.unique v.edc h k, rfl⟩
  · exact absurd h (k _ v)
  · exact absurd k (h _ v')
  · exact ⟨rfl, rfl⟩

def GivesRdE (P D L bx cy : Int) (n : Nat) (f : Nat → Int) (r : Ending) : Prop := ∃ c ok, r = .returned (.tuple #[.agg #[.int .i64 c.x, .int .i64 c.y], .bool ok]) ∧ OptRdE P D L bx cy n f c ok

theorem givesRdE_no {P D L bx cy : Int} {n : Nat} {f : Nat → Int} (h : ∀ c, EvOk P D L bx cy → ¬ ReadsE P.toNat D n f c) : GivesRdE P D L bx cy n f (.returned (.tuple #[.agg #[.int .i64 0, .int .i64 0], .bool false])) := ⟨⟨0, 0⟩, false, rfl, Or.inr ⟨rfl, h, rfl⟩⟩
theorem givesRdE_yes {P D L bx cy : Int} {n : Nat} {f : Nat → Int} {c : Pr} (v : EvOk P D L bx cy) (h : ReadsE P.toNat D n f c) : GivesRdE P D L bx cy n f (.returned (.tuple #[.agg #[.int .i64 c.x, .int .i64 c.y], .bool true])) := ⟨c, true, rfl, Or.inl ⟨rfl, v, h⟩⟩

theorem liftV_spec {P D L : Int} (h : EvNum P D L) (y : Int) : ((P.toNat : Nat) : Int) ∣ liftV P D y * (1 + D * (y * y)) - (y * y - 1) := by
  have hn := h.nat
  have e1 := mod_dvd ((P.toNat : Nat) : Int) (D * y)
  have e2 := mod_dvd ((P.toNat : Nat) : Int) (D * y % ((P.toNat : Nat) : Int) * y)
  have e3 := mod_dvd ((P.toNat : Nat) : Int) (y * y - 1)
  have hd := h.edc.den y
  have hnd : ¬ ((P.toNat : Nat) : Int) ∣ 1 + D * y % ((P.toNat : Nat) : Int) * y % ((P.toNat : Nat) : Int) := by
    intro q
    apply hd
    generalize D * y % ((P.toNat : Nat) : Int) = u at *
    generalize u * y % ((P.toNat : Nat) : Int) = m at *
    exact comb3 q e2 e1 1 (-1) (-y) (by grind)
  have h2 := iv_div (u := (y * y - 1) % ((P.toNat : Nat) : Int)) h.pp hnd
  unfold liftV
  rw [← hn] at *
  simp only [Int.toNat_natCast] at *
  generalize (y * y - 1) % ((P.toNat : Nat) : Int) * iv P.toNat (1 + D * y % ((P.toNat : Nat) : Int) * y % ((P.toNat : Nat) : Int)) % ((P.toNat : Nat) : Int) = z at *
  generalize (y * y - 1) % ((P.toNat : Nat) : Int) = s at *
  generalize D * y % ((P.toNat : Nat) : Int) = u at *
  generalize u * y % ((P.toNat : Nat) : Int) = m at *
  exact comb4 h2 e3 e2 e1 1 1 (-z) (-(z * y)) (by grind)

theorem neg_emodE {P v : Int} (hP : 0 < P) (v0 : 0 ≤ v) (v1 : v < P) : (-v) % P = if v = 0 then 0 else P - v := by
  by_cases h : v = 0
  · subst h; simp
  · rw [if_neg h]
    have : (-v) % P = (P - v) % P := mod_eq ⟨-1, by omega⟩
    rw [this]
    exact Int.emod_eq_of_lt (by omega) (by omega)

theorem liftV_range {P D L : Int} (h : EvNum P D L) (y : Int) : 0 ≤ liftV P D y ∧ liftV P D y < P := by
  have := h.p13
  exact ⟨Int.emod_nonneg _ (by omega), Int.emod_lt_of_pos _ (by omega)⟩

theorem onE_lift {P D L : Int} (h : EvNum P D L) {x y : Int} (x0 : 0 ≤ x) (x1 : x < P) (y0 : 0 ≤ y) (y1 : y < P) : OnE P.toNat D ⟨x, y⟩ ↔ x * x % P = liftV P D y := by
  have hn := h.nat
  obtain ⟨s0, s1⟩ := liftV_range h y
  have hr := onE_root h.edc (x := x) (y := y) x0 (by omega) y0 (by omega) (liftV_spec h y)
  rw [hr, hn]
  constructor
  · intro k
    have := mod_eq k
    rwa [Int.emod_eq_of_lt s0 s1] at this
  · intro k
    rw [← k]
    have := mod_dvd P (x * x)
    exact comb1 this (-1) (by generalize x * x % P = u; grind)

theorem gatPr {P D L : Int} (bx cy : Int) (h : EvNum P D L) (y t : Int) :
    (∃ c : Pr, (c.y = y ∧ c.x % 2 = t ∧ OnE P.toNat D c) ∧ ∀ W : World, Tab W → Calls Tryd.prog 110 #[.agg #[.int .i64 0, .int .i64 1, .int .i64 bx, .int .i64 cy, .func (.func 102) #[.agg #[.int .i64 P, .int .i64 D, .int .i64 L, .int .i64 bx, .int .i64 cy]] #[], .func (.func 103) #[.agg #[.int .i64 P, .int .i64 D, .int .i64 L, .int .i64 bx, .int .i64 cy]] #[], .func (.func 104) #[.agg #[.int .i64 P, .int .i64 D, .int .i64 L, .int .i64 bx, .int .i64 cy]] #[], .func (.func 105) #[.agg #[.int .i64 P, .int .i64 D, .int .i64 L, .int .i64 bx, .int .i64 cy]] #[], .func (.func 106) #[] #[]], .int .i64 y, .int .i64 t] W fun e w' => e = .returned (.agg #[.int .i64 c.x, .int .i64 c.y]) ∧ Ext W w') ∨
    ((∀ z, z % 2 = t → ¬ OnE P.toNat D ⟨z, y⟩) ∧ ∀ W : World, Tab W → Calls Tryd.prog 110 #[.agg #[.int .i64 0, .int .i64 1, .int .i64 bx, .int .i64 cy, .func (.func 102) #[.agg #[.int .i64 P, .int .i64 D, .int .i64 L, .int .i64 bx, .int .i64 cy]] #[], .func (.func 103) #[.agg #[.int .i64 P, .int .i64 D, .int .i64 L, .int .i64 bx, .int .i64 cy]] #[], .func (.func 104) #[.agg #[.int .i64 P, .int .i64 D, .int .i64 L, .int .i64 bx, .int .i64 cy]] #[], .func (.func 105) #[.agg #[.int .i64 P, .int .i64 D, .int .i64 L, .int .i64 bx, .int .i64 cy]] #[], .func (.func 106) #[] #[]], .int .i64 y, .int .i64 t] W fun e w' => e = .panicked [nrE] ∧ Ext W w') := by
  have h5 := h.p13; have hM := h.pM; have h8 := h.p8; have hn := h.nat
  by_cases hx : 0 ≤ y ∧ y < P
  rotate_left
  · exact Or.inr ⟨fun z _ k => hx ⟨k.y0, by have := k.y1; simp only at this; omega⟩, fun W hW => atPr_noL P D L bx cy y t (fun W' _ => liftPr_out bx cy h hx W') W hW⟩
  obtain ⟨s0, s1⟩ := liftV_range h y
  obtain ⟨v, ok, hA⟩ := rootAns_some (liftV P D y) P ⟨by omega, h.pM, h.pp, s0, s1⟩
  cases ok
  · have e := (hA.2 rfl).1
    subst e
    refine Or.inr ⟨fun z _ k => ?_, fun W hW => atPr_noL P D L bx cy y t (fun W' hW' => liftPr_none bx cy h hx hA W' hW') W hW⟩
    have z0 := k.x0; have z1 := k.x1
    simp only at z0 z1
    exact (hA.2 rfl).2 ⟨⟨by omega, h.pM, h.pp, s0, s1⟩, z, z0, (onE_lift h z0 (by omega) hx.1 hx.2).1 k⟩
  obtain ⟨_, v0, hv, hl⟩ := hA.1 rfl
  have v1 : v < P := by
    by_cases k : v < P
    · exact k
    · refine absurd ?_ (hl (v - P) (by omega) (by omega))
      rw [← hv]
      refine mod_eq ⟨P - 2 * v, by grind⟩
  have hon := (onE_lift h v0 v1 hx.1 hx.2).2 hv
  by_cases c : v % 2 = t
  · refine Or.inl ⟨⟨v, y⟩, ⟨rfl, c, hon⟩, fun W hW => atPr_one P D L bx cy y t ⟨v, y⟩ (fun W' hW' => liftPr_yes bx cy h hx hA W' hW') (fun W' => ?_) W hW⟩
    have := parityPr ⟨v, y⟩ v0 W'
    rwa [show (⟨v, y⟩ : Pr).x % 2 = t from c] at this
  have hy := neg_emodE (show 0 < P by omega) v0 v1
  obtain ⟨z, hz⟩ : ∃ z, (-v) % P = z := ⟨_, rfl⟩
  have z0 : 0 ≤ z := by rw [← hz]; exact Int.emod_nonneg _ (by omega)
  have z1 : z < P := by rw [← hz]; exact Int.emod_lt_of_pos _ (by omega)
  have ho : OnE P.toNat D ⟨z, y⟩ := (onE_lift h z0 z1 hx.1 hx.2).2 (by
    rw [← hv, ← hz, ← Int.mul_emod, Int.neg_mul_neg])
  have HO : ∀ W : World, Calls Tryd.prog 104 #[.agg #[.int .i64 P, .int .i64 D, .int .i64 L, .int .i64 bx, .int .i64 cy], .agg #[.int .i64 v, .int .i64 y]] W fun e w' => e = .returned (.agg #[.int .i64 z, .int .i64 y]) ∧ Ext W w' := fun W => by
    have := oppPr bx cy h (n := y) v0 v1 W
    rwa [hz] at this
  rw [hz] at hy
  by_cases d : z % 2 = t
  · refine Or.inl ⟨⟨z, y⟩, ⟨rfl, d, ho⟩, fun W hW => atPr_two P D L bx cy y t (v % 2) ⟨v, y⟩ ⟨z, y⟩ (fun W' hW' => liftPr_yes bx cy h hx hA W' hW') (fun W' => parityPr ⟨v, y⟩ v0 W') c HO (fun W' => ?_) W hW⟩
    have := parityPr ⟨z, y⟩ z0 W'
    rwa [show (⟨z, y⟩ : Pr).x % 2 = t from d] at this
  · refine Or.inr ⟨fun u hu k => ?_, fun W hW => atPr_none P D L bx cy y t (v % 2) (z % 2) ⟨v, y⟩ ⟨z, y⟩ (fun W' hW' => liftPr_yes bx cy h hx hA W' hW') (fun W' => parityPr ⟨v, y⟩ v0 W') c HO (fun W' => parityPr ⟨z, y⟩ z0 W') d W hW⟩
    have u0 := k.x0; have u1 := k.x1
    simp only at u0 u1
    have := sq_two h.pp u0 u1 v0 (by omega) (OnE.sq h.edc k hon)
    by_cases e : v = 0
    · rw [if_pos e] at hy; omega
    · rw [if_neg e] at hy; omega

theorem rdPr_all {P D L bx cy : Int} (h : EvOk P D L bx cy) (a : Option Addr) (b off n cap : Nat) (f : Nat → Int) (w : World) (hT : Tab w) (hs : BSeg w a b off n f) (hr : ∀ i, i < n → 0 ≤ f i ∧ f i ≤ 255) (hcap : n ≤ cap) :
    (∃ c : Pr, ReadsE P.toNat D n f c ∧ ∀ W : World, Ext w W → Calls Tryd.prog 69 #[.agg #[.int .i64 0, .int .i64 1, .int .i64 bx, .int .i64 cy, .func (.func 102) #[.agg #[.int .i64 P, .int .i64 D, .int .i64 L, .int .i64 bx, .int .i64 cy]] #[], .func (.func 103) #[.agg #[.int .i64 P, .int .i64 D, .int .i64 L, .int .i64 bx, .int .i64 cy]] #[], .func (.func 104) #[.agg #[.int .i64 P, .int .i64 D, .int .i64 L, .int .i64 bx, .int .i64 cy]] #[], .func (.func 105) #[.agg #[.int .i64 P, .int .i64 D, .int .i64 L, .int .i64 bx, .int .i64 cy]] #[], .func (.func 106) #[] #[]], .slice a n cap] W fun e w' => e = .returned (.agg #[.int .i64 c.x, .int .i64 c.y]) ∧ Ext W w') ∨
    ((∀ c, ¬ ReadsE P.toNat D n f c) ∧ ∀ W : World, Ext w W → Calls Tryd.prog 69 #[.agg #[.int .i64 0, .int .i64 1, .int .i64 bx, .int .i64 cy, .func (.func 102) #[.agg #[.int .i64 P, .int .i64 D, .int .i64 L, .int .i64 bx, .int .i64 cy]] #[], .func (.func 103) #[.agg #[.int .i64 P, .int .i64 D, .int .i64 L, .int .i64 bx, .int .i64 cy]] #[], .func (.func 104) #[.agg #[.int .i64 P, .int .i64 D, .int .i64 L, .int .i64 bx, .int .i64 cy]] #[], .func (.func 105) #[.agg #[.int .i64 P, .int .i64 D, .int .i64 L, .int .i64 bx, .int .i64 cy]] #[], .func (.func 106) #[] #[]], .slice a n cap] W fun e w' => e = .panicked [nrE] ∧ Ext W w') := by
  have hT' : ∀ W, Ext w W → Tab W := fun W e => hT.ext e
  have hs' : ∀ W, Ext w W → BSeg W a b off n f := fun W e => hs.of_all e
  by_cases hn : n = 3
  rotate_left
  · exact Or.inr ⟨fun c k => hn k.len, fun W e => rdPr_len P D L bx cy a b off n cap f hn W (hT' W e) (hs' W e) hr hcap⟩
  rcases gatPr bx cy h.num (f 0 + f 1 * 256 + f 2 % 128 * 65536) (f 2 / 128) with ⟨c, ⟨k1, k2, k3⟩, hA⟩ | ⟨k, hA⟩
  · exact Or.inl ⟨c, ⟨hn, k1, k2, k3⟩, fun W e => rdPr_yes P D L bx cy a b off n cap f _ _ c hn rfl rfl hA W (hT' W e) (hs' W e) hr hcap⟩
  · refine Or.inr ⟨fun c q => ?_, fun W e => rdPr_no P D L bx cy a b off n cap f _ _ hn rfl rfl hA W (hT' W e) (hs' W e) hr hcap⟩
    obtain ⟨x, y⟩ := c
    have := q.y
    simp only at this
    subst this
    exact k x q.odd q.on

theorem implEdRead_any (P D L bx cy : Int) (a : Option Addr) (b off n cap : Nat) (f : Nat → Int) (w : World) (hP1 : P ≤ 9223372036854775807) (hL1 : L ≤ 9223372036854775807) (hT : Tab w) (hs : BSeg w a b off n f) (hr : ∀ i, i < n → 0 ≤ f i ∧ f i ≤ 255) (hcap : n ≤ cap) :
    Calls Tryd.prog 22 #[.agg #[.int .i64 P, .int .i64 D, .int .i64 L, .int .i64 bx, .int .i64 cy], .slice a n cap] w fun r w' => GivesRdE P D L bx cy n f r ∧ Ext w w' := by
  by_cases h : EvOk P D L bx cy
  · rcases rdPr_all h a b off n cap f w hT hs hr hcap with ⟨c, hc, hA⟩ | ⟨hn, hA⟩
    · exact (expEdRead_yes P D L bx cy a n cap c w (fun C0 C1 W e B0 l0 B1 l1 => cloEdRead_yes P D L bx cy a n cap c C0 C1 W B0 l0 B1 l1 (groupPr_yes P D L bx cy h) (fun W' e' => hA W' (e.trans e')))).mono fun r w' q => ⟨q.1 ▸ givesRdE_yes h hc, q.2⟩
    · exact (expEdRead_no P D L bx cy a n cap w (fun C0 C1 W e B0 l0 B1 l1 => cloEdRead_noF P D L bx cy a n cap C0 C1 W B0 l0 B1 l1 (groupPr_yes P D L bx cy h) (fun W' e' => hA W' (e.trans e')))).mono fun r w' q => ⟨q.1 ▸ givesRdE_no (fun c _ => hn c), q.2⟩
  · exact (expEdRead_no P D L bx cy a n cap w (fun C0 C1 W e B0 l0 B1 l1 => cloEdRead_noG P D L bx cy a n cap C0 C1 W B0 l0 B1 l1 (groupPr_no P D L bx cy hP1 hL1 h))).mono fun r w' q => ⟨q.1 ▸ givesRdE_no (fun c v => absurd v h), q.2⟩

theorem implEdBytes_any (P D L bx cy : Int) (a : Pr) (w : World) (hP1 : P ≤ 9223372036854775807) (hL1 : L ≤ 9223372036854775807) :
    Calls Tryd.prog 21 #[.agg #[.int .i64 P, .int .i64 D, .int .i64 L, .int .i64 bx, .int .i64 cy], .agg #[.int .i64 a.x, .int .i64 a.y]] w fun e w' => GivesEB P D L bx cy a w e w' := by
  by_cases h : EvOk P D L bx cy
  · by_cases ha : OnE P.toNat D a
    · have hM := h.pM; have x0 := ha.x0; have y0 := ha.y0; have y1 := ha.y1
      exact (expEdBytes_yes P D L bx cy a 3 (prByte a) (by decide) (fun C0 C1 W B0 l0 B1 l1 => cloEdBytes_yes P D L bx cy a _ _ C0 C1 W B0 l0 B1 l1 (groupPr_yes P D L bx cy h) (knownPr_yes bx cy h.num ha) (pairBytes_any a x0 y0 (by omega))) w).mono fun e w' q => ⟨true, ⟨fun _ => ⟨h, ha⟩, fun _ => rfl⟩, q⟩
    · exact (expEdBytes_no P D L bx cy a (prByte a) (fun C0 C1 W B0 l0 B1 l1 => cloEdBytes_noK P D L bx cy a C0 C1 W B0 l0 B1 l1 (groupPr_yes P D L bx cy h) (knownPr_no bx cy h.num ha)) w).mono fun e w' q => ⟨false, ⟨fun e => by simp at e, fun e => absurd e.2 ha⟩, q⟩
  · exact (expEdBytes_no P D L bx cy a (prByte a) (fun C0 C1 W B0 l0 B1 l1 => cloEdBytes_noG P D L bx cy a C0 C1 W B0 l0 B1 l1 (groupPr_no P D L bx cy hP1 hL1 h)) w).mono fun e w' q => ⟨false, ⟨fun e => by simp at e, fun e => absurd e.1 h⟩, q⟩

set_option linter.unusedSimpArgs false
open Go.RowKit Go.Sort

set_option maxHeartbeats 1600000 in
set_option maxRecDepth 100000 in
theorem specEdBytes_any (P D L bx cy : Int) (a : Pr) (w : World) (hP1 : P ≤ 9223372036854775807) (hL1 : L ≤ 9223372036854775807) :
    Calls Tryd.prog 33 #[.agg #[.int .i64 P, .int .i64 D, .int .i64 L, .int .i64 bx, .int .i64 cy], .agg #[.int .i64 a.x, .int .i64 a.y]] w fun e w' => GivesEB P D L bx cy a w e w' := by
  obtain ⟨ok, hok⟩ : ∃ ok : Bool, ok = true ↔ (EvOk P D L bx cy ∧ OnE P.toNat D a) := by
    by_cases h : EvOk P D L bx cy ∧ OnE P.toNat D a
    · exact ⟨true, fun _ => h, fun _ => rfl⟩
    · exact ⟨false, fun e => (by cases e), fun e => absurd e h⟩
  have HS := hide (specPairOk_at P D L bx cy a hP1 hL1 ok hok)
  have HG : Hid (∀ e w', GivesBs w (if ok then 3 else 0) (prByte a) ok e w' → GivesEB P D L bx cy a w e w') := fun e w' h => ⟨ok, hok, h⟩
  go_enter Tryd.func33, Tryd.ntmps33
  go_wp2_with fail
  refine (HS.out _).mono ?_
  rintro r w1 ⟨rfl, hw1⟩
  obtain ⟨B1, B2, hE, hz⟩ := box2 w [.int .i64 P, .int .i64 D, .int .i64 L, .int .i64 bx, .int .i64 cy] [.int .i64 a.x, .int .i64 a.y] 37 39 hw1
  clear hw1 HS
  cases ok
  · replace HG : Hid (∀ e w', GivesBs w 0 (prByte a) false e w' → GivesEB P D L bx cy a w e w') := HG
    clear hok
    go_wp2
    go_ret2
    exact HG.out _ _ ⟨_, w1.heap.size, _, rfl, Below.size hE, BOwn.nil _ _ _ _ _, hE.trans (Ext.alloc _ _), Nat.zero_le _, (Lies.new w1 #[]).owns (Below.size hE) rfl (by decide)⟩
  · replace HG : Hid (∀ e w', GivesBs w 3 (prByte a) true e w' → GivesEB P D L bx cy a w e w') := HG
    have hk := hok.1 rfl
    have hM := hk.1.pM; have x0 := hk.2.x0; have y0 := hk.2.y0; have y1 := hk.2.y1
    have yM : a.y ≤ 1048576 := by omega
    have HE := hide (byts_pr a)
    clear hok hk
    obtain ⟨q, hq⟩ : ∃ q, a.x % 2 = q := ⟨_, rfl⟩
    have q0 : 0 ≤ q := by omega
    have q1 : q ≤ 1 := by omega
    have hq' : Int.tmod a.x 2 = q := by rw [Int.tmod_eq_emod_of_nonneg x0]; exact hq
    obtain ⟨h, hh⟩ : ∃ h, a.y / 65536 = h := ⟨_, rfl⟩
    have h0 : 0 ≤ h := by omega
    have h1 : h ≤ 16 := by omega
    rw [hq, hh] at HE
    have r1 : IntKind.i64.wrap (128 * q) = 128 * q := by rw [IntKind.wrap_i64]; omega
    have r1' : wrap64 (128 * q) = 128 * q := by unfold wrap64; omega
    have r2 : IntKind.i64.wrap (h + 128 * q) = h + 128 * q := by rw [IntKind.wrap_i64]; omega
    have r2' : wrap64 (h + 128 * q) = h + 128 * q := by unfold wrap64; omega
    have r3 : IntKind.u8.wrap (h + 128 * q) = h + 128 * q := by simp [IntKind.wrap_u8]; omega
    have r3' : (h + 128 * q) % 256 = h + 128 * q := by omega
    have k0 := (B2 0 _ rfl).1
    have k1 := (B2 1 _ rfl).1
    clear hq y1 hM
    go_wp2
    go_ret2
    have O := (Lies.new w1 #[.int .u8 (a.y % 256), .int .u8 (a.y / 256 % 256), .int .u8 (h + 128 * q)]).owns (Nat.le_refl _) rfl (show 3 ≤ maxLen by decide)
    exact HG.out _ _ (givesBs_of_owns O (Below.size hE) (congrArg Array.toList HE.out) (hE.trans (Ext.alloc _ _)))

set_option maxHeartbeats 3200000 in
set_option maxRecDepth 100000 in
theorem l4Read_len (p : Nat) (D L bx cy : Int) (h : EvOk (p : Int) D L bx cy) (a : Option Addr) (b off n cap : Nat) (f : Nat → Int) (hn : n ≠ 3) (w : World) (hs : BSeg w a b off n f) (hr : ∀ i, i < n → 0 ≤ f i ∧ f i ≤ 255) :
    Calls Tryd.prog 78 #[.agg #[.int .i64 (p : Int), .int .i64 D, .int .i64 L, .int .i64 bx, .int .i64 cy], .slice a n cap] w fun r w' => GivesRdE (p : Int) D L bx cy n f r ∧ Ext w w' := by
  have HN : Hid (GivesRdE (p : Int) D L bx cy n f (.returned (.tuple #[.agg #[.int .i64 0, .int .i64 0], .bool false]))) := givesRdE_no (fun c _ q => hn q.len)
  have nq : ((n : Int) != 3) = true := by simp; omega
  clear hs hr hn h
  go_enter Tryd.func78, Tryd.ntmps78
  go_wp2
  refine bodyPost_ret (v := .tuple #[.agg #[.int .i64 0, .int .i64 0], .bool false]) (by simp [results, Tryd.results78, go_sem]) rfl ⟨HN.out, ?_⟩
  show Below _ _ _
  repeat (first | exact Below.refl _ _ | refine Below.setCell ?_ (by simp <;> omega) _ | refine Below.alloc ?_ (by simp <;> omega) _)

set_option maxHeartbeats 3200000 in
set_option maxRecDepth 100000 in
theorem l4Read_big (p : Nat) (D L bx cy : Int) (h : EvOk (p : Int) D L bx cy) (a : Option Addr) (b off n cap : Nat) (f : Nat → Int) (y t : Int) (hn : n = 3) (hy : f 0 + f 1 * 256 + f 2 % 128 * 65536 = y) (ht : f 2 / 128 = t) (hb' : (p : Int) ≤ y) (w : World) (hs : BSeg w a b off n f) (hr : ∀ i, i < n → 0 ≤ f i ∧ f i ≤ 255) :
    Calls Tryd.prog 78 #[.agg #[.int .i64 (p : Int), .int .i64 D, .int .i64 L, .int .i64 bx, .int .i64 cy], .slice a n cap] w fun r w' => GivesRdE (p : Int) D L bx cy n f r ∧ Ext w w' := by
  have HN : Hid (GivesRdE (p : Int) D L bx cy n f (.returned (.tuple #[.agg #[.int .i64 0, .int .i64 0], .bool false]))) := givesRdE_no (fun c _ q => by have := q.y; have := q.on.y1; simp only [Int.toNat_natCast] at this; omega)
  clear h
  subst hn
  have hb := hs.lt (by omega)
  obtain rfl := hs.at' (by omega)
  obtain ⟨r0, s0⟩ := hr 0 (by omega)
  obtain ⟨r1, s1⟩ := hr 1 (by omega)
  obtain ⟨r2, s2⟩ := hr 2 (by omega)
  go_enter Tryd.func78, Tryd.ntmps78
  go_wp2
  obtain ⟨V, hV⟩ : ∃ V, (w.alloc (.cells #[.int .i64 (p : Int), .int .i64 D, .int .i64 L, .int .i64 bx, .int .i64 cy] 37)).alloc (.cells #[.int .i64 0, .int .i64 0] 39) = V := ⟨_, rfl⟩
  obtain ⟨B1, B2, hE, hz⟩ := box2 w [.int .i64 (p : Int), .int .i64 D, .int .i64 L, .int .i64 bx, .int .i64 cy] [.int .i64 0, .int .i64 0] 37 39 (hV ▸ Ext.refl _ : Ext ((w.alloc (.cells #[.int .i64 (p : Int), .int .i64 D, .int .i64 L, .int .i64 bx, .int .i64 cy] 37)).alloc (.cells #[.int .i64 0, .int .i64 0] 39)) V)
  simp only [hV]
  clear hV
  have hs0 := hs.of_all hE
  obtain ⟨X, hX⟩ : ∃ X : Nat → Prop, X = fun _ => False := ⟨_, rfl⟩
  have x0 : ∀ k, ¬ X k := fun k => by rw [hX]; exact fun e => e
  clear hX
  have c0 := cell_reC (hs0.cell 0 (by omega)) (x0 _)
  have c1 := cell_reC (hs0.cell 1 (by omega)) (x0 _)
  have c2 := cell_reC (hs0.cell 2 (by omega)) (x0 _)
  rw [Nat.add_zero] at c0
  have hc2 := hs0.cell 2 (by omega)
  clear hs hs0 hr
  generalize f 0 = y0 at *
  generalize f 1 = y1 at *
  generalize f 2 = y2 at *
  obtain ⟨m, hm⟩ : ∃ m, y2 % 128 = m := ⟨_, rfl⟩
  have hm' : Int.tmod y2 128 = m := by rw [Int.tmod_eq_emod_of_nonneg r2]; exact hm
  have m0 : 0 ≤ m := by omega
  have m1 : m ≤ 127 := by omega
  have ht' : Int.tdiv y2 128 = t := by rw [Int.tdiv_eq_ediv_of_nonneg r2]; exact ht
  rw [hm] at hy
  have q0 : IntKind.i64.wrap y0 = y0 := wrap_small r0 (by omega)
  have q1 : IntKind.i64.wrap y1 = y1 := wrap_small r1 (by omega)
  have q2 : IntKind.i64.wrap m = m := wrap_small m0 (by omega)
  have q3 : IntKind.i64.wrap (y1 * 256) = y1 * 256 := wrap_small (by omega) (by omega)
  have q4 : IntKind.i64.wrap (y0 + y1 * 256) = y0 + y1 * 256 := wrap_small (by omega) (by omega)
  have q5 : IntKind.i64.wrap (m * 65536) = m * 65536 := wrap_small (by omega) (by omega)
  have q6 : IntKind.i64.wrap (y0 + y1 * 256 + m * 65536) = y := by rw [← hy]; exact wrap_small (by omega) (by omega)
  have yb0 : 0 ≤ y := by omega
  have yb1 : y ≤ 16777215 := by omega
  clear hy
  refine anyK_begin X 18 rfl (by kernel_rfl) ?_
  refine anyK_take 0 18 0 rfl (by decide) (by kernel_rfl) (fun _ _ d _ _ h => by cases d <;> exact h) ?_
  repeat (refine headC_step (fun K hK => ?_); go_simp; first | (refine hK _ ?_; clear hK K) | (apply Exists.intro; refine ⟨fun _ => ?_, hK _ ?_⟩; (fail); clear hK K))
  refine headC_nil ?_
  clear c0 c1 c2 q0 q1 q2 q3 q4 q5 q6 hm hm' m0 m1
  refine anyK_done (by kernel_rfl) ?_ 0
  intro w2 h2
  clear x0 X
  replace B1 := B1.ext h2 (by omega)
  replace B2 := B2.ext h2 (by omega)
  replace hE := hE.trans h2
  have hz2 : w.heap.size + 2 ≤ w2.heap.size := Nat.le_trans hz (Below.size h2)
  have hcl := (World.cell?_of_block (a := ⟨b, off + 2, none⟩) (h2.block b (by omega))).trans hc2
  clear h2 hz hc2
  have w3 : IntKind.i64.wrap y2 = y2 := wrap_small r2 (by omega)
  have k0 := (B1 0 _ rfl).1
  have k1 := (B1 1 _ rfl).1
  have k2 := (B1 2 _ rfl).1
  have k3 := (B1 3 _ rfl).1
  have k4 := (B1 4 _ rfl).1
  have d0 := (B2 0 _ rfl).1
  have d1 := (B2 1 _ rfl).1
  have z0 := (B2 0 _ rfl).2
  have z1 := (B2 1 _ rfl).2
  go_wp2
  obtain ⟨W, hW⟩ : ∃ W, putL (w.heap.size + 1) 0 [.int .i64 0, .int .i64 0] w2 = W := ⟨_, rfl⟩
  have BW := Blk.put B2 [.int .i64 0, .int .i64 0] rfl
  rw [hW] at BW
  have hF : Ext w W := hW ▸ hE.putL (by omega) _
  simp only [putL, Nat.zero_add] at hW
  simp only [hW]
  have q0 := (BW 0 _ rfl).1
  have q1 := (BW 1 _ rfl).1
  refine bodyPost_ret (v := .tuple #[.agg #[.int .i64 0, .int .i64 0], .bool false]) (by simp [results, Tryd.results78, go_sem, q0, q1]) rfl ⟨HN.out, hF⟩

theorem eighth (p E : Nat) (hp : p ≤ 1048576) (h : (p + 3) / 8 = E) : IntKind.i64.wrap ((p : Int) + 3) = (p : Int) + 3 ∧ wrap64 ((p : Int) + 3) = (p : Int) + 3 ∧ Int.tdiv ((p : Int) + 3) 8 = (E : Int) ∧ ((p : Int) + 3) / 8 = (E : Int) ∧ E ≤ 1048576 := by
  refine ⟨by rw [IntKind.wrap_i64]; omega, by unfold wrap64; omega, ?_, by omega, by omega⟩
  rw [Int.tdiv_eq_ediv_of_nonneg (by omega)]; omega

theorem fourth (p F : Nat) (h1 : 1 ≤ p) (hp : p ≤ 1048576) (h : (p - 1) / 4 = F) : IntKind.i64.wrap ((p : Int) - 1) = (p : Int) - 1 ∧ wrap64 ((p : Int) - 1) = (p : Int) - 1 ∧ Int.tdiv ((p : Int) - 1) 4 = (F : Int) ∧ ((p : Int) - 1) / 4 = (F : Int) ∧ F ≤ 1048576 := by
  refine ⟨by rw [IntKind.wrap_i64]; omega, by unfold wrap64; omega, ?_, by omega, by omega⟩
  rw [Int.tdiv_eq_ediv_of_nonneg (by omega)]; omega

theorem xE_pos {p : Nat} {D y t : Int} (h : (root5 p (wE p D y).toNat : Int) % 2 = t) : xE p D y t = (root5 p (wE p D y).toNat : Int) := by
  unfold xE; rw [if_pos h]

theorem xE_neg {p : Nat} {D y t : Int} (h : ¬ (root5 p (wE p D y).toNat : Int) % 2 = t) : xE p D y t = (-(root5 p (wE p D y).toNat : Int)) % p := by
  unfold xE; rw [if_neg h]

set_option maxHeartbeats 12800000 in
set_option maxRecDepth 100000 in
theorem l4Read_main (p : Nat) (D L bx cy : Int) (h : EvOk (p : Int) D L bx cy) (a : Option Addr) (b off n cap : Nat) (f : Nat → Int) (y t : Int) (hn : n = 3) (hy : f 0 + f 1 * 256 + f 2 % 128 * 65536 = y) (ht : f 2 / 128 = t) (hlt : y < (p : Int)) (w : World) (hs : BSeg w a b off n f) (hr : ∀ i, i < n → 0 ≤ f i ∧ f i ≤ 255) :
    Calls Tryd.prog 78 #[.agg #[.int .i64 (p : Int), .int .i64 D, .int .i64 L, .int .i64 bx, .int .i64 cy], .slice a n cap] w fun r w' => GivesRdE (p : Int) D L bx cy n f r ∧ Ext w w' := by
  have Hh := hide h
  have HY : Hid (∀ x : Int, OnE p D ⟨x, y⟩ → x % 2 = t → GivesRdE (p : Int) D L bx cy 3 f (.returned (.tuple #[.agg #[.int .i64 x, .int .i64 y], .bool true]))) := fun x h1 h2 => givesRdE_yes (c := ⟨x, y⟩) h ⟨rfl, hy.symm, by rw [ht]; exact h2, by simpa using h1⟩
  have HN : Hid (∀ x : Int, xE p D y t = x → ¬ (OnE p D ⟨x, y⟩ ∧ x % 2 = t) → GivesRdE (p : Int) D L bx cy 3 f (.returned (.tuple #[.agg #[.int .i64 0, .int .i64 0], .bool false]))) := fun x hx hno => givesRdE_no (fun c v q => by
    have v8 := v.p8
    have e := model_readE v.edc (by simp; omega) q
    have ey : c.y = y := q.y.trans hy
    have eo := q.odd
    rw [ht] at e eo
    rw [ey] at e
    simp only [Int.toNat_natCast] at e
    rw [hx] at e
    obtain ⟨cx, cy'⟩ := c
    simp only at e ey eo
    subst e ey
    exact hno ⟨by simpa using q.on, eo⟩)
  have h13 := h.p13; have hM := h.pM; have hd2 := h.d2; have hd1 := h.d1
  have hpr : Prime p := by have := h.pp; simpa using this
  have hpM : p ≤ 1048576 := by omega
  subst hn
  have hb := hs.lt (by omega)
  obtain rfl := hs.at' (by omega)
  obtain ⟨r0, s0⟩ := hr 0 (by omega)
  obtain ⟨r1, s1⟩ := hr 1 (by omega)
  obtain ⟨r2, s2⟩ := hr 2 (by omega)
  go_enter Tryd.func78, Tryd.ntmps78
  go_wp2
  obtain ⟨V, hV⟩ : ∃ V, (w.alloc (.cells #[.int .i64 (p : Int), .int .i64 D, .int .i64 L, .int .i64 bx, .int .i64 cy] 37)).alloc (.cells #[.int .i64 0, .int .i64 0] 39) = V := ⟨_, rfl⟩
  obtain ⟨B1, B2, hE, hz⟩ := box2 w [.int .i64 (p : Int), .int .i64 D, .int .i64 L, .int .i64 bx, .int .i64 cy] [.int .i64 0, .int .i64 0] 37 39 (hV ▸ Ext.refl _ : Ext ((w.alloc (.cells #[.int .i64 (p : Int), .int .i64 D, .int .i64 L, .int .i64 bx, .int .i64 cy] 37)).alloc (.cells #[.int .i64 0, .int .i64 0] 39)) V)
  simp only [hV]
  clear hV
  have hs0 := hs.of_all hE
  obtain ⟨X, hX⟩ : ∃ X : Nat → Prop, X = fun _ => False := ⟨_, rfl⟩
  have x0 : ∀ k, ¬ X k := fun k => by rw [hX]; exact fun e => e
  clear hX
  have c0 := cell_reC (hs0.cell 0 (by omega)) (x0 _)
  have c1 := cell_reC (hs0.cell 1 (by omega)) (x0 _)
  have c2 := cell_reC (hs0.cell 2 (by omega)) (x0 _)
  rw [Nat.add_zero] at c0
  have hc2 := hs0.cell 2 (by omega)
  clear hs hs0 hr
  generalize f 0 = y0 at *
  generalize f 1 = y1 at *
  generalize f 2 = y2 at *
  obtain ⟨m, hm⟩ : ∃ m, y2 % 128 = m := ⟨_, rfl⟩
  have hm' : Int.tmod y2 128 = m := by rw [Int.tmod_eq_emod_of_nonneg r2]; exact hm
  have m0 : 0 ≤ m := by omega
  have m1 : m ≤ 127 := by omega
  have ht' : Int.tdiv y2 128 = t := by rw [Int.tdiv_eq_ediv_of_nonneg r2]; exact ht
  rw [hm] at hy
  have q0 : IntKind.i64.wrap y0 = y0 := wrap_small r0 (by omega)
  have q1 : IntKind.i64.wrap y1 = y1 := wrap_small r1 (by omega)
  have q2 : IntKind.i64.wrap m = m := wrap_small m0 (by omega)
  have q3 : IntKind.i64.wrap (y1 * 256) = y1 * 256 := wrap_small (by omega) (by omega)
  have q4 : IntKind.i64.wrap (y0 + y1 * 256) = y0 + y1 * 256 := wrap_small (by omega) (by omega)
  have q5 : IntKind.i64.wrap (m * 65536) = m * 65536 := wrap_small (by omega) (by omega)
  have q6 : IntKind.i64.wrap (y0 + y1 * 256 + m * 65536) = y := by rw [← hy]; exact wrap_small (by omega) (by omega)
  have yb0 : 0 ≤ y := by omega
  have yb1 : y ≤ 16777215 := by omega
  clear hy
  refine anyK_begin X 18 rfl (by kernel_rfl) ?_
  refine anyK_take 0 18 0 rfl (by decide) (by kernel_rfl) (fun _ _ d _ _ h => by cases d <;> exact h) ?_
  repeat (refine headC_step (fun K hK => ?_); go_simp; first | (refine hK _ ?_; clear hK K) | (apply Exists.intro; refine ⟨fun _ => ?_, hK _ ?_⟩; (fail); clear hK K))
  refine headC_nil ?_
  clear c0 c1 c2 q0 q1 q2 q3 q4 q5 q6 hm hm' m0 m1
  refine anyK_done (by kernel_rfl) ?_ 0
  intro w2 h2
  clear x0 X
  replace B1 := B1.ext h2 (by omega)
  replace B2 := B2.ext h2 (by omega)
  replace hE := hE.trans h2
  have hz2 : w.heap.size + 2 ≤ w2.heap.size := Nat.le_trans hz (Below.size h2)
  have hcl := (World.cell?_of_block (a := ⟨b, off + 2, none⟩) (h2.block b (by omega))).trans hc2
  clear h2 hz hc2
  have w3 : IntKind.i64.wrap y2 = y2 := wrap_small r2 (by omega)
  have k0 := (B1 0 _ rfl).1
  have k1 := (B1 1 _ rfl).1
  have k2 := (B1 2 _ rfl).1
  have k3 := (B1 3 _ rfl).1
  have k4 := (B1 4 _ rfl).1
  have d0 := (B2 0 _ rfl).1
  have d1 := (B2 1 _ rfl).1
  have z0 := (B2 0 _ rfl).2
  have z1 := (B2 1 _ rfl).2
  clear h
  have pn : ¬ p = 0 := by omega
  have pp : ¬ (p : Int) = 0 := by omega
  have pp' : ((p : Int) == 0) = false := by simp; omega
  have pp'' : ((p : Int) != 0) = true := by simp; omega
  obtain ⟨Y2, hY2⟩ : ∃ Y2, y * y = Y2 := ⟨_, rfl⟩
  obtain ⟨g1, g2⟩ := mulBd yb0 (show y ≤ 1048576 by omega) yb0 (show y ≤ 1048576 by omega)
  rw [hY2] at g1 g2
  have rY : IntKind.i64.wrap (y * y) = Y2 := by rw [hY2, IntKind.wrap_i64]; omega
  have rY' : wrap64 (y * y) = Y2 := by rw [hY2]; unfold wrap64; omega
  obtain ⟨Q, hQ⟩ : ∃ Q, Y2 % (p : Int) = Q := ⟨_, rfl⟩
  have hQ' : Int.tmod Y2 (p : Int) = Q := by rw [Int.tmod_eq_emod_of_nonneg g1]; exact hQ
  have Q0 : 0 ≤ Q := by rw [← hQ]; exact Int.emod_nonneg _ (by omega)
  have Q1 : Q < p := by rw [← hQ]; exact Int.emod_lt_of_pos _ (by omega)
  have hnle : ¬ (p : Int) ≤ y := by omega
  go_wp2
  clear hcl w3 ht' k0 k1 k2 k3 k4 d0 d1 z0 z1 r0 s0 r1 s1 r2 s2 ht
  obtain ⟨A1, hA1⟩ : ∃ A1, Q - 1 = A1 := ⟨_, rfl⟩
  have rA : IntKind.i64.wrap (Q - 1) = A1 := by rw [IntKind.wrap_i64]; omega
  have rA' : wrap64 (Q - 1) = A1 := by unfold wrap64; omega
  obtain ⟨A2, hA2⟩ : ∃ A2, A1 % (p : Int) = A2 := ⟨_, rfl⟩
  have A20 : 0 ≤ A2 := by rw [← hA2]; exact Int.emod_nonneg _ (by omega)
  have A21 : A2 < p := by rw [← hA2]; exact Int.emod_lt_of_pos _ (by omega)
  obtain ⟨u1, u2⟩ := mulBd (show 0 ≤ D by omega) (show D ≤ 1048576 by omega) Q0 (show Q ≤ 1048576 by omega)
  have rD : IntKind.i64.wrap (D * Q) = D * Q := by rw [IntKind.wrap_i64]; omega
  have rD' : wrap64 (D * Q) = D * Q := by unfold wrap64; omega
  obtain ⟨G, hG⟩ : ∃ G, 1 + D * Q = G := ⟨_, rfl⟩
  have rG : IntKind.i64.wrap (1 + D * Q) = G := by rw [IntKind.wrap_i64]; omega
  have rG' : wrap64 (1 + D * Q) = G := by unfold wrap64; omega
  obtain ⟨I, hI⟩ : ∃ I, iv p G = I := ⟨_, rfl⟩
  have I0 : 0 ≤ I ∧ I < p := by rw [← hI]; exact iv_range (by omega) G
  obtain ⟨v1, v2⟩ := mulBd A20 (show A2 ≤ 1048576 by omega) I0.1 (show I ≤ 1048576 by omega)
  have rM : IntKind.i64.wrap (A2 * I) = A2 * I := by rw [IntKind.wrap_i64]; omega
  have rM' : wrap64 (A2 * I) = A2 * I := by unfold wrap64; omega
  have hWE : wE p D y = A2 * I % p := by unfold wE; rw [hY2, hQ, hA1, hA2, hG, hI]
  have wb0 : 0 ≤ wE p D y := by rw [hWE]; exact Int.emod_nonneg _ (by omega)
  have wb1 : wE p D y < p := by rw [hWE]; exact Int.emod_lt_of_pos _ (by omega)
  obtain ⟨wn, hwn⟩ : ∃ wn : Nat, (wE p D y).toNat = wn := ⟨_, rfl⟩
  have hwi : (wn : Int) = wE p D y := by omega
  have hwp : wn < p := by omega
  have rR : A2 * I % p = (wn : Int) := by rw [hwi, hWE]
  have rR' : Int.tmod (A2 * I) p = (wn : Int) := by rw [Int.tmod_eq_emod_of_nonneg v1]; exact rR
  have rN : IntKind.i64.wrap (wn : Int) = (wn : Int) := by rw [IntKind.wrap_i64]; omega
  have rN' : wrap64 (wn : Int) = (wn : Int) := by unfold wrap64; omega
  have HL : Hid (∀ w : World, Calls Tryd.prog 114 #[.int .i64 A1, .int .i64 (p : Int)] w fun r w' => r = .returned (.int .i64 A2) ∧ Ext w w') := fun w => (l2Left_any A1 p w (by omega) (by omega) (by omega) (by omega)).mono fun r w' q => ⟨by rw [q.1, hA2], q.2 ▸ Ext.refl _⟩
  have HI : Hid (∀ w : World, Calls Tryd.prog 115 #[.int .i64 G, .int .i64 (p : Int)] w fun r w' => r = .returned (.int .i64 I) ∧ Ext w w') := fun w => by
    have := l2Inv_ext G p w (by omega) (by omega) hpr (by omega) (by omega)
    rwa [hI] at this
  clear hA1 hA2 hG hI hWE hwi wb0 wb1 u1 u2 v1 v2 hY2 g1 g2 hQ hQ' rY rY' I0 A20 A21 Q0 Q1
  obtain ⟨X, hX⟩ : ∃ X : Nat → Prop, X = fun _ => False := ⟨_, rfl⟩
  have x0 : ∀ k, k < w2.heap.size → ¬ X k := fun k h => by rw [hX]; exact fun e => e
  clear hX
  have k0 := cell_reC (B1 0 _ rfl).1 (x0 _ (by first | omega | (simp only; omega)))
  have k1 := cell_reC (B1 1 _ rfl).1 (x0 _ (by first | omega | (simp only; omega)))
  have k2 := cell_reC (B1 2 _ rfl).1 (x0 _ (by first | omega | (simp only; omega)))
  have k3 := cell_reC (B1 3 _ rfl).1 (x0 _ (by first | omega | (simp only; omega)))
  have k4 := cell_reC (B1 4 _ rfl).1 (x0 _ (by first | omega | (simp only; omega)))
  refine anyK_begin X 18 rfl (by kernel_rfl) ?_
  refine anyK_take 0 18 0 rfl (by decide) (by kernel_rfl) (fun _ _ d _ _ h => by cases d <;> exact h) ?_
  repeat (refine headC_step (fun K hK => ?_); go_simp; first | (refine hK _ ?_; clear hK K) | (apply Exists.intro; refine ⟨fun _ => ?_, hK _ ?_⟩; (first | (go_at_call 114; exact Calls.re_of (HL.out _)) | (go_at_call 115; exact Calls.re_of (HI.out _))); clear hK K))
  refine headC_nil ?_
  clear k0 k1 k2 k3 k4 rA rA' rD rD' rG rG' rM rM' rR rR' rN rN' HL HI
  refine anyK_done (by kernel_rfl) ?_ 0
  intro w3 h3
  clear x0 X
  replace B1 := B1.ext h3 (by omega)
  replace B2 := B2.ext h3 (by omega)
  replace hE := hE.trans h3
  have hz3 : w.heap.size + 2 ≤ w3.heap.size := Nat.le_trans hz2 (Below.size h3)
  clear h3 hz2
  obtain ⟨E, HEE⟩ : ∃ E, Hid ((p + 3) / 8 = E) := ⟨_, rfl⟩
  obtain ⟨rP, rP', rE, rE', Eb⟩ := eighth p E hpM HEE.out
  obtain ⟨x1, hx1⟩ : ∃ x1, wn ^ E % p = x1 := ⟨_, rfl⟩
  have x1b : x1 < p := by rw [← hx1]; exact Nat.mod_lt _ (by omega)
  have HP : Hid (∀ w : World, Calls Tryd.prog 113 #[.int .i64 (wn : Int), .int .i64 (E : Int), .int .i64 (p : Int)] w fun r w' => r = .returned (.int .i64 (x1 : Int)) ∧ Ext w w') := fun w => by
    have := l2Pow_ext wn E p w (by omega) (by omega) (by omega) (by omega)
    rwa [hx1] at this
  have Hx1 := hide hx1
  have Hwn := hide hwn
  clear hx1 hwn
  have k0 := (B1 0 _ rfl).1
  have k1 := (B1 1 _ rfl).1
  have k2 := (B1 2 _ rfl).1
  have k3 := (B1 3 _ rfl).1
  have k4 := (B1 4 _ rfl).1
  go_wp2_with fail
  refine (HP.out _).mono ?_
  rintro r w4 ⟨rfl, h4⟩
  clear k0 k1 k2 k3 k4 rP rP' rE rE' HP
  replace B1 := B1.ext h4 (by omega)
  replace B2 := B2.ext h4 (by omega)
  replace hE := hE.trans h4
  have hz4 : w.heap.size + 2 ≤ w4.heap.size := Nat.le_trans hz3 (Below.size h4)
  clear h4 hz3
  have k0 := (B1 0 _ rfl).1
  have k1 := (B1 1 _ rfl).1
  have k2 := (B1 2 _ rfl).1
  have k3 := (B1 3 _ rfl).1
  have k4 := (B1 4 _ rfl).1
  have d0 := (B2 0 _ rfl).1
  have d1 := (B2 1 _ rfl).1
  have z0 := (B2 0 _ rfl).2
  have z1 := (B2 1 _ rfl).2
  obtain ⟨g1, g2⟩ := mulBd (show (0 : Int) ≤ x1 by omega) (show (x1 : Int) ≤ 1048576 by omega) (show (0 : Int) ≤ x1 by omega) (show (x1 : Int) ≤ 1048576 by omega)
  have rX : IntKind.i64.wrap ((x1 : Int) * x1) = (x1 : Int) * x1 := by rw [IntKind.wrap_i64]; omega
  have rX' : wrap64 ((x1 : Int) * x1) = (x1 : Int) * x1 := by unfold wrap64; omega
  have hcast : ((x1 * x1 % p : Nat) : Int) = (x1 : Int) * x1 % p := by rw [Int.natCast_emod, Int.natCast_mul]
  have Hwm : Hid (wn % p = wn) := Nat.mod_eq_of_lt hwp
  by_cases cs : x1 * x1 % p = wn
  · have rS : Int.tmod ((x1 : Int) * x1) p = (wn : Int) := by rw [Int.tmod_eq_emod_of_nonneg g1, ← hcast, cs]
    have rS' : (x1 : Int) * x1 % p = (wn : Int) := by rw [← hcast, cs]
    have hroot : (root5 p (wE p D y).toNat : Int) = (x1 : Int) := by
      rw [Hwn.out]; unfold root5; rw [HEE.out, Hx1.out, Hwm.out, if_pos cs]
    clear hcast cs g1 g2
    have X0 : (0 : Int) ≤ (x1 : Int) := by omega
    by_cases hpar : (x1 : Int) % 2 = t
    · have hXE : xE p D y t = (x1 : Int) := by rw [xE_pos (hroot ▸ hpar), hroot]
      have hxp : Int.tmod (x1 : Int) 2 = t := by rw [Int.tmod_eq_emod_of_nonneg X0]; exact hpar
      have E5 := Ext.alloc w4 (.cells #[.int .i64 (x1 : Int), .int .i64 y] 39)
      have C1 := B1.ext E5 (by omega)
      have C2 := B2.ext E5 (by omega)
      have T2 : Blk (w4.alloc (.cells #[.int .i64 (x1 : Int), .int .i64 y] 39)) w4.heap.size [.int .i64 (x1 : Int), .int .i64 y] := Blk.alloc w4 [.int .i64 (x1 : Int), .int .i64 y] 39
      have hE5 := hE.trans E5
      have j0 := (C1 0 _ rfl).1
      have j1 := (C1 1 _ rfl).1
      have j2 := (C1 2 _ rfl).1
      have j3 := (C1 3 _ rfl).1
      have j4 := (C1 4 _ rfl).1
      have s0 := (T2 0 _ rfl).1
      have s1 := (T2 1 _ rfl).1
      by_cases ho : OnE p D ⟨(x1 : Int), y⟩
      · have HO := hide (l4On_ok Hh.out ⟨(x1 : Int), y⟩ true ⟨fun _ => by simpa using ho, fun _ => rfl⟩)
        have HR : Hid (GivesRdE (p : Int) D L bx cy 3 f (.returned (.tuple #[.agg #[.int .i64 (x1 : Int), .int .i64 y], .bool true]))) := HY.out (x1 : Int) ho hpar
        clear ho
        go_wp2_with fail
        refine (HO.out _).mono ?_
        rintro r w5 ⟨rfl, hw5⟩
        replace C2 := C2.ext hw5 (by simp; omega)
        replace T2 := T2.ext hw5 (by simp)
        replace hE5 := hE5.trans hw5
        clear hw5 j0 j1 j2 j3 j4 s0 s1 k0 k1 k2 k3 k4 C1 B1 B2 hE E5 d0 d1 z0 z1
        generalize w4.heap.size = S at *
        have s0 := (T2 0 _ rfl).1
        have s1 := (T2 1 _ rfl).1
        have d0 := (C2 0 _ rfl).1
        have d1 := (C2 1 _ rfl).1
        have z0 := (C2 0 _ rfl).2
        have z1 := (C2 1 _ rfl).2
        go_wp2
        obtain ⟨W, hW⟩ : ∃ W, putL (w.heap.size + 1) 0 [.int .i64 (x1 : Int), .int .i64 y] w5 = W := ⟨_, rfl⟩
        have BW := Blk.put C2 [.int .i64 (x1 : Int), .int .i64 y] rfl
        rw [hW] at BW
        have hF : Ext w W := hW ▸ hE5.putL (by omega) _
        simp only [putL, Nat.zero_add] at hW
        simp only [hW]
        have q0 := (BW 0 _ rfl).1
        have q1 := (BW 1 _ rfl).1
        refine bodyPost_ret (v := .tuple #[.agg #[.int .i64 (x1 : Int), .int .i64 y], .bool true]) (by simp [results, Tryd.results78, go_sem, q0, q1]) rfl ⟨HR.out, hF⟩
      · have HO := hide (l4On_ok Hh.out ⟨(x1 : Int), y⟩ false ⟨fun q => (by cases q), fun q => absurd (by simpa using q) ho⟩)
        have HR : Hid (GivesRdE (p : Int) D L bx cy 3 f (.returned (.tuple #[.agg #[.int .i64 0, .int .i64 0], .bool false]))) := HN.out (x1 : Int) hXE (fun q => ho q.1)
        clear ho
        go_wp2_with fail
        refine (HO.out _).mono ?_
        rintro r w5 ⟨rfl, hw5⟩
        replace C2 := C2.ext hw5 (by simp; omega)
        replace T2 := T2.ext hw5 (by simp)
        replace hE5 := hE5.trans hw5
        clear hw5 j0 j1 j2 j3 j4 s0 s1 k0 k1 k2 k3 k4 C1 B1 B2 hE E5 d0 d1 z0 z1
        generalize w4.heap.size = S at *
        have s0 := (T2 0 _ rfl).1
        have s1 := (T2 1 _ rfl).1
        have d0 := (C2 0 _ rfl).1
        have d1 := (C2 1 _ rfl).1
        have z0 := (C2 0 _ rfl).2
        have z1 := (C2 1 _ rfl).2
        go_wp2
        obtain ⟨W, hW⟩ : ∃ W, putL (w.heap.size + 1) 0 [.int .i64 0, .int .i64 0] w5 = W := ⟨_, rfl⟩
        have BW := Blk.put C2 [.int .i64 0, .int .i64 0] rfl
        rw [hW] at BW
        have hF : Ext w W := hW ▸ hE5.putL (by omega) _
        simp only [putL, Nat.zero_add] at hW
        simp only [hW]
        have q0 := (BW 0 _ rfl).1
        have q1 := (BW 1 _ rfl).1
        refine bodyPost_ret (v := .tuple #[.agg #[.int .i64 0, .int .i64 0], .bool false]) (by simp [results, Tryd.results78, go_sem, q0, q1]) rfl ⟨HR.out, hF⟩
    · obtain ⟨z, hz0⟩ : ∃ z, (-(x1 : Int)) % (p : Int) = z := ⟨_, rfl⟩
      have hXE : xE p D y t = z := by rw [xE_neg (hroot ▸ hpar), hroot]; exact hz0
      have zb0 : 0 ≤ z := by rw [← hz0]; exact Int.emod_nonneg _ (by omega)
      obtain ⟨xo, hxo⟩ : ∃ xo, (x1 : Int) % 2 = xo := ⟨_, rfl⟩
      have hxo' : Int.tmod (x1 : Int) 2 = xo := by rw [Int.tmod_eq_emod_of_nonneg X0]; exact hxo
      have hb1 : (xo != t) = true := by rw [← hxo]; simpa using hpar
      have hng : IntKind.i64.wrap (-(x1 : Int)) = -(x1 : Int) := by rw [IntKind.wrap_i64]; omega
      have HL : Hid (∀ w : World, Calls Tryd.prog 114 #[.int .i64 (-(x1 : Int)), .int .i64 (p : Int)] w fun r w' => r = .returned (.int .i64 z) ∧ w' = w) := fun w => by
        have := l2Left_any (-(x1 : Int)) p w (by omega) (by omega) (by omega) (by omega)
        rwa [hz0] at this
      clear hz0 hxo hpar
      go_wp2_with fail
      refine (HL.out _).mono ?_
      rintro r w' ⟨rfl, hw⟩
      obtain rfl := hw.symm
      obtain ⟨xp, hxq⟩ : ∃ xp, z % 2 = xp := ⟨_, rfl⟩
      have hxp : Int.tmod z 2 = xp := by rw [Int.tmod_eq_emod_of_nonneg zb0]; exact hxq
      clear hb1 hxo' hng HL
      have E5 := Ext.alloc w4 (.cells #[.int .i64 z, .int .i64 y] 39)
      have C1 := B1.ext E5 (by omega)
      have C2 := B2.ext E5 (by omega)
      have T2 : Blk (w4.alloc (.cells #[.int .i64 z, .int .i64 y] 39)) w4.heap.size [.int .i64 z, .int .i64 y] := Blk.alloc w4 [.int .i64 z, .int .i64 y] 39
      have hE5 := hE.trans E5
      have j0 := (C1 0 _ rfl).1
      have j1 := (C1 1 _ rfl).1
      have j2 := (C1 2 _ rfl).1
      have j3 := (C1 3 _ rfl).1
      have j4 := (C1 4 _ rfl).1
      have s0 := (T2 0 _ rfl).1
      have s1 := (T2 1 _ rfl).1
      by_cases ho : OnE p D ⟨z, y⟩
      · have HO := hide (l4On_ok Hh.out ⟨z, y⟩ true ⟨fun _ => by simpa using ho, fun _ => rfl⟩)
        by_cases hp2 : xp = t
        · have HR : Hid (GivesRdE (p : Int) D L bx cy 3 f (.returned (.tuple #[.agg #[.int .i64 z, .int .i64 y], .bool true]))) := HY.out z ho (hxq.trans hp2)
          clear ho
          subst hp2
          go_wp2_with fail
          refine (HO.out _).mono ?_
          rintro r w5 ⟨rfl, hw5⟩
          replace C2 := C2.ext hw5 (by simp; omega)
          replace T2 := T2.ext hw5 (by simp)
          replace hE5 := hE5.trans hw5
          clear hw5 j0 j1 j2 j3 j4 s0 s1 k0 k1 k2 k3 k4 C1 B1 B2 hE E5 d0 d1 z0 z1
          generalize w4.heap.size = S at *
          have s0 := (T2 0 _ rfl).1
          have s1 := (T2 1 _ rfl).1
          have d0 := (C2 0 _ rfl).1
          have d1 := (C2 1 _ rfl).1
          have z0 := (C2 0 _ rfl).2
          have z1 := (C2 1 _ rfl).2
          go_wp2
          obtain ⟨W, hW⟩ : ∃ W, putL (w.heap.size + 1) 0 [.int .i64 z, .int .i64 y] w5 = W := ⟨_, rfl⟩
          have BW := Blk.put C2 [.int .i64 z, .int .i64 y] rfl
          rw [hW] at BW
          have hF : Ext w W := hW ▸ hE5.putL (by omega) _
          simp only [putL, Nat.zero_add] at hW
          simp only [hW]
          have q0 := (BW 0 _ rfl).1
          have q1 := (BW 1 _ rfl).1
          refine bodyPost_ret (v := .tuple #[.agg #[.int .i64 z, .int .i64 y], .bool true]) (by simp [results, Tryd.results78, go_sem, q0, q1]) rfl ⟨HR.out, hF⟩
        · have HR : Hid (GivesRdE (p : Int) D L bx cy 3 f (.returned (.tuple #[.agg #[.int .i64 0, .int .i64 0], .bool false]))) := HN.out z hXE (fun q => hp2 (hxq.symm.trans q.2))
          have hb2 : (xp != t) = true := by simpa using hp2
          clear ho
          go_wp2_with fail
          refine (HO.out _).mono ?_
          rintro r w5 ⟨rfl, hw5⟩
          replace C2 := C2.ext hw5 (by simp; omega)
          replace T2 := T2.ext hw5 (by simp)
          replace hE5 := hE5.trans hw5
          clear hw5 j0 j1 j2 j3 j4 s0 s1 k0 k1 k2 k3 k4 C1 B1 B2 hE E5 d0 d1 z0 z1
          generalize w4.heap.size = S at *
          have s0 := (T2 0 _ rfl).1
          have s1 := (T2 1 _ rfl).1
          have d0 := (C2 0 _ rfl).1
          have d1 := (C2 1 _ rfl).1
          have z0 := (C2 0 _ rfl).2
          have z1 := (C2 1 _ rfl).2
          go_wp2
          obtain ⟨W, hW⟩ : ∃ W, putL (w.heap.size + 1) 0 [.int .i64 0, .int .i64 0] w5 = W := ⟨_, rfl⟩
          have BW := Blk.put C2 [.int .i64 0, .int .i64 0] rfl
          rw [hW] at BW
          have hF : Ext w W := hW ▸ hE5.putL (by omega) _
          simp only [putL, Nat.zero_add] at hW
          simp only [hW]
          have q0 := (BW 0 _ rfl).1
          have q1 := (BW 1 _ rfl).1
          refine bodyPost_ret (v := .tuple #[.agg #[.int .i64 0, .int .i64 0], .bool false]) (by simp [results, Tryd.results78, go_sem, q0, q1]) rfl ⟨HR.out, hF⟩
      · have HO := hide (l4On_ok Hh.out ⟨z, y⟩ false ⟨fun q => (by cases q), fun q => absurd (by simpa using q) ho⟩)
        have HR : Hid (GivesRdE (p : Int) D L bx cy 3 f (.returned (.tuple #[.agg #[.int .i64 0, .int .i64 0], .bool false]))) := HN.out z hXE (fun q => ho q.1)
        clear ho
        go_wp2_with fail
        refine (HO.out _).mono ?_
        rintro r w5 ⟨rfl, hw5⟩
        replace C2 := C2.ext hw5 (by simp; omega)
        replace T2 := T2.ext hw5 (by simp)
        replace hE5 := hE5.trans hw5
        clear hw5 j0 j1 j2 j3 j4 s0 s1 k0 k1 k2 k3 k4 C1 B1 B2 hE E5 d0 d1 z0 z1
        generalize w4.heap.size = S at *
        have s0 := (T2 0 _ rfl).1
        have s1 := (T2 1 _ rfl).1
        have d0 := (C2 0 _ rfl).1
        have d1 := (C2 1 _ rfl).1
        have z0 := (C2 0 _ rfl).2
        have z1 := (C2 1 _ rfl).2
        go_wp2
        obtain ⟨W, hW⟩ : ∃ W, putL (w.heap.size + 1) 0 [.int .i64 0, .int .i64 0] w5 = W := ⟨_, rfl⟩
        have BW := Blk.put C2 [.int .i64 0, .int .i64 0] rfl
        rw [hW] at BW
        have hF : Ext w W := hW ▸ hE5.putL (by omega) _
        simp only [putL, Nat.zero_add] at hW
        simp only [hW]
        have q0 := (BW 0 _ rfl).1
        have q1 := (BW 1 _ rfl).1
        refine bodyPost_ret (v := .tuple #[.agg #[.int .i64 0, .int .i64 0], .bool false]) (by simp [results, Tryd.results78, go_sem, q0, q1]) rfl ⟨HR.out, hF⟩
  · have hne2 : (((x1 * x1 % p : Nat) : Int) != (wn : Int)) = true := by simp only [bne_iff_ne, ne_eq, Int.natCast_inj]; exact cs
    obtain ⟨s, hs⟩ : ∃ s, ((x1 * x1 % p : Nat) : Int) = s := ⟨_, rfl⟩
    rw [hs] at hcast hne2
    have rS : Int.tmod ((x1 : Int) * x1) p = s := by rw [Int.tmod_eq_emod_of_nonneg g1]; exact hcast.symm
    have rS' : (x1 : Int) * x1 % p = s := hcast.symm
    obtain ⟨F, HFF⟩ : ∃ F, Hid ((p - 1) / 4 = F) := ⟨_, rfl⟩
    obtain ⟨r2', hr2⟩ : ∃ r2, 2 ^ F % p = r2 := ⟨_, rfl⟩
    have r2b : r2' < p := by rw [← hr2]; exact Nat.mod_lt _ (by omega)
    obtain ⟨x2, hx2⟩ : ∃ x2, x1 * r2' % p = x2 := ⟨_, rfl⟩
    have x2b : x2 < p := by rw [← hx2]; exact Nat.mod_lt _ (by omega)
    have hroot : (root5 p (wE p D y).toNat : Int) = (x2 : Int) := by
      rw [Hwn.out]; unfold root5; rw [HEE.out, Hx1.out, Hwm.out, if_neg cs, HFF.out, hr2, hx2]
    obtain ⟨rP, rP', rE, rE', Fb⟩ := fourth p F (by omega) hpM HFF.out
    have HP : Hid (∀ w : World, Calls Tryd.prog 113 #[.int .i64 2, .int .i64 (F : Int), .int .i64 (p : Int)] w fun r w' => r = .returned (.int .i64 (r2' : Int)) ∧ Ext w w') := fun w => by
      have := l2Pow_ext 2 F p w (by omega) (by omega) (by omega) (by omega)
      rwa [hr2] at this
    obtain ⟨j1, j2⟩ := mulBd (show (0 : Int) ≤ x1 by omega) (show (x1 : Int) ≤ 1048576 by omega) (show (0 : Int) ≤ r2' by omega) (show (r2' : Int) ≤ 1048576 by omega)
    have rU : IntKind.i64.wrap ((x1 : Int) * r2') = (x1 : Int) * r2' := by rw [IntKind.wrap_i64]; omega
    have rU' : wrap64 ((x1 : Int) * r2') = (x1 : Int) * r2' := by unfold wrap64; omega
    have rV' : (x1 : Int) * r2' % p = (x2 : Int) := by rw [← hx2, Int.natCast_emod, Int.natCast_mul]
    have rV : Int.tmod ((x1 : Int) * r2') p = (x2 : Int) := by rw [Int.tmod_eq_emod_of_nonneg j1]; exact rV'
    have rN : IntKind.i64.wrap (x2 : Int) = (x2 : Int) := by rw [IntKind.wrap_i64]; omega
    have rN' : wrap64 (x2 : Int) = (x2 : Int) := by unfold wrap64; omega
    have rO : IntKind.i64.wrap (F : Int) = (F : Int) := by rw [IntKind.wrap_i64]; omega
    have rO' : wrap64 (F : Int) = (F : Int) := by unfold wrap64; omega
    clear hcast cs g1 g2 hs hr2 hx2 j1 j2
    go_wp2
    clear k0 k1 k2 k3 k4 d0 d1 z0 z1 rS rS' rX rX' hne2
    obtain ⟨X, hX⟩ : ∃ X : Nat → Prop, X = fun _ => False := ⟨_, rfl⟩
    have x0 : ∀ k, k < w4.heap.size → ¬ X k := fun k h => by rw [hX]; exact fun e => e
    clear hX
    have k0 := cell_reC (B1 0 _ rfl).1 (x0 _ (by first | omega | (simp only; omega)))
    have k1 := cell_reC (B1 1 _ rfl).1 (x0 _ (by first | omega | (simp only; omega)))
    have k2 := cell_reC (B1 2 _ rfl).1 (x0 _ (by first | omega | (simp only; omega)))
    have k3 := cell_reC (B1 3 _ rfl).1 (x0 _ (by first | omega | (simp only; omega)))
    have k4 := cell_reC (B1 4 _ rfl).1 (x0 _ (by first | omega | (simp only; omega)))
    refine anyK_begin X 13 rfl (by kernel_rfl) ?_
    refine anyK_take 0 13 0 rfl (by decide) (by kernel_rfl) (fun _ _ d _ _ h => by cases d <;> exact h) ?_
    repeat (refine headC_step (fun K hK => ?_); go_simp; first | (refine hK _ ?_; clear hK K) | (apply Exists.intro; refine ⟨fun _ => ?_, hK _ ?_⟩; ((go_at_call 113; exact Calls.re_of (HP.out _))); clear hK K))
    refine headC_nil ?_
    clear k0 k1 k2 k3 k4 rU rU' rV rV' rP rP' rE rE' rN rN' rO rO' HP
    refine anyK_done (by kernel_rfl) ?_ 0
    intro w6 h6
    clear x0 X
    replace B1 := B1.ext h6 (by omega)
    replace B2 := B2.ext h6 (by omega)
    replace hE := hE.trans h6
    have hz6 : w.heap.size + 2 ≤ w6.heap.size := Nat.le_trans hz4 (Below.size h6)
    clear h6 hz4
    have k0 := (B1 0 _ rfl).1
    have k1 := (B1 1 _ rfl).1
    have k2 := (B1 2 _ rfl).1
    have k3 := (B1 3 _ rfl).1
    have k4 := (B1 4 _ rfl).1
    have d0 := (B2 0 _ rfl).1
    have d1 := (B2 1 _ rfl).1
    have z0 := (B2 0 _ rfl).2
    have z1 := (B2 1 _ rfl).2
    have X0 : (0 : Int) ≤ (x2 : Int) := by omega
    by_cases hpar : (x2 : Int) % 2 = t
    · have hXE : xE p D y t = (x2 : Int) := by rw [xE_pos (hroot ▸ hpar), hroot]
      have hxp : Int.tmod (x2 : Int) 2 = t := by rw [Int.tmod_eq_emod_of_nonneg X0]; exact hpar
      have E5 := Ext.alloc w6 (.cells #[.int .i64 (x2 : Int), .int .i64 y] 39)
      have C1 := B1.ext E5 (by omega)
      have C2 := B2.ext E5 (by omega)
      have T2 : Blk (w6.alloc (.cells #[.int .i64 (x2 : Int), .int .i64 y] 39)) w6.heap.size [.int .i64 (x2 : Int), .int .i64 y] := Blk.alloc w6 [.int .i64 (x2 : Int), .int .i64 y] 39
      have hE5 := hE.trans E5
      have j0 := (C1 0 _ rfl).1
      have j1 := (C1 1 _ rfl).1
      have j2 := (C1 2 _ rfl).1
      have j3 := (C1 3 _ rfl).1
      have j4 := (C1 4 _ rfl).1
      have s0 := (T2 0 _ rfl).1
      have s1 := (T2 1 _ rfl).1
      by_cases ho : OnE p D ⟨(x2 : Int), y⟩
      · have HO := hide (l4On_ok Hh.out ⟨(x2 : Int), y⟩ true ⟨fun _ => by simpa using ho, fun _ => rfl⟩)
        have HR : Hid (GivesRdE (p : Int) D L bx cy 3 f (.returned (.tuple #[.agg #[.int .i64 (x2 : Int), .int .i64 y], .bool true]))) := HY.out (x2 : Int) ho hpar
        clear ho
        go_wp2_with fail
        refine (HO.out _).mono ?_
        rintro r w5 ⟨rfl, hw5⟩
        replace C2 := C2.ext hw5 (by simp; omega)
        replace T2 := T2.ext hw5 (by simp)
        replace hE5 := hE5.trans hw5
        clear hw5 j0 j1 j2 j3 j4 s0 s1 k0 k1 k2 k3 k4 C1 B1 B2 hE E5 d0 d1 z0 z1
        generalize w6.heap.size = S at *
        have s0 := (T2 0 _ rfl).1
        have s1 := (T2 1 _ rfl).1
        have d0 := (C2 0 _ rfl).1
        have d1 := (C2 1 _ rfl).1
        have z0 := (C2 0 _ rfl).2
        have z1 := (C2 1 _ rfl).2
        go_wp2
        obtain ⟨W, hW⟩ : ∃ W, putL (w.heap.size + 1) 0 [.int .i64 (x2 : Int), .int .i64 y] w5 = W := ⟨_, rfl⟩
        have BW := Blk.put C2 [.int .i64 (x2 : Int), .int .i64 y] rfl
        rw [hW] at BW
        have hF : Ext w W := hW ▸ hE5.putL (by omega) _
        simp only [putL, Nat.zero_add] at hW
        simp only [hW]
        have q0 := (BW 0 _ rfl).1
        have q1 := (BW 1 _ rfl).1
        refine bodyPost_ret (v := .tuple #[.agg #[.int .i64 (x2 : Int), .int .i64 y], .bool true]) (by simp [results, Tryd.results78, go_sem, q0, q1]) rfl ⟨HR.out, hF⟩
      · have HO := hide (l4On_ok Hh.out ⟨(x2 : Int), y⟩ false ⟨fun q => (by cases q), fun q => absurd (by simpa using q) ho⟩)
        have HR : Hid (GivesRdE (p : Int) D L bx cy 3 f (.returned (.tuple #[.agg #[.int .i64 0, .int .i64 0], .bool false]))) := HN.out (x2 : Int) hXE (fun q => ho q.1)
        clear ho
        go_wp2_with fail
        refine (HO.out _).mono ?_
        rintro r w5 ⟨rfl, hw5⟩
        replace C2 := C2.ext hw5 (by simp; omega)
        replace T2 := T2.ext hw5 (by simp)
        replace hE5 := hE5.trans hw5
        clear hw5 j0 j1 j2 j3 j4 s0 s1 k0 k1 k2 k3 k4 C1 B1 B2 hE E5 d0 d1 z0 z1
        generalize w6.heap.size = S at *
        have s0 := (T2 0 _ rfl).1
        have s1 := (T2 1 _ rfl).1
        have d0 := (C2 0 _ rfl).1
        have d1 := (C2 1 _ rfl).1
        have z0 := (C2 0 _ rfl).2
        have z1 := (C2 1 _ rfl).2
        go_wp2
        obtain ⟨W, hW⟩ : ∃ W, putL (w.heap.size + 1) 0 [.int .i64 0, .int .i64 0] w5 = W := ⟨_, rfl⟩
        have BW := Blk.put C2 [.int .i64 0, .int .i64 0] rfl
        rw [hW] at BW
        have hF : Ext w W := hW ▸ hE5.putL (by omega) _
        simp only [putL, Nat.zero_add] at hW
        simp only [hW]
        have q0 := (BW 0 _ rfl).1
        have q1 := (BW 1 _ rfl).1
        refine bodyPost_ret (v := .tuple #[.agg #[.int .i64 0, .int .i64 0], .bool false]) (by simp [results, Tryd.results78, go_sem, q0, q1]) rfl ⟨HR.out, hF⟩
    · obtain ⟨z, hz0⟩ : ∃ z, (-(x2 : Int)) % (p : Int) = z := ⟨_, rfl⟩
      have hXE : xE p D y t = z := by rw [xE_neg (hroot ▸ hpar), hroot]; exact hz0
      have zb0 : 0 ≤ z := by rw [← hz0]; exact Int.emod_nonneg _ (by omega)
      obtain ⟨xo, hxo⟩ : ∃ xo, (x2 : Int) % 2 = xo := ⟨_, rfl⟩
      have hxo' : Int.tmod (x2 : Int) 2 = xo := by rw [Int.tmod_eq_emod_of_nonneg X0]; exact hxo
      have hb1 : (xo != t) = true := by rw [← hxo]; simpa using hpar
      have hng : IntKind.i64.wrap (-(x2 : Int)) = -(x2 : Int) := by rw [IntKind.wrap_i64]; omega
      have HL : Hid (∀ w : World, Calls Tryd.prog 114 #[.int .i64 (-(x2 : Int)), .int .i64 (p : Int)] w fun r w' => r = .returned (.int .i64 z) ∧ w' = w) := fun w => by
        have := l2Left_any (-(x2 : Int)) p w (by omega) (by omega) (by omega) (by omega)
        rwa [hz0] at this
      clear hz0 hxo hpar
      go_wp2_with fail
      refine (HL.out _).mono ?_
      rintro r w' ⟨rfl, hw⟩
      obtain rfl := hw.symm
      obtain ⟨xp, hxq⟩ : ∃ xp, z % 2 = xp := ⟨_, rfl⟩
      have hxp : Int.tmod z 2 = xp := by rw [Int.tmod_eq_emod_of_nonneg zb0]; exact hxq
      clear hb1 hxo' hng HL
      have E5 := Ext.alloc w6 (.cells #[.int .i64 z, .int .i64 y] 39)
      have C1 := B1.ext E5 (by omega)
      have C2 := B2.ext E5 (by omega)
      have T2 : Blk (w6.alloc (.cells #[.int .i64 z, .int .i64 y] 39)) w6.heap.size [.int .i64 z, .int .i64 y] := Blk.alloc w6 [.int .i64 z, .int .i64 y] 39
      have hE5 := hE.trans E5
      have j0 := (C1 0 _ rfl).1
      have j1 := (C1 1 _ rfl).1
      have j2 := (C1 2 _ rfl).1
      have j3 := (C1 3 _ rfl).1
      have j4 := (C1 4 _ rfl).1
      have s0 := (T2 0 _ rfl).1
      have s1 := (T2 1 _ rfl).1
      by_cases ho : OnE p D ⟨z, y⟩
      · have HO := hide (l4On_ok Hh.out ⟨z, y⟩ true ⟨fun _ => by simpa using ho, fun _ => rfl⟩)
        by_cases hp2 : xp = t
        · have HR : Hid (GivesRdE (p : Int) D L bx cy 3 f (.returned (.tuple #[.agg #[.int .i64 z, .int .i64 y], .bool true]))) := HY.out z ho (hxq.trans hp2)
          clear ho
          subst hp2
          go_wp2_with fail
          refine (HO.out _).mono ?_
          rintro r w5 ⟨rfl, hw5⟩
          replace C2 := C2.ext hw5 (by simp; omega)
          replace T2 := T2.ext hw5 (by simp)
          replace hE5 := hE5.trans hw5
          clear hw5 j0 j1 j2 j3 j4 s0 s1 k0 k1 k2 k3 k4 C1 B1 B2 hE E5 d0 d1 z0 z1
          generalize w6.heap.size = S at *
          have s0 := (T2 0 _ rfl).1
          have s1 := (T2 1 _ rfl).1
          have d0 := (C2 0 _ rfl).1
          have d1 := (C2 1 _ rfl).1
          have z0 := (C2 0 _ rfl).2
          have z1 := (C2 1 _ rfl).2
          go_wp2
          obtain ⟨W, hW⟩ : ∃ W, putL (w.heap.size + 1) 0 [.int .i64 z, .int .i64 y] w5 = W := ⟨_, rfl⟩
          have BW := Blk.put C2 [.int .i64 z, .int .i64 y] rfl
          rw [hW] at BW
          have hF : Ext w W := hW ▸ hE5.putL (by omega) _
          simp only [putL, Nat.zero_add] at hW
          simp only [hW]
          have q0 := (BW 0 _ rfl).1
          have q1 := (BW 1 _ rfl).1
          refine bodyPost_ret (v := .tuple #[.agg #[.int .i64 z, .int .i64 y], .bool true]) (by simp [results, Tryd.results78, go_sem, q0, q1]) rfl ⟨HR.out, hF⟩
        · have HR : Hid (GivesRdE (p : Int) D L bx cy 3 f (.returned (.tuple #[.agg #[.int .i64 0, .int .i64 0], .bool false]))) := HN.out z hXE (fun q => hp2 (hxq.symm.trans q.2))
          have hb2 : (xp != t) = true := by simpa using hp2
          clear ho
          go_wp2_with fail
          refine (HO.out _).mono ?_
          rintro r w5 ⟨rfl, hw5⟩
          replace C2 := C2.ext hw5 (by simp; omega)
          replace T2 := T2.ext hw5 (by simp)
          replace hE5 := hE5.trans hw5
          clear hw5 j0 j1 j2 j3 j4 s0 s1 k0 k1 k2 k3 k4 C1 B1 B2 hE E5 d0 d1 z0 z1
          generalize w6.heap.size = S at *
          have s0 := (T2 0 _ rfl).1
          have s1 := (T2 1 _ rfl).1
          have d0 := (C2 0 _ rfl).1
          have d1 := (C2 1 _ rfl).1
          have z0 := (C2 0 _ rfl).2
          have z1 := (C2 1 _ rfl).2
          go_wp2
          obtain ⟨W, hW⟩ : ∃ W, putL (w.heap.size + 1) 0 [.int .i64 0, .int .i64 0] w5 = W := ⟨_, rfl⟩
          have BW := Blk.put C2 [.int .i64 0, .int .i64 0] rfl
          rw [hW] at BW
          have hF : Ext w W := hW ▸ hE5.putL (by omega) _
          simp only [putL, Nat.zero_add] at hW
          simp only [hW]
          have q0 := (BW 0 _ rfl).1
          have q1 := (BW 1 _ rfl).1
          refine bodyPost_ret (v := .tuple #[.agg #[.int .i64 0, .int .i64 0], .bool false]) (by simp [results, Tryd.results78, go_sem, q0, q1]) rfl ⟨HR.out, hF⟩
      · have HO := hide (l4On_ok Hh.out ⟨z, y⟩ false ⟨fun q => (by cases q), fun q => absurd (by simpa using q) ho⟩)
        have HR : Hid (GivesRdE (p : Int) D L bx cy 3 f (.returned (.tuple #[.agg #[.int .i64 0, .int .i64 0], .bool false]))) := HN.out z hXE (fun q => ho q.1)
        clear ho
        go_wp2_with fail
        refine (HO.out _).mono ?_
        rintro r w5 ⟨rfl, hw5⟩
        replace C2 := C2.ext hw5 (by simp; omega)
        replace T2 := T2.ext hw5 (by simp)
        replace hE5 := hE5.trans hw5
        clear hw5 j0 j1 j2 j3 j4 s0 s1 k0 k1 k2 k3 k4 C1 B1 B2 hE E5 d0 d1 z0 z1
        generalize w6.heap.size = S at *
        have s0 := (T2 0 _ rfl).1
        have s1 := (T2 1 _ rfl).1
        have d0 := (C2 0 _ rfl).1
        have d1 := (C2 1 _ rfl).1
        have z0 := (C2 0 _ rfl).2
        have z1 := (C2 1 _ rfl).2
        go_wp2
        obtain ⟨W, hW⟩ : ∃ W, putL (w.heap.size + 1) 0 [.int .i64 0, .int .i64 0] w5 = W := ⟨_, rfl⟩
        have BW := Blk.put C2 [.int .i64 0, .int .i64 0] rfl
        rw [hW] at BW
        have hF : Ext w W := hW ▸ hE5.putL (by omega) _
        simp only [putL, Nat.zero_add] at hW
        simp only [hW]
        have q0 := (BW 0 _ rfl).1
        have q1 := (BW 1 _ rfl).1
        refine bodyPost_ret (v := .tuple #[.agg #[.int .i64 0, .int .i64 0], .bool false]) (by simp [results, Tryd.results78, go_sem, q0, q1]) rfl ⟨HR.out, hF⟩

theorem l4Read_any (P D L bx cy : Int) (h : EvOk P D L bx cy) (a : Option Addr) (b off n cap : Nat) (f : Nat → Int) (w : World) (hs : BSeg w a b off n f) (hr : ∀ i, i < n → 0 ≤ f i ∧ f i ≤ 255) :
    Calls Tryd.prog 78 #[.agg #[.int .i64 P, .int .i64 D, .int .i64 L, .int .i64 bx, .int .i64 cy], .slice a n cap] w fun r w' => GivesRdE P D L bx cy n f r ∧ Ext w w' := by
  have h13 := h.p13
  obtain ⟨p, rfl⟩ := Int.eq_ofNat_of_zero_le (show 0 ≤ P by omega)
  by_cases hn : n = 3
  · by_cases hy : f 0 + f 1 * 256 + f 2 % 128 * 65536 < (p : Int)
    · exact l4Read_main p D L bx cy h a b off n cap f _ _ hn rfl rfl hy w hs hr
    · exact l4Read_big p D L bx cy h a b off n cap f _ _ hn rfl rfl (by omega) w hs hr
  · exact l4Read_len p D L bx cy h a b off n cap f hn w hs hr

theorem optRdE_some (P D L bx cy : Int) (n : Nat) (f : Nat → Int) : ∃ c ok, OptRdE P D L bx cy n f c ok := by
  by_cases h : EvOk P D L bx cy ∧ ∃ c, ReadsE P.toNat D n f c
  · obtain ⟨v, c, hc⟩ := h
    exact ⟨c, true, Or.inl ⟨rfl, v, hc⟩⟩
  · exact ⟨⟨0, 0⟩, false, Or.inr ⟨rfl, fun c v hc => h ⟨v, c, hc⟩, rfl⟩⟩

set_option maxHeartbeats 1600000 in
set_option maxRecDepth 100000 in
theorem specEdRead_any (P D L bx cy : Int) (a : Option Addr) (b off n cap : Nat) (f : Nat → Int) (w : World) (hP1 : P ≤ 9223372036854775807) (hL1 : L ≤ 9223372036854775807) (hs : BSeg w a b off n f) (hr : ∀ i, i < n → 0 ≤ f i ∧ f i ≤ 255) :
    Calls Tryd.prog 36 #[.agg #[.int .i64 P, .int .i64 D, .int .i64 L, .int .i64 bx, .int .i64 cy], .slice a n cap] w fun r w' => GivesRdE P D L bx cy n f r ∧ Ext w w' := by
  obtain ⟨ok, hok⟩ : ∃ ok : Bool, ok = true ↔ EvOk P D L bx cy := by
    by_cases h : EvOk P D L bx cy
    · exact ⟨true, fun _ => h, fun _ => rfl⟩
    · exact ⟨false, fun e => (by cases e), fun e => absurd e h⟩
  have HS := hide (specEdOk_at P D L bx cy hP1 hL1 ok hok)
  go_enter Tryd.func36, Tryd.ntmps36
  go_wp2_with fail
  refine (HS.out _).mono ?_
  rintro r w1 ⟨rfl, hw1⟩
  obtain ⟨B1, B2, hE, hz⟩ := box2 w [.int .i64 P, .int .i64 D, .int .i64 L, .int .i64 bx, .int .i64 cy] [.int .i64 0, .int .i64 0] 37 39 hw1
  clear hw1 HS
  cases ok
  · have HN : Hid (GivesRdE P D L bx cy n f (.returned (.tuple #[.agg #[.int .i64 0, .int .i64 0], .bool false]))) := givesRdE_no (fun c v => absurd (hok.2 v) (by simp))
    clear hok hs hr
    have d0 := (B2 0 _ rfl).1
    have d1 := (B2 1 _ rfl).1
    have z0 := (B2 0 _ rfl).2
    have z1 := (B2 1 _ rfl).2
    go_wp2
    obtain ⟨W, hW⟩ : ∃ W, putL (w.heap.size + 1) 0 [.int .i64 0, .int .i64 0] w1 = W := ⟨_, rfl⟩
    have BW := Blk.put B2 [.int .i64 0, .int .i64 0] rfl
    rw [hW] at BW
    have hF : Ext w W := hW ▸ hE.putL (by omega) _
    simp only [putL, Nat.zero_add] at hW
    simp only [hW]
    have q0 := (BW 0 _ rfl).1
    have q1 := (BW 1 _ rfl).1
    refine bodyPost_ret (v := .tuple #[.agg #[.int .i64 0, .int .i64 0], .bool false]) (by simp [results, Tryd.results36, go_sem, q0, q1]) rfl ⟨HN.out, hF⟩
  · have HL := hide (l4Read_any P D L bx cy (hok.1 rfl) a b off n cap f w1 (hs.of_all hE) hr)
    clear hok hs hr
    have k0 := (B1 0 _ rfl).1
    have k1 := (B1 1 _ rfl).1
    have k2 := (B1 2 _ rfl).1
    have k3 := (B1 3 _ rfl).1
    have k4 := (B1 4 _ rfl).1
    go_wp2_with fail
    refine HL.out.mono ?_
    rintro r w2 ⟨⟨c, ok, rfl, hA⟩, hw2⟩
    have HR : Hid (GivesRdE P D L bx cy n f (.returned (.tuple #[.agg #[.int .i64 c.x, .int .i64 c.y], .bool ok]))) := ⟨c, ok, rfl, hA⟩
    replace B2 := B2.ext hw2 (by omega)
    replace hE := hE.trans hw2
    clear hA hw2 HL k0 k1 k2 k3 k4 B1
    have d0 := (B2 0 _ rfl).1
    have d1 := (B2 1 _ rfl).1
    have z0 := (B2 0 _ rfl).2
    have z1 := (B2 1 _ rfl).2
    go_wp2
    obtain ⟨W, hW⟩ : ∃ W, putL (w.heap.size + 1) 0 [.int .i64 c.x, .int .i64 c.y] w2 = W := ⟨_, rfl⟩
    have BW := Blk.put B2 [.int .i64 c.x, .int .i64 c.y] rfl
    rw [hW] at BW
    have hF : Ext w W := hW ▸ hE.putL (by omega) _
    simp only [putL, Nat.zero_add] at hW
    simp only [hW]
    have q0 := (BW 0 _ rfl).1
    have q1 := (BW 1 _ rfl).1
    refine bodyPost_ret (v := .tuple #[.agg #[.int .i64 c.x, .int .i64 c.y], .bool ok]) (by simp [results, Tryd.results36, go_sem, q0, q1]) rfl ⟨HR.out, hF⟩

end Go.Proofs.YtcfpmillbdkpcaaDoor
