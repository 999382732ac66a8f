/- Walks: the face of the program: what recovers, answered, at groups of impl.Pair. Walks: the group of a curve of the program (impl.Pair): sum. Walks: the program's functions over curves (impl.Pair): what is handed to answered, and the face. Walks: the program's functions over curves (impl.Pair): what is handed to answered, and the face. Walks: EdOk of the program. What the program answers over twisted curves: EdAdd, EdMul, EdCofactor, PairOk, EdOk. -/
import Derived.Test.YtcfpmillbdkpcaaDoorFacAll
import Derived.Test.YtcfpmillbdkpcaaDoorEdNum
import Derived.Test.YtcfpmillbdkpcaaDoorGrAll
namespace Go.Proofs.YtcfpmillbdkpcaaDoor
set_option linter.unusedVariables false
open Go.RowKit

theorem catchGPr_idle (w : World) :
    CallsD Tryd.prog 100 #[] .returning w fun e u' w' => e = .returned (.tuple #[]) ∧ u' = .returning ∧ w' = w := by
  refine callsD_of_wpS Tryd.func100 rfl fun c₀ cs hu => ?_
  apply wpS_seq
  apply wpS_region
  simp [wpOpsS, go_sem, recoverD, hu, Tryd.ntmps100, Exit.thenS]
  apply wpS_seq
  apply wpS_region
  simp [wpOpsS, go_sem, Exit.thenS]
  refine wpS_cond (t := false) (by simp [Act.eval, Array.replicate]) ?_
  simp only [Bool.false_eq_true, if_false]
  refine wpS_of_wp (wp_skip ?_)
  cases c₀
  simp_all [bodyPostS, results, Tryd.results100]

theorem catchGPr_hit (w : World) :
    CallsD Tryd.prog 100 #[] (.panicking [nrE]) w fun e u' w' => e = .returned (.tuple #[]) ∧ u' = .panicking [{ v := .iface 121 (.agg #[]), recovered := true }] ∧ w' = w := by
  have h1 := ne_nil_nr
  have h2 := ne_nr_nr
  refine callsD_of_wpS Tryd.func100 rfl fun c₀ cs hu => ?_
  apply wpS_seq
  apply wpS_region
  simp [wpOpsS, go_sem, recoverD, hu, nrE, Tryd.ntmps100, Exit.thenS]
  apply wpS_seq
  apply wpS_region
  simp [wpOpsS, go_sem, Exit.thenS, h1, h2]
  refine wpS_cond (t := false) (by simp [Act.eval, Array.replicate]) ?_
  simp only [Bool.false_eq_true, if_false]
  refine wpS_of_wp (wp_skip ?_)
  cases c₀
  simp_all [bodyPostS, results, Tryd.results100]

set_option maxHeartbeats 4000000 in
set_option maxRecDepth 100000 in
theorem answGPr_yes (G : Nat) (hG : ∀ (args : Array Value) (w : World), (callFunc G args).run Tryd.prog w = .ok (.enter G args) w) (P D L bx cy : Int) (w : World)
    (h : ∀ W, Ext w W → Calls Tryd.prog G #[.agg #[.int .i64 P, .int .i64 D, .int .i64 L, .int .i64 bx, .int .i64 cy]] W fun e w' => e = .returned (.agg #[.int .i64 0, .int .i64 1, .int .i64 bx, .int .i64 cy, .func (.func 102) #[.agg #[.int .i64 P, .int .i64 D, .int .i64 L, .int .i64 bx, .int .i64 cy]] #[], .func (.func 103) #[.agg #[.int .i64 P, .int .i64 D, .int .i64 L, .int .i64 bx, .int .i64 cy]] #[], .func (.func 104) #[.agg #[.int .i64 P, .int .i64 D, .int .i64 L, .int .i64 bx, .int .i64 cy]] #[], .func (.func 105) #[.agg #[.int .i64 P, .int .i64 D, .int .i64 L, .int .i64 bx, .int .i64 cy]] #[], .func (.func 106) #[] #[]]) ∧ Ext W w') :
    Calls Tryd.prog 56 #[.func (.func G) #[.agg #[.int .i64 P, .int .i64 D, .int .i64 L, .int .i64 bx, .int .i64 cy]] #[]] w fun e w' => e = .returned (.tuple #[.agg #[.int .i64 0, .int .i64 1, .int .i64 bx, .int .i64 cy, .func (.func 102) #[.agg #[.int .i64 P, .int .i64 D, .int .i64 L, .int .i64 bx, .int .i64 cy]] #[], .func (.func 103) #[.agg #[.int .i64 P, .int .i64 D, .int .i64 L, .int .i64 bx, .int .i64 cy]] #[], .func (.func 104) #[.agg #[.int .i64 P, .int .i64 D, .int .i64 L, .int .i64 bx, .int .i64 cy]] #[], .func (.func 105) #[.agg #[.int .i64 P, .int .i64 D, .int .i64 L, .int .i64 bx, .int .i64 cy]] #[], .func (.func 106) #[] #[]], .bool true]) ∧ Ext w w' := by
  go_enter_defers Tryd.func56, Tryd.ntmps56
  go_wp2_with fail
  refine (h _ (Ext.alloc _ _)).mono ?_
  rintro e w1 ⟨rfl, hw1⟩
  obtain ⟨B1, hE, hz⟩ := box1 w [.int .i64 0, .int .i64 0, .int .i64 0, .int .i64 0, .nilFunc, .nilFunc, .nilFunc, .nilFunc, .nilFunc] 100 hw1
  clear hw1 h hG
  have d0 := (B1 0 _ rfl).1
  have d1 := (B1 1 _ rfl).1
  have d2 := (B1 2 _ rfl).1
  have d3 := (B1 3 _ rfl).1
  have d4 := (B1 4 _ rfl).1
  have d5 := (B1 5 _ rfl).1
  have d6 := (B1 6 _ rfl).1
  have d7 := (B1 7 _ rfl).1
  have d8 := (B1 8 _ rfl).1
  have z0 := (B1 0 _ rfl).2
  have z1 := (B1 1 _ rfl).2
  have z2 := (B1 2 _ rfl).2
  have z3 := (B1 3 _ rfl).2
  have z4 := (B1 4 _ rfl).2
  have z5 := (B1 5 _ rfl).2
  have z6 := (B1 6 _ rfl).2
  have z7 := (B1 7 _ rfl).2
  have z8 := (B1 8 _ rfl).2
  go_wp2
  obtain ⟨W, hW⟩ : ∃ W, putL w.heap.size 0 [.int .i64 0, .int .i64 1, .int .i64 bx, .int .i64 cy, .func (.func 102) #[.agg #[.int .i64 P, .int .i64 D, .int .i64 L, .int .i64 bx, .int .i64 cy]] #[], .func (.func 103) #[.agg #[.int .i64 P, .int .i64 D, .int .i64 L, .int .i64 bx, .int .i64 cy]] #[], .func (.func 104) #[.agg #[.int .i64 P, .int .i64 D, .int .i64 L, .int .i64 bx, .int .i64 cy]] #[], .func (.func 105) #[.agg #[.int .i64 P, .int .i64 D, .int .i64 L, .int .i64 bx, .int .i64 cy]] #[], .func (.func 106) #[] #[]] w1 = W := ⟨_, rfl⟩
  have BW := Blk.put B1 [.int .i64 0, .int .i64 1, .int .i64 bx, .int .i64 cy, .func (.func 102) #[.agg #[.int .i64 P, .int .i64 D, .int .i64 L, .int .i64 bx, .int .i64 cy]] #[], .func (.func 103) #[.agg #[.int .i64 P, .int .i64 D, .int .i64 L, .int .i64 bx, .int .i64 cy]] #[], .func (.func 104) #[.agg #[.int .i64 P, .int .i64 D, .int .i64 L, .int .i64 bx, .int .i64 cy]] #[], .func (.func 105) #[.agg #[.int .i64 P, .int .i64 D, .int .i64 L, .int .i64 bx, .int .i64 cy]] #[], .func (.func 106) #[] #[]] rfl
  rw [hW] at BW
  have hF : Ext w W := hW ▸ hE.putL (by omega) _
  simp only [putL, Nat.zero_add, Nat.reduceAdd] at hW
  simp only [hW]
  have q0 := (BW 0 _ rfl).1
  have q1 := (BW 1 _ rfl).1
  have q2 := (BW 2 _ rfl).1
  have q3 := (BW 3 _ rfl).1
  have q4 := (BW 4 _ rfl).1
  have q5 := (BW 5 _ rfl).1
  have q6 := (BW 6 _ rfl).1
  have q7 := (BW 7 _ rfl).1
  have q8 := (BW 8 _ rfl).1
  clear d0 d1 d2 d3 d4 d5 d6 d7 d8 z0 z1 z2 z3 z4 z5 z6 z7 z8 hW B1
  refine leaves_cons (f := 100) (args := #[]) (by simp) (by simp [go_sem]) ?_
  refine (catchGPr_idle _).mono ?_
  rintro e u' w'' ⟨rfl, rfl, rfl⟩
  simp [Leaves, settle, results, Tryd.results56, go_sem, q0, q1, q2, q3, q4, q5, q6, q7, q8]
  exact hF

set_option maxHeartbeats 4000000 in
set_option maxRecDepth 100000 in
theorem answGPr_no (G : Nat) (hG : ∀ (args : Array Value) (w : World), (callFunc G args).run Tryd.prog w = .ok (.enter G args) w) (P D L bx cy : Int) (w : World)
    (h : ∀ W, Ext w W → Calls Tryd.prog G #[.agg #[.int .i64 P, .int .i64 D, .int .i64 L, .int .i64 bx, .int .i64 cy]] W fun e w' => e = .panicked [nrE] ∧ Ext W w') :
    Calls Tryd.prog 56 #[.func (.func G) #[.agg #[.int .i64 P, .int .i64 D, .int .i64 L, .int .i64 bx, .int .i64 cy]] #[]] w fun e w' => e = .returned (.tuple #[.agg #[.int .i64 0, .int .i64 0, .int .i64 0, .int .i64 0, .nilFunc, .nilFunc, .nilFunc, .nilFunc, .nilFunc], .bool false]) ∧ Ext w w' := by
  go_enter_defers Tryd.func56, Tryd.ntmps56
  go_wp2_with fail
  refine (h _ (Ext.alloc _ _)).mono ?_
  rintro e w1 ⟨rfl, hw1⟩
  obtain ⟨B1, hE, hz⟩ := box1 w [.int .i64 0, .int .i64 0, .int .i64 0, .int .i64 0, .nilFunc, .nilFunc, .nilFunc, .nilFunc, .nilFunc] 100 hw1
  clear hw1 h hG
  have d0 := (B1 0 _ rfl).1
  have d1 := (B1 1 _ rfl).1
  have d2 := (B1 2 _ rfl).1
  have d3 := (B1 3 _ rfl).1
  have d4 := (B1 4 _ rfl).1
  have d5 := (B1 5 _ rfl).1
  have d6 := (B1 6 _ rfl).1
  have d7 := (B1 7 _ rfl).1
  have d8 := (B1 8 _ rfl).1
  go_wp2
  refine leaves_cons (f := 100) (args := #[]) (by simp) (by simp [go_sem]) ?_
  refine (catchGPr_hit _).mono ?_
  rintro e u' w'' ⟨rfl, rfl, rfl⟩
  simp [Leaves, settle, results, Tryd.results56, go_sem, d0, d1, d2, d3, d4, d5, d6, d7, d8]
  exact hE

set_option maxHeartbeats 1600000 in
set_option maxRecDepth 100000 in
theorem sumPr_yes {P D L : Int} (bx cy : Int) (h : EvNum P D L) {a b s : Pr} (ha : OnE P.toNat D a) (hb : OnE P.toNat D b) (hs : addE P.toNat D a b = s) (w : World) :
    Calls Tryd.prog 62 #[.agg #[.int .i64 0, .int .i64 1, .int .i64 bx, .int .i64 cy, .func (.func 102) #[.agg #[.int .i64 P, .int .i64 D, .int .i64 L, .int .i64 bx, .int .i64 cy]] #[], .func (.func 103) #[.agg #[.int .i64 P, .int .i64 D, .int .i64 L, .int .i64 bx, .int .i64 cy]] #[], .func (.func 104) #[.agg #[.int .i64 P, .int .i64 D, .int .i64 L, .int .i64 bx, .int .i64 cy]] #[], .func (.func 105) #[.agg #[.int .i64 P, .int .i64 D, .int .i64 L, .int .i64 bx, .int .i64 cy]] #[], .func (.func 106) #[] #[]], .agg #[.int .i64 a.x, .int .i64 a.y], .agg #[.int .i64 b.x, .int .i64 b.y]] w fun e w' => e = .returned (.agg #[.int .i64 s.x, .int .i64 s.y]) ∧ Ext w w' := by
  have HA := hide (knownPr_yes bx cy h ha)
  have HB := hide (knownPr_yes bx cy h hb)
  have HS := hide (addPr_at bx cy h ha hb)
  rw [hs] at HS
  clear h ha hb hs
  go_enter Tryd.func62, Tryd.ntmps62
  go_wp2
  obtain ⟨V, hV⟩ : ∃ V, (((w.alloc (.cells #[.int .i64 0, .int .i64 1, .int .i64 bx, .int .i64 cy, .func (.func 102) #[.agg #[.int .i64 P, .int .i64 D, .int .i64 L, .int .i64 bx, .int .i64 cy]] #[], .func (.func 103) #[.agg #[.int .i64 P, .int .i64 D, .int .i64 L, .int .i64 bx, .int .i64 cy]] #[], .func (.func 104) #[.agg #[.int .i64 P, .int .i64 D, .int .i64 L, .int .i64 bx, .int .i64 cy]] #[], .func (.func 105) #[.agg #[.int .i64 P, .int .i64 D, .int .i64 L, .int .i64 bx, .int .i64 cy]] #[], .func (.func 106) #[] #[]] 100)).alloc (.cells #[.int .i64 a.x, .int .i64 a.y] 39)).alloc (.cells #[.int .i64 b.x, .int .i64 b.y] 39)).alloc (.cells #[.int .i64 0, .int .i64 0] 39) = V := ⟨_, rfl⟩
  obtain ⟨B1, B2, B3, B4, hE, hz⟩ := box4 w [.int .i64 0, .int .i64 1, .int .i64 bx, .int .i64 cy, .func (.func 102) #[.agg #[.int .i64 P, .int .i64 D, .int .i64 L, .int .i64 bx, .int .i64 cy]] #[], .func (.func 103) #[.agg #[.int .i64 P, .int .i64 D, .int .i64 L, .int .i64 bx, .int .i64 cy]] #[], .func (.func 104) #[.agg #[.int .i64 P, .int .i64 D, .int .i64 L, .int .i64 bx, .int .i64 cy]] #[], .func (.func 105) #[.agg #[.int .i64 P, .int .i64 D, .int .i64 L, .int .i64 bx, .int .i64 cy]] #[], .func (.func 106) #[] #[]] [.int .i64 a.x, .int .i64 a.y] [.int .i64 b.x, .int .i64 b.y] [.int .i64 0, .int .i64 0] 100 39 39 39 (hV ▸ Ext.refl _ : Ext ((((w.alloc (.cells #[.int .i64 0, .int .i64 1, .int .i64 bx, .int .i64 cy, .func (.func 102) #[.agg #[.int .i64 P, .int .i64 D, .int .i64 L, .int .i64 bx, .int .i64 cy]] #[], .func (.func 103) #[.agg #[.int .i64 P, .int .i64 D, .int .i64 L, .int .i64 bx, .int .i64 cy]] #[], .func (.func 104) #[.agg #[.int .i64 P, .int .i64 D, .int .i64 L, .int .i64 bx, .int .i64 cy]] #[], .func (.func 105) #[.agg #[.int .i64 P, .int .i64 D, .int .i64 L, .int .i64 bx, .int .i64 cy]] #[], .func (.func 106) #[] #[]] 100)).alloc (.cells #[.int .i64 a.x, .int .i64 a.y] 39)).alloc (.cells #[.int .i64 b.x, .int .i64 b.y] 39)).alloc (.cells #[.int .i64 0, .int .i64 0] 39)) V)
  simp only [hV]
  clear hV
  obtain ⟨X, hX⟩ : ∃ X : Nat → Prop, X = fun k => w.heap.size + 3 ≤ k := ⟨_, rfl⟩
  have x0 : ∀ k, k < w.heap.size + 3 → ¬ X k := fun k h => by rw [hX]; simp; omega
  have xC : X (w.heap.size + 1 + 1 + 1) := by rw [hX]; exact Nat.le_refl _
  clear hX
  have g0 := cell_reC (B1 0 _ rfl).1 (x0 _ (by first | omega | (simp only; omega)))
  have g1 := cell_reC (B1 1 _ rfl).1 (x0 _ (by first | omega | (simp only; omega)))
  have g2 := cell_reC (B1 2 _ rfl).1 (x0 _ (by first | omega | (simp only; omega)))
  have g3 := cell_reC (B1 3 _ rfl).1 (x0 _ (by first | omega | (simp only; omega)))
  have g4 := cell_reC (B1 4 _ rfl).1 (x0 _ (by first | omega | (simp only; omega)))
  have g5 := cell_reC (B1 5 _ rfl).1 (x0 _ (by first | omega | (simp only; omega)))
  have g6 := cell_reC (B1 6 _ rfl).1 (x0 _ (by first | omega | (simp only; omega)))
  have g7 := cell_reC (B1 7 _ rfl).1 (x0 _ (by first | omega | (simp only; omega)))
  have g8 := cell_reC (B1 8 _ rfl).1 (x0 _ (by first | omega | (simp only; omega)))
  have a0 := cell_reC (B2 0 _ rfl).1 (x0 _ (by first | omega | (simp only; omega)))
  have a1 := cell_reC (B2 1 _ rfl).1 (x0 _ (by first | omega | (simp only; omega)))
  have b0 := cell_reC (B3 0 _ rfl).1 (x0 _ (by first | omega | (simp only; omega)))
  have b1 := cell_reC (B3 1 _ rfl).1 (x0 _ (by first | omega | (simp only; omega)))
  refine anyK_begin X 10 rfl (by kernel_rfl) ?_
  refine anyK_take 0 9 1 rfl (by decide) (by kernel_rfl) (fun _ _ d _ _ h => by cases d <;> exact h) ?_
  repeat (refine headC_step (fun K hK => ?_); go_simp; first | (refine hK _ ?_; clear hK K) | (apply Exists.intro; refine ⟨fun _ => ?_, hK _ ?_⟩; (first | (go_at_call_of 60 (a); exact Calls.re_of (HA.out _)) | (go_at_call_of 60 (b); exact Calls.re_of (HB.out _)) | (go_at_call 103; exact Calls.re_of (HS.out _))); clear hK K))
  refine headC_nil ?_
  clear g0 g1 g2 g3 g4 g5 g6 g7 g8 a0 a1 b0 b1
  refine anyK_one 9 (by kernel_rfl) ?_
  refine stepK_run rfl ?_
  intro w2 h2 K hK
  have BZ := B4.ext h2 (by omega)
  have d0 := (BZ 0 _ rfl).1
  have d1 := (BZ 1 _ rfl).1
  have z0 := (BZ 0 _ rfl).2
  have z1 := (BZ 1 _ rfl).2
  go_simp
  refine hK _ _ (show Grw X V (putL (w.heap.size + 1 + 1 + 1) 0 [.int .i64 s.x, .int .i64 s.y] w2) from Grw.putL xC _ _ _ (.of_ext h2)) ?_
  clear hK K d0 d1 z0 z1
  refine anyK_done (by kernel_rfl) ?_ 0
  intro w3 h3
  replace h3 : Ext (putL (w.heap.size + 1 + 1 + 1) 0 [.int .i64 s.x, .int .i64 s.y] w2) w3 := h3
  have BW := (BZ.put [.int .i64 s.x, .int .i64 s.y] rfl).ext h3 (by rw [size_putL]; have := Below.size h2; omega)
  have hF : Ext w w3 := ((hE.trans h2).putL (by omega) [.int .i64 s.x, .int .i64 s.y]).trans h3
  clear h2 h3 BZ
  have q0 := (BW 0 _ rfl).1
  have q1 := (BW 1 _ rfl).1
  go_wp2
  refine bodyPost_ret (v := .agg #[.int .i64 s.x, .int .i64 s.y]) (by simp [results, Tryd.results62, go_sem, q0, q1]) rfl ⟨rfl, hF⟩

set_option maxHeartbeats 1600000 in
set_option maxRecDepth 100000 in
theorem sumPr_noA {P D L : Int} (bx cy : Int) (h : EvNum P D L) {a b : Pr} (ha : ¬ OnE P.toNat D a) (w : World) :
    Calls Tryd.prog 62 #[.agg #[.int .i64 0, .int .i64 1, .int .i64 bx, .int .i64 cy, .func (.func 102) #[.agg #[.int .i64 P, .int .i64 D, .int .i64 L, .int .i64 bx, .int .i64 cy]] #[], .func (.func 103) #[.agg #[.int .i64 P, .int .i64 D, .int .i64 L, .int .i64 bx, .int .i64 cy]] #[], .func (.func 104) #[.agg #[.int .i64 P, .int .i64 D, .int .i64 L, .int .i64 bx, .int .i64 cy]] #[], .func (.func 105) #[.agg #[.int .i64 P, .int .i64 D, .int .i64 L, .int .i64 bx, .int .i64 cy]] #[], .func (.func 106) #[] #[]], .agg #[.int .i64 a.x, .int .i64 a.y], .agg #[.int .i64 b.x, .int .i64 b.y]] w fun e w' => e = .panicked [nrE] ∧ Ext w w' := by
  have HA := hide (knownPr_no bx cy h ha)
  clear h ha
  go_enter Tryd.func62, Tryd.ntmps62
  go_wp2
  obtain ⟨V, hV⟩ : ∃ V, (((w.alloc (.cells #[.int .i64 0, .int .i64 1, .int .i64 bx, .int .i64 cy, .func (.func 102) #[.agg #[.int .i64 P, .int .i64 D, .int .i64 L, .int .i64 bx, .int .i64 cy]] #[], .func (.func 103) #[.agg #[.int .i64 P, .int .i64 D, .int .i64 L, .int .i64 bx, .int .i64 cy]] #[], .func (.func 104) #[.agg #[.int .i64 P, .int .i64 D, .int .i64 L, .int .i64 bx, .int .i64 cy]] #[], .func (.func 105) #[.agg #[.int .i64 P, .int .i64 D, .int .i64 L, .int .i64 bx, .int .i64 cy]] #[], .func (.func 106) #[] #[]] 100)).alloc (.cells #[.int .i64 a.x, .int .i64 a.y] 39)).alloc (.cells #[.int .i64 b.x, .int .i64 b.y] 39)).alloc (.cells #[.int .i64 0, .int .i64 0] 39) = V := ⟨_, rfl⟩
  obtain ⟨B1, B2, B3, B4, hE, hz⟩ := box4 w [.int .i64 0, .int .i64 1, .int .i64 bx, .int .i64 cy, .func (.func 102) #[.agg #[.int .i64 P, .int .i64 D, .int .i64 L, .int .i64 bx, .int .i64 cy]] #[], .func (.func 103) #[.agg #[.int .i64 P, .int .i64 D, .int .i64 L, .int .i64 bx, .int .i64 cy]] #[], .func (.func 104) #[.agg #[.int .i64 P, .int .i64 D, .int .i64 L, .int .i64 bx, .int .i64 cy]] #[], .func (.func 105) #[.agg #[.int .i64 P, .int .i64 D, .int .i64 L, .int .i64 bx, .int .i64 cy]] #[], .func (.func 106) #[] #[]] [.int .i64 a.x, .int .i64 a.y] [.int .i64 b.x, .int .i64 b.y] [.int .i64 0, .int .i64 0] 100 39 39 39 (hV ▸ Ext.refl _ : Ext ((((w.alloc (.cells #[.int .i64 0, .int .i64 1, .int .i64 bx, .int .i64 cy, .func (.func 102) #[.agg #[.int .i64 P, .int .i64 D, .int .i64 L, .int .i64 bx, .int .i64 cy]] #[], .func (.func 103) #[.agg #[.int .i64 P, .int .i64 D, .int .i64 L, .int .i64 bx, .int .i64 cy]] #[], .func (.func 104) #[.agg #[.int .i64 P, .int .i64 D, .int .i64 L, .int .i64 bx, .int .i64 cy]] #[], .func (.func 105) #[.agg #[.int .i64 P, .int .i64 D, .int .i64 L, .int .i64 bx, .int .i64 cy]] #[], .func (.func 106) #[] #[]] 100)).alloc (.cells #[.int .i64 a.x, .int .i64 a.y] 39)).alloc (.cells #[.int .i64 b.x, .int .i64 b.y] 39)).alloc (.cells #[.int .i64 0, .int .i64 0] 39)) V)
  simp only [hV]
  clear hV
  obtain ⟨X, hX⟩ : ∃ X : Nat → Prop, X = fun k => w.heap.size + 3 ≤ k := ⟨_, rfl⟩
  have x0 : ∀ k, k < w.heap.size + 3 → ¬ X k := fun k h => by rw [hX]; simp; omega
  have xC : X (w.heap.size + 1 + 1 + 1) := by rw [hX]; exact Nat.le_refl _
  clear hX
  have g0 := cell_reC (B1 0 _ rfl).1 (x0 _ (by first | omega | (simp only; omega)))
  have g1 := cell_reC (B1 1 _ rfl).1 (x0 _ (by first | omega | (simp only; omega)))
  have g2 := cell_reC (B1 2 _ rfl).1 (x0 _ (by first | omega | (simp only; omega)))
  have g3 := cell_reC (B1 3 _ rfl).1 (x0 _ (by first | omega | (simp only; omega)))
  have g4 := cell_reC (B1 4 _ rfl).1 (x0 _ (by first | omega | (simp only; omega)))
  have g5 := cell_reC (B1 5 _ rfl).1 (x0 _ (by first | omega | (simp only; omega)))
  have g6 := cell_reC (B1 6 _ rfl).1 (x0 _ (by first | omega | (simp only; omega)))
  have g7 := cell_reC (B1 7 _ rfl).1 (x0 _ (by first | omega | (simp only; omega)))
  have g8 := cell_reC (B1 8 _ rfl).1 (x0 _ (by first | omega | (simp only; omega)))
  have a0 := cell_reC (B2 0 _ rfl).1 (x0 _ (by first | omega | (simp only; omega)))
  have a1 := cell_reC (B2 1 _ rfl).1 (x0 _ (by first | omega | (simp only; omega)))
  have b0 := cell_reC (B3 0 _ rfl).1 (x0 _ (by first | omega | (simp only; omega)))
  have b1 := cell_reC (B3 1 _ rfl).1 (x0 _ (by first | omega | (simp only; omega)))
  refine anyK_begin X 10 rfl (by kernel_rfl) ?_
  refine anyK_take 0 4 6 rfl (by decide) (by kernel_rfl) (fun _ _ d _ _ h => by cases d <;> exact h) ?_
  repeat (refine headC_step (fun K hK => ?_); go_simp; first | (refine hK _ ?_; clear hK K) | (apply Exists.intro; refine ⟨fun _ => ?_, hK _ ?_⟩; (fail); clear hK K))
  refine headC_nil ?_
  refine anyK_take 5 2 4 rfl (by decide) (by kernel_rfl) (fun _ _ d _ _ h => by cases d <;> exact h) ?_
  repeat (refine headC_step (fun K hK => ?_); go_simp; first | (refine hK _ ?_; clear hK K) | (apply Exists.intro; refine ⟨fun _ => ?_, hK _ ?_⟩; (fail); clear hK K))
  refine headC_nil ?_
  clear g0 g1 g2 g3 g4 g5 g6 g7 g8 a0 a1 b0 b1
  refine anyK_one 4 (by kernel_rfl) ?_
  refine stepK_run rfl ?_
  intro w2 h2 K hK
  go_simp
  refine (HA.out _).mono ?_
  rintro e w3 ⟨rfl, h3⟩
  exact ⟨rfl, rfl, (hE.trans h2).trans h3⟩

set_option maxHeartbeats 1600000 in
set_option maxRecDepth 100000 in
theorem sumPr_noB {P D L : Int} (bx cy : Int) (h : EvNum P D L) {a b : Pr} (ha : OnE P.toNat D a) (hb : ¬ OnE P.toNat D b) (w : World) :
    Calls Tryd.prog 62 #[.agg #[.int .i64 0, .int .i64 1, .int .i64 bx, .int .i64 cy, .func (.func 102) #[.agg #[.int .i64 P, .int .i64 D, .int .i64 L, .int .i64 bx, .int .i64 cy]] #[], .func (.func 103) #[.agg #[.int .i64 P, .int .i64 D, .int .i64 L, .int .i64 bx, .int .i64 cy]] #[], .func (.func 104) #[.agg #[.int .i64 P, .int .i64 D, .int .i64 L, .int .i64 bx, .int .i64 cy]] #[], .func (.func 105) #[.agg #[.int .i64 P, .int .i64 D, .int .i64 L, .int .i64 bx, .int .i64 cy]] #[], .func (.func 106) #[] #[]], .agg #[.int .i64 a.x, .int .i64 a.y], .agg #[.int .i64 b.x, .int .i64 b.y]] w fun e w' => e = .panicked [nrE] ∧ Ext w w' := by
  have HA := hide (knownPr_yes bx cy h ha)
  have HB := hide (knownPr_no bx cy h hb)
  clear h ha hb
  go_enter Tryd.func62, Tryd.ntmps62
  go_wp2
  obtain ⟨V, hV⟩ : ∃ V, (((w.alloc (.cells #[.int .i64 0, .int .i64 1, .int .i64 bx, .int .i64 cy, .func (.func 102) #[.agg #[.int .i64 P, .int .i64 D, .int .i64 L, .int .i64 bx, .int .i64 cy]] #[], .func (.func 103) #[.agg #[.int .i64 P, .int .i64 D, .int .i64 L, .int .i64 bx, .int .i64 cy]] #[], .func (.func 104) #[.agg #[.int .i64 P, .int .i64 D, .int .i64 L, .int .i64 bx, .int .i64 cy]] #[], .func (.func 105) #[.agg #[.int .i64 P, .int .i64 D, .int .i64 L, .int .i64 bx, .int .i64 cy]] #[], .func (.func 106) #[] #[]] 100)).alloc (.cells #[.int .i64 a.x, .int .i64 a.y] 39)).alloc (.cells #[.int .i64 b.x, .int .i64 b.y] 39)).alloc (.cells #[.int .i64 0, .int .i64 0] 39) = V := ⟨_, rfl⟩
  obtain ⟨B1, B2, B3, B4, hE, hz⟩ := box4 w [.int .i64 0, .int .i64 1, .int .i64 bx, .int .i64 cy, .func (.func 102) #[.agg #[.int .i64 P, .int .i64 D, .int .i64 L, .int .i64 bx, .int .i64 cy]] #[], .func (.func 103) #[.agg #[.int .i64 P, .int .i64 D, .int .i64 L, .int .i64 bx, .int .i64 cy]] #[], .func (.func 104) #[.agg #[.int .i64 P, .int .i64 D, .int .i64 L, .int .i64 bx, .int .i64 cy]] #[], .func (.func 105) #[.agg #[.int .i64 P, .int .i64 D, .int .i64 L, .int .i64 bx, .int .i64 cy]] #[], .func (.func 106) #[] #[]] [.int .i64 a.x, .int .i64 a.y] [.int .i64 b.x, .int .i64 b.y] [.int .i64 0, .int .i64 0] 100 39 39 39 (hV ▸ Ext.refl _ : Ext ((((w.alloc (.cells #[.int .i64 0, .int .i64 1, .int .i64 bx, .int .i64 cy, .func (.func 102) #[.agg #[.int .i64 P, .int .i64 D, .int .i64 L, .int .i64 bx, .int .i64 cy]] #[], .func (.func 103) #[.agg #[.int .i64 P, .int .i64 D, .int .i64 L, .int .i64 bx, .int .i64 cy]] #[], .func (.func 104) #[.agg #[.int .i64 P, .int .i64 D, .int .i64 L, .int .i64 bx, .int .i64 cy]] #[], .func (.func 105) #[.agg #[.int .i64 P, .int .i64 D, .int .i64 L, .int .i64 bx, .int .i64 cy]] #[], .func (.func 106) #[] #[]] 100)).alloc (.cells #[.int .i64 a.x, .int .i64 a.y] 39)).alloc (.cells #[.int .i64 b.x, .int .i64 b.y] 39)).alloc (.cells #[.int .i64 0, .int .i64 0] 39)) V)
  simp only [hV]
  clear hV
  obtain ⟨X, hX⟩ : ∃ X : Nat → Prop, X = fun k => w.heap.size + 3 ≤ k := ⟨_, rfl⟩
  have x0 : ∀ k, k < w.heap.size + 3 → ¬ X k := fun k h => by rw [hX]; simp; omega
  have xC : X (w.heap.size + 1 + 1 + 1) := by rw [hX]; exact Nat.le_refl _
  clear hX
  have g0 := cell_reC (B1 0 _ rfl).1 (x0 _ (by first | omega | (simp only; omega)))
  have g1 := cell_reC (B1 1 _ rfl).1 (x0 _ (by first | omega | (simp only; omega)))
  have g2 := cell_reC (B1 2 _ rfl).1 (x0 _ (by first | omega | (simp only; omega)))
  have g3 := cell_reC (B1 3 _ rfl).1 (x0 _ (by first | omega | (simp only; omega)))
  have g4 := cell_reC (B1 4 _ rfl).1 (x0 _ (by first | omega | (simp only; omega)))
  have g5 := cell_reC (B1 5 _ rfl).1 (x0 _ (by first | omega | (simp only; omega)))
  have g6 := cell_reC (B1 6 _ rfl).1 (x0 _ (by first | omega | (simp only; omega)))
  have g7 := cell_reC (B1 7 _ rfl).1 (x0 _ (by first | omega | (simp only; omega)))
  have g8 := cell_reC (B1 8 _ rfl).1 (x0 _ (by first | omega | (simp only; omega)))
  have a0 := cell_reC (B2 0 _ rfl).1 (x0 _ (by first | omega | (simp only; omega)))
  have a1 := cell_reC (B2 1 _ rfl).1 (x0 _ (by first | omega | (simp only; omega)))
  have b0 := cell_reC (B3 0 _ rfl).1 (x0 _ (by first | omega | (simp only; omega)))
  have b1 := cell_reC (B3 1 _ rfl).1 (x0 _ (by first | omega | (simp only; omega)))
  refine anyK_begin X 10 rfl (by kernel_rfl) ?_
  refine anyK_take 0 7 3 rfl (by decide) (by kernel_rfl) (fun _ _ d _ _ h => by cases d <;> exact h) ?_
  repeat (refine headC_step (fun K hK => ?_); go_simp; first | (refine hK _ ?_; clear hK K) | (apply Exists.intro; refine ⟨fun _ => ?_, hK _ ?_⟩; (exact Calls.re_of (HA.out _)); clear hK K))
  refine headC_nil ?_
  clear g0 g1 g2 g3 g4 g5 g6 g7 g8 a0 a1 b0 b1
  refine anyK_one 7 (by kernel_rfl) ?_
  refine stepK_run rfl ?_
  intro w2 h2 K hK
  go_simp
  refine (HB.out _).mono ?_
  rintro e w3 ⟨rfl, h3⟩
  exact ⟨rfl, rfl, (hE.trans h2).trans h3⟩

theorem sumPr_no {P D L : Int} (bx cy : Int) (h : EvNum P D L) {a b : Pr} (hn : ¬ (OnE P.toNat D a ∧ OnE P.toNat D b)) (w : World) :
    Calls Tryd.prog 62 #[.agg #[.int .i64 0, .int .i64 1, .int .i64 bx, .int .i64 cy, .func (.func 102) #[.agg #[.int .i64 P, .int .i64 D, .int .i64 L, .int .i64 bx, .int .i64 cy]] #[], .func (.func 103) #[.agg #[.int .i64 P, .int .i64 D, .int .i64 L, .int .i64 bx, .int .i64 cy]] #[], .func (.func 104) #[.agg #[.int .i64 P, .int .i64 D, .int .i64 L, .int .i64 bx, .int .i64 cy]] #[], .func (.func 105) #[.agg #[.int .i64 P, .int .i64 D, .int .i64 L, .int .i64 bx, .int .i64 cy]] #[], .func (.func 106) #[] #[]], .agg #[.int .i64 a.x, .int .i64 a.y], .agg #[.int .i64 b.x, .int .i64 b.y]] w fun e w' => e = .panicked [nrE] ∧ Ext w w' := by
  by_cases ha : OnE P.toNat D a
  · exact sumPr_noB bx cy h ha (fun k => hn ⟨ha, k⟩) w
  · exact sumPr_noA bx cy h ha w

set_option maxHeartbeats 1600000 in
set_option maxRecDepth 100000 in
theorem cloPairOk_yes (P D L bx cy : Int) (a : Pr) (r : Pr) (C0 C1 : Nat) (w : World) (B0 : Blk w C0 [.int .i64 P, .int .i64 D, .int .i64 L, .int .i64 bx, .int .i64 cy]) (l0 : C0 < w.heap.size) (B1 : Blk w C1 [.int .i64 a.x, .int .i64 a.y]) (l1 : C1 < w.heap.size) (hG : Hid (∀ W : World, Calls Tryd.prog 57 #[.agg #[.int .i64 P, .int .i64 D, .int .i64 L, .int .i64 bx, .int .i64 cy]] W fun e w' => e = .returned (.agg #[.int .i64 0, .int .i64 1, .int .i64 bx, .int .i64 cy, .func (.func 102) #[.agg #[.int .i64 P, .int .i64 D, .int .i64 L, .int .i64 bx, .int .i64 cy]] #[], .func (.func 103) #[.agg #[.int .i64 P, .int .i64 D, .int .i64 L, .int .i64 bx, .int .i64 cy]] #[], .func (.func 104) #[.agg #[.int .i64 P, .int .i64 D, .int .i64 L, .int .i64 bx, .int .i64 cy]] #[], .func (.func 105) #[.agg #[.int .i64 P, .int .i64 D, .int .i64 L, .int .i64 bx, .int .i64 cy]] #[], .func (.func 106) #[] #[]]) ∧ Ext W w')) (hF : Hid (∀ W : World, Calls Tryd.prog 60 #[.agg #[.int .i64 0, .int .i64 1, .int .i64 bx, .int .i64 cy, .func (.func 102) #[.agg #[.int .i64 P, .int .i64 D, .int .i64 L, .int .i64 bx, .int .i64 cy]] #[], .func (.func 103) #[.agg #[.int .i64 P, .int .i64 D, .int .i64 L, .int .i64 bx, .int .i64 cy]] #[], .func (.func 104) #[.agg #[.int .i64 P, .int .i64 D, .int .i64 L, .int .i64 bx, .int .i64 cy]] #[], .func (.func 105) #[.agg #[.int .i64 P, .int .i64 D, .int .i64 L, .int .i64 bx, .int .i64 cy]] #[], .func (.func 106) #[] #[]], .agg #[.int .i64 a.x, .int .i64 a.y]] W fun e w' => e = .returned (.agg #[.int .i64 r.x, .int .i64 r.y]) ∧ Ext W w')) :
    Calls Tryd.prog 59 #[.pointer (some ⟨C0, 0, none⟩), .pointer (some ⟨C1, 0, none⟩)] w fun e w' => e = .returned (.agg #[.int .i64 r.x, .int .i64 r.y]) ∧ Ext w w' := by
  go_enter Tryd.func59, Tryd.ntmps59
  go_wp2
  obtain ⟨V, hV⟩ : ∃ V, w.alloc (.cells #[.int .i64 0, .int .i64 0] 39) = V := ⟨_, rfl⟩
  have hE : Ext w V := hV ▸ Ext.alloc _ _
  obtain ⟨BR, -, hz⟩ := box1 w [.int .i64 0, .int .i64 0] 39 (hV ▸ Ext.refl _ : Ext (w.alloc (.cells #[.int .i64 0, .int .i64 0] 39)) V)
  simp only [hV]
  clear hV
  obtain ⟨X, hX⟩ : ∃ X : Nat → Prop, X = fun k => w.heap.size ≤ k := ⟨_, rfl⟩
  have x0 : ∀ k, k < w.heap.size → ¬ X k := fun k h => by rw [hX]; simp; omega
  have xC : X w.heap.size := by rw [hX]; exact Nat.le_refl _
  clear hX
  have D0 := B0.ext hE l0
  have D1 := B1.ext hE l1
  have c0 := cell_reC (D0 0 _ rfl).1 (x0 _ (by first | omega | (simp only; omega)))
  have c1 := cell_reC (D0 1 _ rfl).1 (x0 _ (by first | omega | (simp only; omega)))
  have c2 := cell_reC (D0 2 _ rfl).1 (x0 _ (by first | omega | (simp only; omega)))
  have c3 := cell_reC (D0 3 _ rfl).1 (x0 _ (by first | omega | (simp only; omega)))
  have c4 := cell_reC (D0 4 _ rfl).1 (x0 _ (by first | omega | (simp only; omega)))
  have d0 := cell_reC (D1 0 _ rfl).1 (x0 _ (by first | omega | (simp only; omega)))
  have d1 := cell_reC (D1 1 _ rfl).1 (x0 _ (by first | omega | (simp only; omega)))
  refine anyK_begin X 5 rfl (by kernel_rfl) ?_
  refine anyK_take 0 4 1 rfl (by decide) (by kernel_rfl) (fun _ _ d _ _ h => by cases d <;> exact h) ?_
  repeat (refine headC_step (fun K hK => ?_); go_simp; first | (refine hK _ ?_; clear hK K) | (apply Exists.intro; refine ⟨fun _ => ?_, hK _ ?_⟩; (first | (go_at_call 57; exact Calls.re_of (hG.out _)) | (go_at_call 60; exact Calls.re_of (hF.out _))); clear hK K))
  refine headC_nil ?_
  clear c0 c1 c2 c3 c4 d0 d1
  refine anyK_one 4 (by kernel_rfl) ?_
  refine stepK_run rfl ?_
  intro w2 h2 K hK
  have BZ := BR.ext h2 (by omega)
  have d0 := (BZ 0 _ rfl).1
  have d1 := (BZ 1 _ rfl).1
  have z0 := (BZ 0 _ rfl).2
  have z1 := (BZ 1 _ rfl).2
  go_simp
  refine hK _ _ (show Grw X V (putL (w.heap.size) 0 [.int .i64 r.x, .int .i64 r.y] w2) from Grw.putL xC _ _ _ (.of_ext h2)) ?_
  clear hK K d0 d1 z0 z1
  refine anyK_done (by kernel_rfl) ?_ 0
  intro w3 h3
  replace h3 : Ext (putL (w.heap.size) 0 [.int .i64 r.x, .int .i64 r.y] w2) w3 := h3
  have BW := (BZ.put [.int .i64 r.x, .int .i64 r.y] rfl).ext h3 (by rw [size_putL]; have := Below.size h2; omega)
  have hX : Ext w w3 := ((hE.trans h2).putL (by omega) [.int .i64 r.x, .int .i64 r.y]).trans h3
  clear h2 h3 BZ
  have q0 := (BW 0 _ rfl).1
  have q1 := (BW 1 _ rfl).1
  go_wp2
  refine bodyPost_ret (v := .agg #[.int .i64 r.x, .int .i64 r.y]) (by simp [results, Tryd.results59, go_sem, q0, q1]) rfl ⟨rfl, hX⟩

set_option maxHeartbeats 1600000 in
set_option maxRecDepth 100000 in
theorem cloPairOk_noG (P D L bx cy : Int) (a : Pr) (C0 C1 : Nat) (w : World) (B0 : Blk w C0 [.int .i64 P, .int .i64 D, .int .i64 L, .int .i64 bx, .int .i64 cy]) (l0 : C0 < w.heap.size) (B1 : Blk w C1 [.int .i64 a.x, .int .i64 a.y]) (l1 : C1 < w.heap.size) (hG : Hid (∀ W : World, Calls Tryd.prog 57 #[.agg #[.int .i64 P, .int .i64 D, .int .i64 L, .int .i64 bx, .int .i64 cy]] W fun e w' => e = .panicked [nrE] ∧ Ext W w')) :
    Calls Tryd.prog 59 #[.pointer (some ⟨C0, 0, none⟩), .pointer (some ⟨C1, 0, none⟩)] w fun e w' => e = .panicked [nrE] ∧ Ext w w' := by
  go_enter Tryd.func59, Tryd.ntmps59
  go_wp2
  obtain ⟨V, hV⟩ : ∃ V, w.alloc (.cells #[.int .i64 0, .int .i64 0] 39) = V := ⟨_, rfl⟩
  have hE : Ext w V := hV ▸ Ext.alloc _ _
  obtain ⟨BR, -, hz⟩ := box1 w [.int .i64 0, .int .i64 0] 39 (hV ▸ Ext.refl _ : Ext (w.alloc (.cells #[.int .i64 0, .int .i64 0] 39)) V)
  simp only [hV]
  clear hV
  obtain ⟨X, hX⟩ : ∃ X : Nat → Prop, X = fun k => w.heap.size ≤ k := ⟨_, rfl⟩
  have x0 : ∀ k, k < w.heap.size → ¬ X k := fun k h => by rw [hX]; simp; omega
  have xC : X w.heap.size := by rw [hX]; exact Nat.le_refl _
  clear hX
  have D0 := B0.ext hE l0
  have D1 := B1.ext hE l1
  have c0 := cell_reC (D0 0 _ rfl).1 (x0 _ (by first | omega | (simp only; omega)))
  have c1 := cell_reC (D0 1 _ rfl).1 (x0 _ (by first | omega | (simp only; omega)))
  have c2 := cell_reC (D0 2 _ rfl).1 (x0 _ (by first | omega | (simp only; omega)))
  have c3 := cell_reC (D0 3 _ rfl).1 (x0 _ (by first | omega | (simp only; omega)))
  have c4 := cell_reC (D0 4 _ rfl).1 (x0 _ (by first | omega | (simp only; omega)))
  have d0 := cell_reC (D1 0 _ rfl).1 (x0 _ (by first | omega | (simp only; omega)))
  have d1 := cell_reC (D1 1 _ rfl).1 (x0 _ (by first | omega | (simp only; omega)))
  refine anyK_begin X 5 rfl (by kernel_rfl) ?_
  refine anyK_take 0 1 4 rfl (by decide) (by kernel_rfl) (fun _ _ d _ _ h => by cases d <;> exact h) ?_
  repeat (refine headC_step (fun K hK => ?_); go_simp; first | (refine hK _ ?_; clear hK K) | (apply Exists.intro; refine ⟨fun _ => ?_, hK _ ?_⟩; (fail); clear hK K))
  refine headC_nil ?_
  refine anyK_take 2 1 3 rfl (by decide) (by kernel_rfl) (fun _ _ d _ _ h => by cases d <;> exact h) ?_
  repeat (refine headC_step (fun K hK => ?_); go_simp; first | (refine hK _ ?_; clear hK K) | (apply Exists.intro; refine ⟨fun _ => ?_, hK _ ?_⟩; (fail); clear hK K))
  refine headC_nil ?_
  clear c0 c1 c2 c3 c4 d0 d1
  refine anyK_one 1 (by kernel_rfl) ?_
  refine stepK_run rfl ?_
  intro w2 h2 K hK
  go_simp
  refine (hG.out _).mono ?_
  rintro e w3 ⟨rfl, h3⟩
  exact ⟨rfl, rfl, (hE.trans h2).trans h3⟩

set_option maxHeartbeats 1600000 in
set_option maxRecDepth 100000 in
theorem cloPairOk_noF (P D L bx cy : Int) (a : Pr) (C0 C1 : Nat) (w : World) (B0 : Blk w C0 [.int .i64 P, .int .i64 D, .int .i64 L, .int .i64 bx, .int .i64 cy]) (l0 : C0 < w.heap.size) (B1 : Blk w C1 [.int .i64 a.x, .int .i64 a.y]) (l1 : C1 < w.heap.size) (hG : Hid (∀ W : World, Calls Tryd.prog 57 #[.agg #[.int .i64 P, .int .i64 D, .int .i64 L, .int .i64 bx, .int .i64 cy]] W fun e w' => e = .returned (.agg #[.int .i64 0, .int .i64 1, .int .i64 bx, .int .i64 cy, .func (.func 102) #[.agg #[.int .i64 P, .int .i64 D, .int .i64 L, .int .i64 bx, .int .i64 cy]] #[], .func (.func 103) #[.agg #[.int .i64 P, .int .i64 D, .int .i64 L, .int .i64 bx, .int .i64 cy]] #[], .func (.func 104) #[.agg #[.int .i64 P, .int .i64 D, .int .i64 L, .int .i64 bx, .int .i64 cy]] #[], .func (.func 105) #[.agg #[.int .i64 P, .int .i64 D, .int .i64 L, .int .i64 bx, .int .i64 cy]] #[], .func (.func 106) #[] #[]]) ∧ Ext W w')) (hF : Hid (∀ W : World, Calls Tryd.prog 60 #[.agg #[.int .i64 0, .int .i64 1, .int .i64 bx, .int .i64 cy, .func (.func 102) #[.agg #[.int .i64 P, .int .i64 D, .int .i64 L, .int .i64 bx, .int .i64 cy]] #[], .func (.func 103) #[.agg #[.int .i64 P, .int .i64 D, .int .i64 L, .int .i64 bx, .int .i64 cy]] #[], .func (.func 104) #[.agg #[.int .i64 P, .int .i64 D, .int .i64 L, .int .i64 bx, .int .i64 cy]] #[], .func (.func 105) #[.agg #[.int .i64 P, .int .i64 D, .int .i64 L, .int .i64 bx, .int .i64 cy]] #[], .func (.func 106) #[] #[]], .agg #[.int .i64 a.x, .int .i64 a.y]] W fun e w' => e = .panicked [nrE] ∧ Ext W w')) :
    Calls Tryd.prog 59 #[.pointer (some ⟨C0, 0, none⟩), .pointer (some ⟨C1, 0, none⟩)] w fun e w' => e = .panicked [nrE] ∧ Ext w w' := by
  go_enter Tryd.func59, Tryd.ntmps59
  go_wp2
  obtain ⟨V, hV⟩ : ∃ V, w.alloc (.cells #[.int .i64 0, .int .i64 0] 39) = V := ⟨_, rfl⟩
  have hE : Ext w V := hV ▸ Ext.alloc _ _
  obtain ⟨BR, -, hz⟩ := box1 w [.int .i64 0, .int .i64 0] 39 (hV ▸ Ext.refl _ : Ext (w.alloc (.cells #[.int .i64 0, .int .i64 0] 39)) V)
  simp only [hV]
  clear hV
  obtain ⟨X, hX⟩ : ∃ X : Nat → Prop, X = fun k => w.heap.size ≤ k := ⟨_, rfl⟩
  have x0 : ∀ k, k < w.heap.size → ¬ X k := fun k h => by rw [hX]; simp; omega
  have xC : X w.heap.size := by rw [hX]; exact Nat.le_refl _
  clear hX
  have D0 := B0.ext hE l0
  have D1 := B1.ext hE l1
  have c0 := cell_reC (D0 0 _ rfl).1 (x0 _ (by first | omega | (simp only; omega)))
  have c1 := cell_reC (D0 1 _ rfl).1 (x0 _ (by first | omega | (simp only; omega)))
  have c2 := cell_reC (D0 2 _ rfl).1 (x0 _ (by first | omega | (simp only; omega)))
  have c3 := cell_reC (D0 3 _ rfl).1 (x0 _ (by first | omega | (simp only; omega)))
  have c4 := cell_reC (D0 4 _ rfl).1 (x0 _ (by first | omega | (simp only; omega)))
  have d0 := cell_reC (D1 0 _ rfl).1 (x0 _ (by first | omega | (simp only; omega)))
  have d1 := cell_reC (D1 1 _ rfl).1 (x0 _ (by first | omega | (simp only; omega)))
  refine anyK_begin X 5 rfl (by kernel_rfl) ?_
  refine anyK_take 0 3 2 rfl (by decide) (by kernel_rfl) (fun _ _ d _ _ h => by cases d <;> exact h) ?_
  repeat (refine headC_step (fun K hK => ?_); go_simp; first | (refine hK _ ?_; clear hK K) | (apply Exists.intro; refine ⟨fun _ => ?_, hK _ ?_⟩; ((go_at_call 57; exact Calls.re_of (hG.out _))); clear hK K))
  refine headC_nil ?_
  clear c0 c1 c2 c3 c4 d0 d1
  refine anyK_one 3 (by kernel_rfl) ?_
  refine stepK_run rfl ?_
  intro w2 h2 K hK
  go_simp
  refine (hF.out _).mono ?_
  rintro e w3 ⟨rfl, h3⟩
  exact ⟨rfl, rfl, (hE.trans h2).trans h3⟩

set_option maxHeartbeats 1600000 in
set_option maxRecDepth 100000 in
theorem cloEdAdd_yes (P D L bx cy : Int) (a : Pr) (b : Pr) (r : Pr) (C0 C1 C2 : Nat) (w : World) (B0 : Blk w C0 [.int .i64 P, .int .i64 D, .int .i64 L, .int .i64 bx, .int .i64 cy]) (l0 : C0 < w.heap.size) (B1 : Blk w C1 [.int .i64 a.x, .int .i64 a.y]) (l1 : C1 < w.heap.size) (B2 : Blk w C2 [.int .i64 b.x, .int .i64 b.y]) (l2 : C2 < w.heap.size) (hG : Hid (∀ W : World, Calls Tryd.prog 57 #[.agg #[.int .i64 P, .int .i64 D, .int .i64 L, .int .i64 bx, .int .i64 cy]] W fun e w' => e = .returned (.agg #[.int .i64 0, .int .i64 1, .int .i64 bx, .int .i64 cy, .func (.func 102) #[.agg #[.int .i64 P, .int .i64 D, .int .i64 L, .int .i64 bx, .int .i64 cy]] #[], .func (.func 103) #[.agg #[.int .i64 P, .int .i64 D, .int .i64 L, .int .i64 bx, .int .i64 cy]] #[], .func (.func 104) #[.agg #[.int .i64 P, .int .i64 D, .int .i64 L, .int .i64 bx, .int .i64 cy]] #[], .func (.func 105) #[.agg #[.int .i64 P, .int .i64 D, .int .i64 L, .int .i64 bx, .int .i64 cy]] #[], .func (.func 106) #[] #[]]) ∧ Ext W w')) (hF : Hid (∀ W : World, Calls Tryd.prog 62 #[.agg #[.int .i64 0, .int .i64 1, .int .i64 bx, .int .i64 cy, .func (.func 102) #[.agg #[.int .i64 P, .int .i64 D, .int .i64 L, .int .i64 bx, .int .i64 cy]] #[], .func (.func 103) #[.agg #[.int .i64 P, .int .i64 D, .int .i64 L, .int .i64 bx, .int .i64 cy]] #[], .func (.func 104) #[.agg #[.int .i64 P, .int .i64 D, .int .i64 L, .int .i64 bx, .int .i64 cy]] #[], .func (.func 105) #[.agg #[.int .i64 P, .int .i64 D, .int .i64 L, .int .i64 bx, .int .i64 cy]] #[], .func (.func 106) #[] #[]], .agg #[.int .i64 a.x, .int .i64 a.y], .agg #[.int .i64 b.x, .int .i64 b.y]] W fun e w' => e = .returned (.agg #[.int .i64 r.x, .int .i64 r.y]) ∧ Ext W w')) :
    Calls Tryd.prog 61 #[.pointer (some ⟨C0, 0, none⟩), .pointer (some ⟨C1, 0, none⟩), .pointer (some ⟨C2, 0, none⟩)] w fun e w' => e = .returned (.agg #[.int .i64 r.x, .int .i64 r.y]) ∧ Ext w w' := by
  go_enter Tryd.func61, Tryd.ntmps61
  go_wp2
  obtain ⟨V, hV⟩ : ∃ V, w.alloc (.cells #[.int .i64 0, .int .i64 0] 39) = V := ⟨_, rfl⟩
  have hE : Ext w V := hV ▸ Ext.alloc _ _
  obtain ⟨BR, -, hz⟩ := box1 w [.int .i64 0, .int .i64 0] 39 (hV ▸ Ext.refl _ : Ext (w.alloc (.cells #[.int .i64 0, .int .i64 0] 39)) V)
  simp only [hV]
  clear hV
  obtain ⟨X, hX⟩ : ∃ X : Nat → Prop, X = fun k => w.heap.size ≤ k := ⟨_, rfl⟩
  have x0 : ∀ k, k < w.heap.size → ¬ X k := fun k h => by rw [hX]; simp; omega
  have xC : X w.heap.size := by rw [hX]; exact Nat.le_refl _
  clear hX
  have D0 := B0.ext hE l0
  have D1 := B1.ext hE l1
  have D2 := B2.ext hE l2
  have c0 := cell_reC (D0 0 _ rfl).1 (x0 _ (by first | omega | (simp only; omega)))
  have c1 := cell_reC (D0 1 _ rfl).1 (x0 _ (by first | omega | (simp only; omega)))
  have c2 := cell_reC (D0 2 _ rfl).1 (x0 _ (by first | omega | (simp only; omega)))
  have c3 := cell_reC (D0 3 _ rfl).1 (x0 _ (by first | omega | (simp only; omega)))
  have c4 := cell_reC (D0 4 _ rfl).1 (x0 _ (by first | omega | (simp only; omega)))
  have d0 := cell_reC (D1 0 _ rfl).1 (x0 _ (by first | omega | (simp only; omega)))
  have d1 := cell_reC (D1 1 _ rfl).1 (x0 _ (by first | omega | (simp only; omega)))
  have e0 := cell_reC (D2 0 _ rfl).1 (x0 _ (by first | omega | (simp only; omega)))
  have e1 := cell_reC (D2 1 _ rfl).1 (x0 _ (by first | omega | (simp only; omega)))
  refine anyK_begin X 6 rfl (by kernel_rfl) ?_
  refine anyK_take 0 5 1 rfl (by decide) (by kernel_rfl) (fun _ _ d _ _ h => by cases d <;> exact h) ?_
  repeat (refine headC_step (fun K hK => ?_); go_simp; first | (refine hK _ ?_; clear hK K) | (apply Exists.intro; refine ⟨fun _ => ?_, hK _ ?_⟩; (first | (go_at_call 57; exact Calls.re_of (hG.out _)) | (go_at_call 62; exact Calls.re_of (hF.out _))); clear hK K))
  refine headC_nil ?_
  clear c0 c1 c2 c3 c4 d0 d1 e0 e1
  refine anyK_one 5 (by kernel_rfl) ?_
  refine stepK_run rfl ?_
  intro w2 h2 K hK
  have BZ := BR.ext h2 (by omega)
  have d0 := (BZ 0 _ rfl).1
  have d1 := (BZ 1 _ rfl).1
  have z0 := (BZ 0 _ rfl).2
  have z1 := (BZ 1 _ rfl).2
  go_simp
  refine hK _ _ (show Grw X V (putL (w.heap.size) 0 [.int .i64 r.x, .int .i64 r.y] w2) from Grw.putL xC _ _ _ (.of_ext h2)) ?_
  clear hK K d0 d1 z0 z1
  refine anyK_done (by kernel_rfl) ?_ 0
  intro w3 h3
  replace h3 : Ext (putL (w.heap.size) 0 [.int .i64 r.x, .int .i64 r.y] w2) w3 := h3
  have BW := (BZ.put [.int .i64 r.x, .int .i64 r.y] rfl).ext h3 (by rw [size_putL]; have := Below.size h2; omega)
  have hX : Ext w w3 := ((hE.trans h2).putL (by omega) [.int .i64 r.x, .int .i64 r.y]).trans h3
  clear h2 h3 BZ
  have q0 := (BW 0 _ rfl).1
  have q1 := (BW 1 _ rfl).1
  go_wp2
  refine bodyPost_ret (v := .agg #[.int .i64 r.x, .int .i64 r.y]) (by simp [results, Tryd.results61, go_sem, q0, q1]) rfl ⟨rfl, hX⟩

set_option maxHeartbeats 1600000 in
set_option maxRecDepth 100000 in
theorem cloEdAdd_noG (P D L bx cy : Int) (a : Pr) (b : Pr) (C0 C1 C2 : Nat) (w : World) (B0 : Blk w C0 [.int .i64 P, .int .i64 D, .int .i64 L, .int .i64 bx, .int .i64 cy]) (l0 : C0 < w.heap.size) (B1 : Blk w C1 [.int .i64 a.x, .int .i64 a.y]) (l1 : C1 < w.heap.size) (B2 : Blk w C2 [.int .i64 b.x, .int .i64 b.y]) (l2 : C2 < w.heap.size) (hG : Hid (∀ W : World, Calls Tryd.prog 57 #[.agg #[.int .i64 P, .int .i64 D, .int .i64 L, .int .i64 bx, .int .i64 cy]] W fun e w' => e = .panicked [nrE] ∧ Ext W w')) :
    Calls Tryd.prog 61 #[.pointer (some ⟨C0, 0, none⟩), .pointer (some ⟨C1, 0, none⟩), .pointer (some ⟨C2, 0, none⟩)] w fun e w' => e = .panicked [nrE] ∧ Ext w w' := by
  go_enter Tryd.func61, Tryd.ntmps61
  go_wp2
  obtain ⟨V, hV⟩ : ∃ V, w.alloc (.cells #[.int .i64 0, .int .i64 0] 39) = V := ⟨_, rfl⟩
  have hE : Ext w V := hV ▸ Ext.alloc _ _
  obtain ⟨BR, -, hz⟩ := box1 w [.int .i64 0, .int .i64 0] 39 (hV ▸ Ext.refl _ : Ext (w.alloc (.cells #[.int .i64 0, .int .i64 0] 39)) V)
  simp only [hV]
  clear hV
  obtain ⟨X, hX⟩ : ∃ X : Nat → Prop, X = fun k => w.heap.size ≤ k := ⟨_, rfl⟩
  have x0 : ∀ k, k < w.heap.size → ¬ X k := fun k h => by rw [hX]; simp; omega
  have xC : X w.heap.size := by rw [hX]; exact Nat.le_refl _
  clear hX
  have D0 := B0.ext hE l0
  have D1 := B1.ext hE l1
  have D2 := B2.ext hE l2
  have c0 := cell_reC (D0 0 _ rfl).1 (x0 _ (by first | omega | (simp only; omega)))
  have c1 := cell_reC (D0 1 _ rfl).1 (x0 _ (by first | omega | (simp only; omega)))
  have c2 := cell_reC (D0 2 _ rfl).1 (x0 _ (by first | omega | (simp only; omega)))
  have c3 := cell_reC (D0 3 _ rfl).1 (x0 _ (by first | omega | (simp only; omega)))
  have c4 := cell_reC (D0 4 _ rfl).1 (x0 _ (by first | omega | (simp only; omega)))
  have d0 := cell_reC (D1 0 _ rfl).1 (x0 _ (by first | omega | (simp only; omega)))
  have d1 := cell_reC (D1 1 _ rfl).1 (x0 _ (by first | omega | (simp only; omega)))
  have e0 := cell_reC (D2 0 _ rfl).1 (x0 _ (by first | omega | (simp only; omega)))
  have e1 := cell_reC (D2 1 _ rfl).1 (x0 _ (by first | omega | (simp only; omega)))
  refine anyK_begin X 6 rfl (by kernel_rfl) ?_
  refine anyK_take 0 1 5 rfl (by decide) (by kernel_rfl) (fun _ _ d _ _ h => by cases d <;> exact h) ?_
  repeat (refine headC_step (fun K hK => ?_); go_simp; first | (refine hK _ ?_; clear hK K) | (apply Exists.intro; refine ⟨fun _ => ?_, hK _ ?_⟩; (fail); clear hK K))
  refine headC_nil ?_
  refine anyK_take 2 2 3 rfl (by decide) (by kernel_rfl) (fun _ _ d _ _ h => by cases d <;> exact h) ?_
  repeat (refine headC_step (fun K hK => ?_); go_simp; first | (refine hK _ ?_; clear hK K) | (apply Exists.intro; refine ⟨fun _ => ?_, hK _ ?_⟩; (fail); clear hK K))
  refine headC_nil ?_
  clear c0 c1 c2 c3 c4 d0 d1 e0 e1
  refine anyK_one 1 (by kernel_rfl) ?_
  refine stepK_run rfl ?_
  intro w2 h2 K hK
  go_simp
  refine (hG.out _).mono ?_
  rintro e w3 ⟨rfl, h3⟩
  exact ⟨rfl, rfl, (hE.trans h2).trans h3⟩

set_option maxHeartbeats 1600000 in
set_option maxRecDepth 100000 in
theorem cloEdAdd_noF (P D L bx cy : Int) (a : Pr) (b : Pr) (C0 C1 C2 : Nat) (w : World) (B0 : Blk w C0 [.int .i64 P, .int .i64 D, .int .i64 L, .int .i64 bx, .int .i64 cy]) (l0 : C0 < w.heap.size) (B1 : Blk w C1 [.int .i64 a.x, .int .i64 a.y]) (l1 : C1 < w.heap.size) (B2 : Blk w C2 [.int .i64 b.x, .int .i64 b.y]) (l2 : C2 < w.heap.size) (hG : Hid (∀ W : World, Calls Tryd.prog 57 #[.agg #[.int .i64 P, .int .i64 D, .int .i64 L, .int .i64 bx, .int .i64 cy]] W fun e w' => e = .returned (.agg #[.int .i64 0, .int .i64 1, .int .i64 bx, .int .i64 cy, .func (.func 102) #[.agg #[.int .i64 P, .int .i64 D, .int .i64 L, .int .i64 bx, .int .i64 cy]] #[], .func (.func 103) #[.agg #[.int .i64 P, .int .i64 D, .int .i64 L, .int .i64 bx, .int .i64 cy]] #[], .func (.func 104) #[.agg #[.int .i64 P, .int .i64 D, .int .i64 L, .int .i64 bx, .int .i64 cy]] #[], .func (.func 105) #[.agg #[.int .i64 P, .int .i64 D, .int .i64 L, .int .i64 bx, .int .i64 cy]] #[], .func (.func 106) #[] #[]]) ∧ Ext W w')) (hF : Hid (∀ W : World, Calls Tryd.prog 62 #[.agg #[.int .i64 0, .int .i64 1, .int .i64 bx, .int .i64 cy, .func (.func 102) #[.agg #[.int .i64 P, .int .i64 D, .int .i64 L, .int .i64 bx, .int .i64 cy]] #[], .func (.func 103) #[.agg #[.int .i64 P, .int .i64 D, .int .i64 L, .int .i64 bx, .int .i64 cy]] #[], .func (.func 104) #[.agg #[.int .i64 P, .int .i64 D, .int .i64 L, .int .i64 bx, .int .i64 cy]] #[], .func (.func 105) #[.agg #[.int .i64 P, .int .i64 D, .int .i64 L, .int .i64 bx, .int .i64 cy]] #[], .func (.func 106) #[] #[]], .agg #[.int .i64 a.x, .int .i64 a.y], .agg #[.int .i64 b.x, .int .i64 b.y]] W fun e w' => e = .panicked [nrE] ∧ Ext W w')) :
    Calls Tryd.prog 61 #[.pointer (some ⟨C0, 0, none⟩), .pointer (some ⟨C1, 0, none⟩), .pointer (some ⟨C2, 0, none⟩)] w fun e w' => e = .panicked [nrE] ∧ Ext w w' := by
  go_enter Tryd.func61, Tryd.ntmps61
  go_wp2
  obtain ⟨V, hV⟩ : ∃ V, w.alloc (.cells #[.int .i64 0, .int .i64 0] 39) = V := ⟨_, rfl⟩
  have hE : Ext w V := hV ▸ Ext.alloc _ _
  obtain ⟨BR, -, hz⟩ := box1 w [.int .i64 0, .int .i64 0] 39 (hV ▸ Ext.refl _ : Ext (w.alloc (.cells #[.int .i64 0, .int .i64 0] 39)) V)
  simp only [hV]
  clear hV
  obtain ⟨X, hX⟩ : ∃ X : Nat → Prop, X = fun k => w.heap.size ≤ k := ⟨_, rfl⟩
  have x0 : ∀ k, k < w.heap.size → ¬ X k := fun k h => by rw [hX]; simp; omega
  have xC : X w.heap.size := by rw [hX]; exact Nat.le_refl _
  clear hX
  have D0 := B0.ext hE l0
  have D1 := B1.ext hE l1
  have D2 := B2.ext hE l2
  have c0 := cell_reC (D0 0 _ rfl).1 (x0 _ (by first | omega | (simp only; omega)))
  have c1 := cell_reC (D0 1 _ rfl).1 (x0 _ (by first | omega | (simp only; omega)))
  have c2 := cell_reC (D0 2 _ rfl).1 (x0 _ (by first | omega | (simp only; omega)))
  have c3 := cell_reC (D0 3 _ rfl).1 (x0 _ (by first | omega | (simp only; omega)))
  have c4 := cell_reC (D0 4 _ rfl).1 (x0 _ (by first | omega | (simp only; omega)))
  have d0 := cell_reC (D1 0 _ rfl).1 (x0 _ (by first | omega | (simp only; omega)))
  have d1 := cell_reC (D1 1 _ rfl).1 (x0 _ (by first | omega | (simp only; omega)))
  have e0 := cell_reC (D2 0 _ rfl).1 (x0 _ (by first | omega | (simp only; omega)))
  have e1 := cell_reC (D2 1 _ rfl).1 (x0 _ (by first | omega | (simp only; omega)))
  refine anyK_begin X 6 rfl (by kernel_rfl) ?_
  refine anyK_take 0 4 2 rfl (by decide) (by kernel_rfl) (fun _ _ d _ _ h => by cases d <;> exact h) ?_
  repeat (refine headC_step (fun K hK => ?_); go_simp; first | (refine hK _ ?_; clear hK K) | (apply Exists.intro; refine ⟨fun _ => ?_, hK _ ?_⟩; ((go_at_call 57; exact Calls.re_of (hG.out _))); clear hK K))
  refine headC_nil ?_
  clear c0 c1 c2 c3 c4 d0 d1 e0 e1
  refine anyK_one 4 (by kernel_rfl) ?_
  refine stepK_run rfl ?_
  intro w2 h2 K hK
  go_simp
  refine (hF.out _).mono ?_
  rintro e w3 ⟨rfl, h3⟩
  exact ⟨rfl, rfl, (hE.trans h2).trans h3⟩

set_option maxHeartbeats 1600000 in
set_option maxRecDepth 100000 in
theorem cloEdMul_yes (P D L bx cy : Int) (n : Int) (a : Pr) (r : Pr) (C0 C1 C2 : Nat) (w : World) (B0 : Blk w C0 [.int .i64 P, .int .i64 D, .int .i64 L, .int .i64 bx, .int .i64 cy]) (l0 : C0 < w.heap.size) (B1 : Blk w C1 [.int .i64 n]) (l1 : C1 < w.heap.size) (B2 : Blk w C2 [.int .i64 a.x, .int .i64 a.y]) (l2 : C2 < w.heap.size) (hG : Hid (∀ W : World, Calls Tryd.prog 57 #[.agg #[.int .i64 P, .int .i64 D, .int .i64 L, .int .i64 bx, .int .i64 cy]] W fun e w' => e = .returned (.agg #[.int .i64 0, .int .i64 1, .int .i64 bx, .int .i64 cy, .func (.func 102) #[.agg #[.int .i64 P, .int .i64 D, .int .i64 L, .int .i64 bx, .int .i64 cy]] #[], .func (.func 103) #[.agg #[.int .i64 P, .int .i64 D, .int .i64 L, .int .i64 bx, .int .i64 cy]] #[], .func (.func 104) #[.agg #[.int .i64 P, .int .i64 D, .int .i64 L, .int .i64 bx, .int .i64 cy]] #[], .func (.func 105) #[.agg #[.int .i64 P, .int .i64 D, .int .i64 L, .int .i64 bx, .int .i64 cy]] #[], .func (.func 106) #[] #[]]) ∧ Ext W w')) (hF : Hid (∀ W : World, Calls Tryd.prog 64 #[.agg #[.int .i64 0, .int .i64 1, .int .i64 bx, .int .i64 cy, .func (.func 102) #[.agg #[.int .i64 P, .int .i64 D, .int .i64 L, .int .i64 bx, .int .i64 cy]] #[], .func (.func 103) #[.agg #[.int .i64 P, .int .i64 D, .int .i64 L, .int .i64 bx, .int .i64 cy]] #[], .func (.func 104) #[.agg #[.int .i64 P, .int .i64 D, .int .i64 L, .int .i64 bx, .int .i64 cy]] #[], .func (.func 105) #[.agg #[.int .i64 P, .int .i64 D, .int .i64 L, .int .i64 bx, .int .i64 cy]] #[], .func (.func 106) #[] #[]], .int .i64 n, .agg #[.int .i64 a.x, .int .i64 a.y]] W fun e w' => e = .returned (.agg #[.int .i64 r.x, .int .i64 r.y]) ∧ Ext W w')) :
    Calls Tryd.prog 63 #[.pointer (some ⟨C0, 0, none⟩), .pointer (some ⟨C1, 0, none⟩), .pointer (some ⟨C2, 0, none⟩)] w fun e w' => e = .returned (.agg #[.int .i64 r.x, .int .i64 r.y]) ∧ Ext w w' := by
  go_enter Tryd.func63, Tryd.ntmps63
  go_wp2
  obtain ⟨V, hV⟩ : ∃ V, w.alloc (.cells #[.int .i64 0, .int .i64 0] 39) = V := ⟨_, rfl⟩
  have hE : Ext w V := hV ▸ Ext.alloc _ _
  obtain ⟨BR, -, hz⟩ := box1 w [.int .i64 0, .int .i64 0] 39 (hV ▸ Ext.refl _ : Ext (w.alloc (.cells #[.int .i64 0, .int .i64 0] 39)) V)
  simp only [hV]
  clear hV
  obtain ⟨X, hX⟩ : ∃ X : Nat → Prop, X = fun k => w.heap.size ≤ k := ⟨_, rfl⟩
  have x0 : ∀ k, k < w.heap.size → ¬ X k := fun k h => by rw [hX]; simp; omega
  have xC : X w.heap.size := by rw [hX]; exact Nat.le_refl _
  clear hX
  have D0 := B0.ext hE l0
  have D1 := B1.ext hE l1
  have D2 := B2.ext hE l2
  have c0 := cell_reC (D0 0 _ rfl).1 (x0 _ (by first | omega | (simp only; omega)))
  have c1 := cell_reC (D0 1 _ rfl).1 (x0 _ (by first | omega | (simp only; omega)))
  have c2 := cell_reC (D0 2 _ rfl).1 (x0 _ (by first | omega | (simp only; omega)))
  have c3 := cell_reC (D0 3 _ rfl).1 (x0 _ (by first | omega | (simp only; omega)))
  have c4 := cell_reC (D0 4 _ rfl).1 (x0 _ (by first | omega | (simp only; omega)))
  have d0 := cell_reC (D1 0 _ rfl).1 (x0 _ (by first | omega | (simp only; omega)))
  have e0 := cell_reC (D2 0 _ rfl).1 (x0 _ (by first | omega | (simp only; omega)))
  have e1 := cell_reC (D2 1 _ rfl).1 (x0 _ (by first | omega | (simp only; omega)))
  refine anyK_begin X 6 rfl (by kernel_rfl) ?_
  refine anyK_take 0 5 1 rfl (by decide) (by kernel_rfl) (fun _ _ d _ _ h => by cases d <;> exact h) ?_
  repeat (refine headC_step (fun K hK => ?_); go_simp; first | (refine hK _ ?_; clear hK K) | (apply Exists.intro; refine ⟨fun _ => ?_, hK _ ?_⟩; (first | (go_at_call 57; exact Calls.re_of (hG.out _)) | (go_at_call 64; exact Calls.re_of (hF.out _))); clear hK K))
  refine headC_nil ?_
  clear c0 c1 c2 c3 c4 d0 e0 e1
  refine anyK_one 5 (by kernel_rfl) ?_
  refine stepK_run rfl ?_
  intro w2 h2 K hK
  have BZ := BR.ext h2 (by omega)
  have d0 := (BZ 0 _ rfl).1
  have d1 := (BZ 1 _ rfl).1
  have z0 := (BZ 0 _ rfl).2
  have z1 := (BZ 1 _ rfl).2
  go_simp
  refine hK _ _ (show Grw X V (putL (w.heap.size) 0 [.int .i64 r.x, .int .i64 r.y] w2) from Grw.putL xC _ _ _ (.of_ext h2)) ?_
  clear hK K d0 d1 z0 z1
  refine anyK_done (by kernel_rfl) ?_ 0
  intro w3 h3
  replace h3 : Ext (putL (w.heap.size) 0 [.int .i64 r.x, .int .i64 r.y] w2) w3 := h3
  have BW := (BZ.put [.int .i64 r.x, .int .i64 r.y] rfl).ext h3 (by rw [size_putL]; have := Below.size h2; omega)
  have hX : Ext w w3 := ((hE.trans h2).putL (by omega) [.int .i64 r.x, .int .i64 r.y]).trans h3
  clear h2 h3 BZ
  have q0 := (BW 0 _ rfl).1
  have q1 := (BW 1 _ rfl).1
  go_wp2
  refine bodyPost_ret (v := .agg #[.int .i64 r.x, .int .i64 r.y]) (by simp [results, Tryd.results63, go_sem, q0, q1]) rfl ⟨rfl, hX⟩

set_option maxHeartbeats 1600000 in
set_option maxRecDepth 100000 in
theorem cloEdMul_noG (P D L bx cy : Int) (n : Int) (a : Pr) (C0 C1 C2 : Nat) (w : World) (B0 : Blk w C0 [.int .i64 P, .int .i64 D, .int .i64 L, .int .i64 bx, .int .i64 cy]) (l0 : C0 < w.heap.size) (B1 : Blk w C1 [.int .i64 n]) (l1 : C1 < w.heap.size) (B2 : Blk w C2 [.int .i64 a.x, .int .i64 a.y]) (l2 : C2 < w.heap.size) (hG : Hid (∀ W : World, Calls Tryd.prog 57 #[.agg #[.int .i64 P, .int .i64 D, .int .i64 L, .int .i64 bx, .int .i64 cy]] W fun e w' => e = .panicked [nrE] ∧ Ext W w')) :
    Calls Tryd.prog 63 #[.pointer (some ⟨C0, 0, none⟩), .pointer (some ⟨C1, 0, none⟩), .pointer (some ⟨C2, 0, none⟩)] w fun e w' => e = .panicked [nrE] ∧ Ext w w' := by
  go_enter Tryd.func63, Tryd.ntmps63
  go_wp2
  obtain ⟨V, hV⟩ : ∃ V, w.alloc (.cells #[.int .i64 0, .int .i64 0] 39) = V := ⟨_, rfl⟩
  have hE : Ext w V := hV ▸ Ext.alloc _ _
  obtain ⟨BR, -, hz⟩ := box1 w [.int .i64 0, .int .i64 0] 39 (hV ▸ Ext.refl _ : Ext (w.alloc (.cells #[.int .i64 0, .int .i64 0] 39)) V)
  simp only [hV]
  clear hV
  obtain ⟨X, hX⟩ : ∃ X : Nat → Prop, X = fun k => w.heap.size ≤ k := ⟨_, rfl⟩
  have x0 : ∀ k, k < w.heap.size → ¬ X k := fun k h => by rw [hX]; simp; omega
  have xC : X w.heap.size := by rw [hX]; exact Nat.le_refl _
  clear hX
  have D0 := B0.ext hE l0
  have D1 := B1.ext hE l1
  have D2 := B2.ext hE l2
  have c0 := cell_reC (D0 0 _ rfl).1 (x0 _ (by first | omega | (simp only; omega)))
  have c1 := cell_reC (D0 1 _ rfl).1 (x0 _ (by first | omega | (simp only; omega)))
  have c2 := cell_reC (D0 2 _ rfl).1 (x0 _ (by first | omega | (simp only; omega)))
  have c3 := cell_reC (D0 3 _ rfl).1 (x0 _ (by first | omega | (simp only; omega)))
  have c4 := cell_reC (D0 4 _ rfl).1 (x0 _ (by first | omega | (simp only; omega)))
  have d0 := cell_reC (D1 0 _ rfl).1 (x0 _ (by first | omega | (simp only; omega)))
  have e0 := cell_reC (D2 0 _ rfl).1 (x0 _ (by first | omega | (simp only; omega)))
  have e1 := cell_reC (D2 1 _ rfl).1 (x0 _ (by first | omega | (simp only; omega)))
  refine anyK_begin X 6 rfl (by kernel_rfl) ?_
  refine anyK_take 0 1 5 rfl (by decide) (by kernel_rfl) (fun _ _ d _ _ h => by cases d <;> exact h) ?_
  repeat (refine headC_step (fun K hK => ?_); go_simp; first | (refine hK _ ?_; clear hK K) | (apply Exists.intro; refine ⟨fun _ => ?_, hK _ ?_⟩; (fail); clear hK K))
  refine headC_nil ?_
  refine anyK_take 2 2 3 rfl (by decide) (by kernel_rfl) (fun _ _ d _ _ h => by cases d <;> exact h) ?_
  repeat (refine headC_step (fun K hK => ?_); go_simp; first | (refine hK _ ?_; clear hK K) | (apply Exists.intro; refine ⟨fun _ => ?_, hK _ ?_⟩; (fail); clear hK K))
  refine headC_nil ?_
  clear c0 c1 c2 c3 c4 d0 e0 e1
  refine anyK_one 1 (by kernel_rfl) ?_
  refine stepK_run rfl ?_
  intro w2 h2 K hK
  go_simp
  refine (hG.out _).mono ?_
  rintro e w3 ⟨rfl, h3⟩
  exact ⟨rfl, rfl, (hE.trans h2).trans h3⟩

set_option maxHeartbeats 1600000 in
set_option maxRecDepth 100000 in
theorem cloEdMul_noF (P D L bx cy : Int) (n : Int) (a : Pr) (C0 C1 C2 : Nat) (w : World) (B0 : Blk w C0 [.int .i64 P, .int .i64 D, .int .i64 L, .int .i64 bx, .int .i64 cy]) (l0 : C0 < w.heap.size) (B1 : Blk w C1 [.int .i64 n]) (l1 : C1 < w.heap.size) (B2 : Blk w C2 [.int .i64 a.x, .int .i64 a.y]) (l2 : C2 < w.heap.size) (hG : Hid (∀ W : World, Calls Tryd.prog 57 #[.agg #[.int .i64 P, .int .i64 D, .int .i64 L, .int .i64 bx, .int .i64 cy]] W fun e w' => e = .returned (.agg #[.int .i64 0, .int .i64 1, .int .i64 bx, .int .i64 cy, .func (.func 102) #[.agg #[.int .i64 P, .int .i64 D, .int .i64 L, .int .i64 bx, .int .i64 cy]] #[], .func (.func 103) #[.agg #[.int .i64 P, .int .i64 D, .int .i64 L, .int .i64 bx, .int .i64 cy]] #[], .func (.func 104) #[.agg #[.int .i64 P, .int .i64 D, .int .i64 L, .int .i64 bx, .int .i64 cy]] #[], .func (.func 105) #[.agg #[.int .i64 P, .int .i64 D, .int .i64 L, .int .i64 bx, .int .i64 cy]] #[], .func (.func 106) #[] #[]]) ∧ Ext W w')) (hF : Hid (∀ W : World, Calls Tryd.prog 64 #[.agg #[.int .i64 0, .int .i64 1, .int .i64 bx, .int .i64 cy, .func (.func 102) #[.agg #[.int .i64 P, .int .i64 D, .int .i64 L, .int .i64 bx, .int .i64 cy]] #[], .func (.func 103) #[.agg #[.int .i64 P, .int .i64 D, .int .i64 L, .int .i64 bx, .int .i64 cy]] #[], .func (.func 104) #[.agg #[.int .i64 P, .int .i64 D, .int .i64 L, .int .i64 bx, .int .i64 cy]] #[], .func (.func 105) #[.agg #[.int .i64 P, .int .i64 D, .int .i64 L, .int .i64 bx, .int .i64 cy]] #[], .func (.func 106) #[] #[]], .int .i64 n, .agg #[.int .i64 a.x, .int .i64 a.y]] W fun e w' => e = .panicked [nrE] ∧ Ext W w')) :
    Calls Tryd.prog 63 #[.pointer (some ⟨C0, 0, none⟩), .pointer (some ⟨C1, 0, none⟩), .pointer (some ⟨C2, 0, none⟩)] w fun e w' => e = .panicked [nrE] ∧ Ext w w' := by
  go_enter Tryd.func63, Tryd.ntmps63
  go_wp2
  obtain ⟨V, hV⟩ : ∃ V, w.alloc (.cells #[.int .i64 0, .int .i64 0] 39) = V := ⟨_, rfl⟩
  have hE : Ext w V := hV ▸ Ext.alloc _ _
  obtain ⟨BR, -, hz⟩ := box1 w [.int .i64 0, .int .i64 0] 39 (hV ▸ Ext.refl _ : Ext (w.alloc (.cells #[.int .i64 0, .int .i64 0] 39)) V)
  simp only [hV]
  clear hV
  obtain ⟨X, hX⟩ : ∃ X : Nat → Prop, X = fun k => w.heap.size ≤ k := ⟨_, rfl⟩
  have x0 : ∀ k, k < w.heap.size → ¬ X k := fun k h => by rw [hX]; simp; omega
  have xC : X w.heap.size := by rw [hX]; exact Nat.le_refl _
  clear hX
  have D0 := B0.ext hE l0
  have D1 := B1.ext hE l1
  have D2 := B2.ext hE l2
  have c0 := cell_reC (D0 0 _ rfl).1 (x0 _ (by first | omega | (simp only; omega)))
  have c1 := cell_reC (D0 1 _ rfl).1 (x0 _ (by first | omega | (simp only; omega)))
  have c2 := cell_reC (D0 2 _ rfl).1 (x0 _ (by first | omega | (simp only; omega)))
  have c3 := cell_reC (D0 3 _ rfl).1 (x0 _ (by first | omega | (simp only; omega)))
  have c4 := cell_reC (D0 4 _ rfl).1 (x0 _ (by first | omega | (simp only; omega)))
  have d0 := cell_reC (D1 0 _ rfl).1 (x0 _ (by first | omega | (simp only; omega)))
  have e0 := cell_reC (D2 0 _ rfl).1 (x0 _ (by first | omega | (simp only; omega)))
  have e1 := cell_reC (D2 1 _ rfl).1 (x0 _ (by first | omega | (simp only; omega)))
  refine anyK_begin X 6 rfl (by kernel_rfl) ?_
  refine anyK_take 0 4 2 rfl (by decide) (by kernel_rfl) (fun _ _ d _ _ h => by cases d <;> exact h) ?_
  repeat (refine headC_step (fun K hK => ?_); go_simp; first | (refine hK _ ?_; clear hK K) | (apply Exists.intro; refine ⟨fun _ => ?_, hK _ ?_⟩; ((go_at_call 57; exact Calls.re_of (hG.out _))); clear hK K))
  refine headC_nil ?_
  clear c0 c1 c2 c3 c4 d0 e0 e1
  refine anyK_one 4 (by kernel_rfl) ?_
  refine stepK_run rfl ?_
  intro w2 h2 K hK
  go_simp
  refine (hF.out _).mono ?_
  rintro e w3 ⟨rfl, h3⟩
  exact ⟨rfl, rfl, (hE.trans h2).trans h3⟩

set_option maxHeartbeats 1600000 in
set_option maxRecDepth 100000 in
theorem cloEdCofactor_yes (P D L bx cy : Int) (a : Pr) (r : Pr) (C0 C1 : Nat) (w : World) (B0 : Blk w C0 [.int .i64 P, .int .i64 D, .int .i64 L, .int .i64 bx, .int .i64 cy]) (l0 : C0 < w.heap.size) (B1 : Blk w C1 [.int .i64 a.x, .int .i64 a.y]) (l1 : C1 < w.heap.size) (hG : Hid (∀ W : World, Calls Tryd.prog 57 #[.agg #[.int .i64 P, .int .i64 D, .int .i64 L, .int .i64 bx, .int .i64 cy]] W fun e w' => e = .returned (.agg #[.int .i64 0, .int .i64 1, .int .i64 bx, .int .i64 cy, .func (.func 102) #[.agg #[.int .i64 P, .int .i64 D, .int .i64 L, .int .i64 bx, .int .i64 cy]] #[], .func (.func 103) #[.agg #[.int .i64 P, .int .i64 D, .int .i64 L, .int .i64 bx, .int .i64 cy]] #[], .func (.func 104) #[.agg #[.int .i64 P, .int .i64 D, .int .i64 L, .int .i64 bx, .int .i64 cy]] #[], .func (.func 105) #[.agg #[.int .i64 P, .int .i64 D, .int .i64 L, .int .i64 bx, .int .i64 cy]] #[], .func (.func 106) #[] #[]]) ∧ Ext W w')) (hF : Hid (∀ W : World, Calls Tryd.prog 64 #[.agg #[.int .i64 0, .int .i64 1, .int .i64 bx, .int .i64 cy, .func (.func 102) #[.agg #[.int .i64 P, .int .i64 D, .int .i64 L, .int .i64 bx, .int .i64 cy]] #[], .func (.func 103) #[.agg #[.int .i64 P, .int .i64 D, .int .i64 L, .int .i64 bx, .int .i64 cy]] #[], .func (.func 104) #[.agg #[.int .i64 P, .int .i64 D, .int .i64 L, .int .i64 bx, .int .i64 cy]] #[], .func (.func 105) #[.agg #[.int .i64 P, .int .i64 D, .int .i64 L, .int .i64 bx, .int .i64 cy]] #[], .func (.func 106) #[] #[]], .int .i64 8, .agg #[.int .i64 a.x, .int .i64 a.y]] W fun e w' => e = .returned (.agg #[.int .i64 r.x, .int .i64 r.y]) ∧ Ext W w')) :
    Calls Tryd.prog 65 #[.pointer (some ⟨C0, 0, none⟩), .pointer (some ⟨C1, 0, none⟩)] w fun e w' => e = .returned (.agg #[.int .i64 r.x, .int .i64 r.y]) ∧ Ext w w' := by
  go_enter Tryd.func65, Tryd.ntmps65
  go_wp2
  obtain ⟨V, hV⟩ : ∃ V, w.alloc (.cells #[.int .i64 0, .int .i64 0] 39) = V := ⟨_, rfl⟩
  have hE : Ext w V := hV ▸ Ext.alloc _ _
  obtain ⟨BR, -, hz⟩ := box1 w [.int .i64 0, .int .i64 0] 39 (hV ▸ Ext.refl _ : Ext (w.alloc (.cells #[.int .i64 0, .int .i64 0] 39)) V)
  simp only [hV]
  clear hV
  obtain ⟨X, hX⟩ : ∃ X : Nat → Prop, X = fun k => w.heap.size ≤ k := ⟨_, rfl⟩
  have x0 : ∀ k, k < w.heap.size → ¬ X k := fun k h => by rw [hX]; simp; omega
  have xC : X w.heap.size := by rw [hX]; exact Nat.le_refl _
  clear hX
  have D0 := B0.ext hE l0
  have D1 := B1.ext hE l1
  have c0 := cell_reC (D0 0 _ rfl).1 (x0 _ (by first | omega | (simp only; omega)))
  have c1 := cell_reC (D0 1 _ rfl).1 (x0 _ (by first | omega | (simp only; omega)))
  have c2 := cell_reC (D0 2 _ rfl).1 (x0 _ (by first | omega | (simp only; omega)))
  have c3 := cell_reC (D0 3 _ rfl).1 (x0 _ (by first | omega | (simp only; omega)))
  have c4 := cell_reC (D0 4 _ rfl).1 (x0 _ (by first | omega | (simp only; omega)))
  have d0 := cell_reC (D1 0 _ rfl).1 (x0 _ (by first | omega | (simp only; omega)))
  have d1 := cell_reC (D1 1 _ rfl).1 (x0 _ (by first | omega | (simp only; omega)))
  refine anyK_begin X 5 rfl (by kernel_rfl) ?_
  refine anyK_take 0 4 1 rfl (by decide) (by kernel_rfl) (fun _ _ d _ _ h => by cases d <;> exact h) ?_
  repeat (refine headC_step (fun K hK => ?_); go_simp; first | (refine hK _ ?_; clear hK K) | (apply Exists.intro; refine ⟨fun _ => ?_, hK _ ?_⟩; (first | (go_at_call 57; exact Calls.re_of (hG.out _)) | (go_at_call 64; exact Calls.re_of (hF.out _))); clear hK K))
  refine headC_nil ?_
  clear c0 c1 c2 c3 c4 d0 d1
  refine anyK_one 4 (by kernel_rfl) ?_
  refine stepK_run rfl ?_
  intro w2 h2 K hK
  have BZ := BR.ext h2 (by omega)
  have d0 := (BZ 0 _ rfl).1
  have d1 := (BZ 1 _ rfl).1
  have z0 := (BZ 0 _ rfl).2
  have z1 := (BZ 1 _ rfl).2
  go_simp
  refine hK _ _ (show Grw X V (putL (w.heap.size) 0 [.int .i64 r.x, .int .i64 r.y] w2) from Grw.putL xC _ _ _ (.of_ext h2)) ?_
  clear hK K d0 d1 z0 z1
  refine anyK_done (by kernel_rfl) ?_ 0
  intro w3 h3
  replace h3 : Ext (putL (w.heap.size) 0 [.int .i64 r.x, .int .i64 r.y] w2) w3 := h3
  have BW := (BZ.put [.int .i64 r.x, .int .i64 r.y] rfl).ext h3 (by rw [size_putL]; have := Below.size h2; omega)
  have hX : Ext w w3 := ((hE.trans h2).putL (by omega) [.int .i64 r.x, .int .i64 r.y]).trans h3
  clear h2 h3 BZ
  have q0 := (BW 0 _ rfl).1
  have q1 := (BW 1 _ rfl).1
  go_wp2
  refine bodyPost_ret (v := .agg #[.int .i64 r.x, .int .i64 r.y]) (by simp [results, Tryd.results65, go_sem, q0, q1]) rfl ⟨rfl, hX⟩

set_option maxHeartbeats 1600000 in
set_option maxRecDepth 100000 in
theorem cloEdCofactor_noG (P D L bx cy : Int) (a : Pr) (C0 C1 : Nat) (w : World) (B0 : Blk w C0 [.int .i64 P, .int .i64 D, .int .i64 L, .int .i64 bx, .int .i64 cy]) (l0 : C0 < w.heap.size) (B1 : Blk w C1 [.int .i64 a.x, .int .i64 a.y]) (l1 : C1 < w.heap.size) (hG : Hid (∀ W : World, Calls Tryd.prog 57 #[.agg #[.int .i64 P, .int .i64 D, .int .i64 L, .int .i64 bx, .int .i64 cy]] W fun e w' => e = .panicked [nrE] ∧ Ext W w')) :
    Calls Tryd.prog 65 #[.pointer (some ⟨C0, 0, none⟩), .pointer (some ⟨C1, 0, none⟩)] w fun e w' => e = .panicked [nrE] ∧ Ext w w' := by
  go_enter Tryd.func65, Tryd.ntmps65
  go_wp2
  obtain ⟨V, hV⟩ : ∃ V, w.alloc (.cells #[.int .i64 0, .int .i64 0] 39) = V := ⟨_, rfl⟩
  have hE : Ext w V := hV ▸ Ext.alloc _ _
  obtain ⟨BR, -, hz⟩ := box1 w [.int .i64 0, .int .i64 0] 39 (hV ▸ Ext.refl _ : Ext (w.alloc (.cells #[.int .i64 0, .int .i64 0] 39)) V)
  simp only [hV]
  clear hV
  obtain ⟨X, hX⟩ : ∃ X : Nat → Prop, X = fun k => w.heap.size ≤ k := ⟨_, rfl⟩
  have x0 : ∀ k, k < w.heap.size → ¬ X k := fun k h => by rw [hX]; simp; omega
  have xC : X w.heap.size := by rw [hX]; exact Nat.le_refl _
  clear hX
  have D0 := B0.ext hE l0
  have D1 := B1.ext hE l1
  have c0 := cell_reC (D0 0 _ rfl).1 (x0 _ (by first | omega | (simp only; omega)))
  have c1 := cell_reC (D0 1 _ rfl).1 (x0 _ (by first | omega | (simp only; omega)))
  have c2 := cell_reC (D0 2 _ rfl).1 (x0 _ (by first | omega | (simp only; omega)))
  have c3 := cell_reC (D0 3 _ rfl).1 (x0 _ (by first | omega | (simp only; omega)))
  have c4 := cell_reC (D0 4 _ rfl).1 (x0 _ (by first | omega | (simp only; omega)))
  have d0 := cell_reC (D1 0 _ rfl).1 (x0 _ (by first | omega | (simp only; omega)))
  have d1 := cell_reC (D1 1 _ rfl).1 (x0 _ (by first | omega | (simp only; omega)))
  refine anyK_begin X 5 rfl (by kernel_rfl) ?_
  refine anyK_take 0 1 4 rfl (by decide) (by kernel_rfl) (fun _ _ d _ _ h => by cases d <;> exact h) ?_
  repeat (refine headC_step (fun K hK => ?_); go_simp; first | (refine hK _ ?_; clear hK K) | (apply Exists.intro; refine ⟨fun _ => ?_, hK _ ?_⟩; (fail); clear hK K))
  refine headC_nil ?_
  refine anyK_take 2 1 3 rfl (by decide) (by kernel_rfl) (fun _ _ d _ _ h => by cases d <;> exact h) ?_
  repeat (refine headC_step (fun K hK => ?_); go_simp; first | (refine hK _ ?_; clear hK K) | (apply Exists.intro; refine ⟨fun _ => ?_, hK _ ?_⟩; (fail); clear hK K))
  refine headC_nil ?_
  clear c0 c1 c2 c3 c4 d0 d1
  refine anyK_one 1 (by kernel_rfl) ?_
  refine stepK_run rfl ?_
  intro w2 h2 K hK
  go_simp
  refine (hG.out _).mono ?_
  rintro e w3 ⟨rfl, h3⟩
  exact ⟨rfl, rfl, (hE.trans h2).trans h3⟩

set_option maxHeartbeats 1600000 in
set_option maxRecDepth 100000 in
theorem cloEdCofactor_noF (P D L bx cy : Int) (a : Pr) (C0 C1 : Nat) (w : World) (B0 : Blk w C0 [.int .i64 P, .int .i64 D, .int .i64 L, .int .i64 bx, .int .i64 cy]) (l0 : C0 < w.heap.size) (B1 : Blk w C1 [.int .i64 a.x, .int .i64 a.y]) (l1 : C1 < w.heap.size) (hG : Hid (∀ W : World, Calls Tryd.prog 57 #[.agg #[.int .i64 P, .int .i64 D, .int .i64 L, .int .i64 bx, .int .i64 cy]] W fun e w' => e = .returned (.agg #[.int .i64 0, .int .i64 1, .int .i64 bx, .int .i64 cy, .func (.func 102) #[.agg #[.int .i64 P, .int .i64 D, .int .i64 L, .int .i64 bx, .int .i64 cy]] #[], .func (.func 103) #[.agg #[.int .i64 P, .int .i64 D, .int .i64 L, .int .i64 bx, .int .i64 cy]] #[], .func (.func 104) #[.agg #[.int .i64 P, .int .i64 D, .int .i64 L, .int .i64 bx, .int .i64 cy]] #[], .func (.func 105) #[.agg #[.int .i64 P, .int .i64 D, .int .i64 L, .int .i64 bx, .int .i64 cy]] #[], .func (.func 106) #[] #[]]) ∧ Ext W w')) (hF : Hid (∀ W : World, Calls Tryd.prog 64 #[.agg #[.int .i64 0, .int .i64 1, .int .i64 bx, .int .i64 cy, .func (.func 102) #[.agg #[.int .i64 P, .int .i64 D, .int .i64 L, .int .i64 bx, .int .i64 cy]] #[], .func (.func 103) #[.agg #[.int .i64 P, .int .i64 D, .int .i64 L, .int .i64 bx, .int .i64 cy]] #[], .func (.func 104) #[.agg #[.int .i64 P, .int .i64 D, .int .i64 L, .int .i64 bx, .int .i64 cy]] #[], .func (.func 105) #[.agg #[.int .i64 P, .int .i64 D, .int .i64 L, .int .i64 bx, .int .i64 cy]] #[], .func (.func 106) #[] #[]], .int .i64 8, .agg #[.int .i64 a.x, .int .i64 a.y]] W fun e w' => e = .panicked [nrE] ∧ Ext W w')) :
    Calls Tryd.prog 65 #[.pointer (some ⟨C0, 0, none⟩), .pointer (some ⟨C1, 0, none⟩)] w fun e w' => e = .panicked [nrE] ∧ Ext w w' := by
  go_enter Tryd.func65, Tryd.ntmps65
  go_wp2
  obtain ⟨V, hV⟩ : ∃ V, w.alloc (.cells #[.int .i64 0, .int .i64 0] 39) = V := ⟨_, rfl⟩
  have hE : Ext w V := hV ▸ Ext.alloc _ _
  obtain ⟨BR, -, hz⟩ := box1 w [.int .i64 0, .int .i64 0] 39 (hV ▸ Ext.refl _ : Ext (w.alloc (.cells #[.int .i64 0, .int .i64 0] 39)) V)
  simp only [hV]
  clear hV
  obtain ⟨X, hX⟩ : ∃ X : Nat → Prop, X = fun k => w.heap.size ≤ k := ⟨_, rfl⟩
  have x0 : ∀ k, k < w.heap.size → ¬ X k := fun k h => by rw [hX]; simp; omega
  have xC : X w.heap.size := by rw [hX]; exact Nat.le_refl _
  clear hX
  have D0 := B0.ext hE l0
  have D1 := B1.ext hE l1
  have c0 := cell_reC (D0 0 _ rfl).1 (x0 _ (by first | omega | (simp only; omega)))
  have c1 := cell_reC (D0 1 _ rfl).1 (x0 _ (by first | omega | (simp only; omega)))
  have c2 := cell_reC (D0 2 _ rfl).1 (x0 _ (by first | omega | (simp only; omega)))
  have c3 := cell_reC (D0 3 _ rfl).1 (x0 _ (by first | omega | (simp only; omega)))
  have c4 := cell_reC (D0 4 _ rfl).1 (x0 _ (by first | omega | (simp only; omega)))
  have d0 := cell_reC (D1 0 _ rfl).1 (x0 _ (by first | omega | (simp only; omega)))
  have d1 := cell_reC (D1 1 _ rfl).1 (x0 _ (by first | omega | (simp only; omega)))
  refine anyK_begin X 5 rfl (by kernel_rfl) ?_
  refine anyK_take 0 3 2 rfl (by decide) (by kernel_rfl) (fun _ _ d _ _ h => by cases d <;> exact h) ?_
  repeat (refine headC_step (fun K hK => ?_); go_simp; first | (refine hK _ ?_; clear hK K) | (apply Exists.intro; refine ⟨fun _ => ?_, hK _ ?_⟩; ((go_at_call 57; exact Calls.re_of (hG.out _))); clear hK K))
  refine headC_nil ?_
  clear c0 c1 c2 c3 c4 d0 d1
  refine anyK_one 3 (by kernel_rfl) ?_
  refine stepK_run rfl ?_
  intro w2 h2 K hK
  go_simp
  refine (hF.out _).mono ?_
  rintro e w3 ⟨rfl, h3⟩
  exact ⟨rfl, rfl, (hE.trans h2).trans h3⟩

set_option maxHeartbeats 1600000 in
set_option maxRecDepth 100000 in
theorem expPairOk_yes (P D L bx cy : Int) (a : Pr) (r : Pr) (hC : Hid (∀ (C0 C1 : Nat) (w : World), Blk w C0 [.int .i64 P, .int .i64 D, .int .i64 L, .int .i64 bx, .int .i64 cy] → C0 < w.heap.size → Blk w C1 [.int .i64 a.x, .int .i64 a.y] → C1 < w.heap.size → Calls Tryd.prog 59 #[.pointer (some ⟨C0, 0, none⟩), .pointer (some ⟨C1, 0, none⟩)] w fun e w' => e = .returned (.agg #[.int .i64 r.x, .int .i64 r.y]) ∧ Ext w w')) (w : World) :
    Calls Tryd.prog 16 #[.agg #[.int .i64 P, .int .i64 D, .int .i64 L, .int .i64 bx, .int .i64 cy], .agg #[.int .i64 a.x, .int .i64 a.y]] w fun e w' => e = .returned (.bool true) ∧ Ext w w' := by
  have hmf : ∀ (fn : Fn) (first cap : Array Value) (w : World), (Instr.makeFunc fn first cap).run Tryd.prog w = .ok (.func fn first cap) w := fun _ _ _ _ => rfl
  go_enter Tryd.func16, Tryd.ntmps16
  go_wp2_with fail
  refine (answPr_yes 59 #[.pointer (some ⟨w.heap.size, 0, none⟩), .pointer (some ⟨w.heap.size + 1, 0, none⟩)] (fun _ _ => rfl) r _ (fun W hW => ?_)).mono ?_
  · obtain ⟨B0, B1, hE, hz⟩ := box2 w [.int .i64 P, .int .i64 D, .int .i64 L, .int .i64 bx, .int .i64 cy] [.int .i64 a.x, .int .i64 a.y] 37 39 hW
    exact hC.out _ _ _ B0 (by omega) B1 (by omega)
  rintro e w1 ⟨rfl, hw1⟩
  obtain ⟨B0, B1, hE, hz⟩ := box2 w [.int .i64 P, .int .i64 D, .int .i64 L, .int .i64 bx, .int .i64 cy] [.int .i64 a.x, .int .i64 a.y] 37 39 hw1
  clear hw1 hC
  go_wp2
  go_ret
  refine ⟨rfl, hE.trans ?_⟩
  first | exact Ext.alloc _ _ | exact (Ext.alloc _ _).putL (Nat.le_refl _) [.int .i64 r.x, .int .i64 r.y]

set_option maxHeartbeats 1600000 in
set_option maxRecDepth 100000 in
theorem expPairOk_no (P D L bx cy : Int) (a : Pr) (hC : Hid (∀ (C0 C1 : Nat) (w : World), Blk w C0 [.int .i64 P, .int .i64 D, .int .i64 L, .int .i64 bx, .int .i64 cy] → C0 < w.heap.size → Blk w C1 [.int .i64 a.x, .int .i64 a.y] → C1 < w.heap.size → Calls Tryd.prog 59 #[.pointer (some ⟨C0, 0, none⟩), .pointer (some ⟨C1, 0, none⟩)] w fun e w' => e = .panicked [nrE] ∧ Ext w w')) (w : World) :
    Calls Tryd.prog 16 #[.agg #[.int .i64 P, .int .i64 D, .int .i64 L, .int .i64 bx, .int .i64 cy], .agg #[.int .i64 a.x, .int .i64 a.y]] w fun e w' => e = .returned (.bool false) ∧ Ext w w' := by
  have hmf : ∀ (fn : Fn) (first cap : Array Value) (w : World), (Instr.makeFunc fn first cap).run Tryd.prog w = .ok (.func fn first cap) w := fun _ _ _ _ => rfl
  go_enter Tryd.func16, Tryd.ntmps16
  go_wp2_with fail
  refine (answPr_no 59 #[.pointer (some ⟨w.heap.size, 0, none⟩), .pointer (some ⟨w.heap.size + 1, 0, none⟩)] (fun _ _ => rfl) _ (fun W hW => ?_)).mono ?_
  · obtain ⟨B0, B1, hE, hz⟩ := box2 w [.int .i64 P, .int .i64 D, .int .i64 L, .int .i64 bx, .int .i64 cy] [.int .i64 a.x, .int .i64 a.y] 37 39 hW
    exact hC.out _ _ _ B0 (by omega) B1 (by omega)
  rintro e w1 ⟨rfl, hw1⟩
  obtain ⟨B0, B1, hE, hz⟩ := box2 w [.int .i64 P, .int .i64 D, .int .i64 L, .int .i64 bx, .int .i64 cy] [.int .i64 a.x, .int .i64 a.y] 37 39 hw1
  clear hw1 hC
  go_wp2
  go_ret
  refine ⟨rfl, hE.trans ?_⟩
  first | exact Ext.alloc _ _ | exact (Ext.alloc _ _).putL (Nat.le_refl _) [.int .i64 0, .int .i64 0]

set_option maxHeartbeats 1600000 in
set_option maxRecDepth 100000 in
theorem expEdAdd_yes (P D L bx cy : Int) (a : Pr) (b : Pr) (r : Pr) (hC : Hid (∀ (C0 C1 C2 : Nat) (w : World), Blk w C0 [.int .i64 P, .int .i64 D, .int .i64 L, .int .i64 bx, .int .i64 cy] → C0 < w.heap.size → Blk w C1 [.int .i64 a.x, .int .i64 a.y] → C1 < w.heap.size → Blk w C2 [.int .i64 b.x, .int .i64 b.y] → C2 < w.heap.size → Calls Tryd.prog 61 #[.pointer (some ⟨C0, 0, none⟩), .pointer (some ⟨C1, 0, none⟩), .pointer (some ⟨C2, 0, none⟩)] w fun e w' => e = .returned (.agg #[.int .i64 r.x, .int .i64 r.y]) ∧ Ext w w')) (w : World) :
    Calls Tryd.prog 17 #[.agg #[.int .i64 P, .int .i64 D, .int .i64 L, .int .i64 bx, .int .i64 cy], .agg #[.int .i64 a.x, .int .i64 a.y], .agg #[.int .i64 b.x, .int .i64 b.y]] w fun e w' => e = .returned (.tuple #[.agg #[.int .i64 r.x, .int .i64 r.y], .bool true]) ∧ Ext w w' := by
  have hmf : ∀ (fn : Fn) (first cap : Array Value) (w : World), (Instr.makeFunc fn first cap).run Tryd.prog w = .ok (.func fn first cap) w := fun _ _ _ _ => rfl
  go_enter Tryd.func17, Tryd.ntmps17
  go_wp2_with fail
  refine (answPr_yes 61 #[.pointer (some ⟨w.heap.size, 0, none⟩), .pointer (some ⟨w.heap.size + 1, 0, none⟩), .pointer (some ⟨w.heap.size + 1 + 1, 0, none⟩)] (fun _ _ => rfl) r _ (fun W hW => ?_)).mono ?_
  · obtain ⟨B0, B1, B2, B3, hE, hz⟩ := box4 w [.int .i64 P, .int .i64 D, .int .i64 L, .int .i64 bx, .int .i64 cy] [.int .i64 a.x, .int .i64 a.y] [.int .i64 b.x, .int .i64 b.y] [.int .i64 0, .int .i64 0] 37 39 39 39 hW
    exact hC.out _ _ _ _ B0 (by omega) B1 (by omega) B2 (by omega)
  rintro e w1 ⟨rfl, hw1⟩
  obtain ⟨B0, B1, B2, B3, hE, hz⟩ := box4 w [.int .i64 P, .int .i64 D, .int .i64 L, .int .i64 bx, .int .i64 cy] [.int .i64 a.x, .int .i64 a.y] [.int .i64 b.x, .int .i64 b.y] [.int .i64 0, .int .i64 0] 37 39 39 39 hw1
  clear hw1 hC
  have d0 := (B3 0 _ rfl).1
  have d1 := (B3 1 _ rfl).1
  have z0 := (B3 0 _ rfl).2
  have z1 := (B3 1 _ rfl).2
  go_wp2
  obtain ⟨W, hW⟩ : ∃ W, putL (w.heap.size + 1 + 1 + 1) 0 [.int .i64 r.x, .int .i64 r.y] w1 = W := ⟨_, rfl⟩
  have BW := Blk.put B3 [.int .i64 r.x, .int .i64 r.y] rfl
  rw [hW] at BW
  have hF : Ext w W := hW ▸ hE.putL (by omega) _
  simp only [putL, Nat.zero_add] at hW
  simp only [hW]
  have q0 := (BW 0 _ rfl).1
  have q1 := (BW 1 _ rfl).1
  refine bodyPost_ret (v := .tuple #[.agg #[.int .i64 r.x, .int .i64 r.y], .bool true]) (by simp [results, Tryd.results17, go_sem, q0, q1]) rfl ⟨rfl, hF⟩

set_option maxHeartbeats 1600000 in
set_option maxRecDepth 100000 in
theorem expEdAdd_no (P D L bx cy : Int) (a : Pr) (b : Pr) (hC : Hid (∀ (C0 C1 C2 : Nat) (w : World), Blk w C0 [.int .i64 P, .int .i64 D, .int .i64 L, .int .i64 bx, .int .i64 cy] → C0 < w.heap.size → Blk w C1 [.int .i64 a.x, .int .i64 a.y] → C1 < w.heap.size → Blk w C2 [.int .i64 b.x, .int .i64 b.y] → C2 < w.heap.size → Calls Tryd.prog 61 #[.pointer (some ⟨C0, 0, none⟩), .pointer (some ⟨C1, 0, none⟩), .pointer (some ⟨C2, 0, none⟩)] w fun e w' => e = .panicked [nrE] ∧ Ext w w')) (w : World) :
    Calls Tryd.prog 17 #[.agg #[.int .i64 P, .int .i64 D, .int .i64 L, .int .i64 bx, .int .i64 cy], .agg #[.int .i64 a.x, .int .i64 a.y], .agg #[.int .i64 b.x, .int .i64 b.y]] w fun e w' => e = .returned (.tuple #[.agg #[.int .i64 0, .int .i64 0], .bool false]) ∧ Ext w w' := by
  have hmf : ∀ (fn : Fn) (first cap : Array Value) (w : World), (Instr.makeFunc fn first cap).run Tryd.prog w = .ok (.func fn first cap) w := fun _ _ _ _ => rfl
  go_enter Tryd.func17, Tryd.ntmps17
  go_wp2_with fail
  refine (answPr_no 61 #[.pointer (some ⟨w.heap.size, 0, none⟩), .pointer (some ⟨w.heap.size + 1, 0, none⟩), .pointer (some ⟨w.heap.size + 1 + 1, 0, none⟩)] (fun _ _ => rfl) _ (fun W hW => ?_)).mono ?_
  · obtain ⟨B0, B1, B2, B3, hE, hz⟩ := box4 w [.int .i64 P, .int .i64 D, .int .i64 L, .int .i64 bx, .int .i64 cy] [.int .i64 a.x, .int .i64 a.y] [.int .i64 b.x, .int .i64 b.y] [.int .i64 0, .int .i64 0] 37 39 39 39 hW
    exact hC.out _ _ _ _ B0 (by omega) B1 (by omega) B2 (by omega)
  rintro e w1 ⟨rfl, hw1⟩
  obtain ⟨B0, B1, B2, B3, hE, hz⟩ := box4 w [.int .i64 P, .int .i64 D, .int .i64 L, .int .i64 bx, .int .i64 cy] [.int .i64 a.x, .int .i64 a.y] [.int .i64 b.x, .int .i64 b.y] [.int .i64 0, .int .i64 0] 37 39 39 39 hw1
  clear hw1 hC
  have d0 := (B3 0 _ rfl).1
  have d1 := (B3 1 _ rfl).1
  have z0 := (B3 0 _ rfl).2
  have z1 := (B3 1 _ rfl).2
  go_wp2
  obtain ⟨W, hW⟩ : ∃ W, putL (w.heap.size + 1 + 1 + 1) 0 [.int .i64 0, .int .i64 0] w1 = W := ⟨_, rfl⟩
  have BW := Blk.put B3 [.int .i64 0, .int .i64 0] rfl
  rw [hW] at BW
  have hF : Ext w W := hW ▸ hE.putL (by omega) _
  simp only [putL, Nat.zero_add] at hW
  simp only [hW]
  have q0 := (BW 0 _ rfl).1
  have q1 := (BW 1 _ rfl).1
  refine bodyPost_ret (v := .tuple #[.agg #[.int .i64 0, .int .i64 0], .bool false]) (by simp [results, Tryd.results17, go_sem, q0, q1]) rfl ⟨rfl, hF⟩

set_option maxHeartbeats 1600000 in
set_option maxRecDepth 100000 in
theorem expEdMul_yes (P D L bx cy : Int) (n : Int) (a : Pr) (r : Pr) (hC : Hid (∀ (C0 C1 C2 : Nat) (w : World), Blk w C0 [.int .i64 P, .int .i64 D, .int .i64 L, .int .i64 bx, .int .i64 cy] → C0 < w.heap.size → Blk w C1 [.int .i64 n] → C1 < w.heap.size → Blk w C2 [.int .i64 a.x, .int .i64 a.y] → C2 < w.heap.size → Calls Tryd.prog 63 #[.pointer (some ⟨C0, 0, none⟩), .pointer (some ⟨C1, 0, none⟩), .pointer (some ⟨C2, 0, none⟩)] w fun e w' => e = .returned (.agg #[.int .i64 r.x, .int .i64 r.y]) ∧ Ext w w')) (w : World) :
    Calls Tryd.prog 19 #[.agg #[.int .i64 P, .int .i64 D, .int .i64 L, .int .i64 bx, .int .i64 cy], .int .i64 n, .agg #[.int .i64 a.x, .int .i64 a.y]] w fun e w' => e = .returned (.tuple #[.agg #[.int .i64 r.x, .int .i64 r.y], .bool true]) ∧ Ext w w' := by
  have hmf : ∀ (fn : Fn) (first cap : Array Value) (w : World), (Instr.makeFunc fn first cap).run Tryd.prog w = .ok (.func fn first cap) w := fun _ _ _ _ => rfl
  go_enter Tryd.func19, Tryd.ntmps19
  go_wp2_with fail
  refine (answPr_yes 63 #[.pointer (some ⟨w.heap.size, 0, none⟩), .pointer (some ⟨w.heap.size + 1, 0, none⟩), .pointer (some ⟨w.heap.size + 1 + 1, 0, none⟩)] (fun _ _ => rfl) r _ (fun W hW => ?_)).mono ?_
  · obtain ⟨B0, B1, B2, B3, hE, hz⟩ := box4 w [.int .i64 P, .int .i64 D, .int .i64 L, .int .i64 bx, .int .i64 cy] [.int .i64 n] [.int .i64 a.x, .int .i64 a.y] [.int .i64 0, .int .i64 0] 37 3 39 39 hW
    exact hC.out _ _ _ _ B0 (by omega) B1 (by omega) B2 (by omega)
  rintro e w1 ⟨rfl, hw1⟩
  obtain ⟨B0, B1, B2, B3, hE, hz⟩ := box4 w [.int .i64 P, .int .i64 D, .int .i64 L, .int .i64 bx, .int .i64 cy] [.int .i64 n] [.int .i64 a.x, .int .i64 a.y] [.int .i64 0, .int .i64 0] 37 3 39 39 hw1
  clear hw1 hC
  have d0 := (B3 0 _ rfl).1
  have d1 := (B3 1 _ rfl).1
  have z0 := (B3 0 _ rfl).2
  have z1 := (B3 1 _ rfl).2
  go_wp2
  obtain ⟨W, hW⟩ : ∃ W, putL (w.heap.size + 1 + 1 + 1) 0 [.int .i64 r.x, .int .i64 r.y] w1 = W := ⟨_, rfl⟩
  have BW := Blk.put B3 [.int .i64 r.x, .int .i64 r.y] rfl
  rw [hW] at BW
  have hF : Ext w W := hW ▸ hE.putL (by omega) _
  simp only [putL, Nat.zero_add] at hW
  simp only [hW]
  have q0 := (BW 0 _ rfl).1
  have q1 := (BW 1 _ rfl).1
  refine bodyPost_ret (v := .tuple #[.agg #[.int .i64 r.x, .int .i64 r.y], .bool true]) (by simp [results, Tryd.results19, go_sem, q0, q1]) rfl ⟨rfl, hF⟩

set_option maxHeartbeats 1600000 in
set_option maxRecDepth 100000 in
theorem expEdMul_no (P D L bx cy : Int) (n : Int) (a : Pr) (hC : Hid (∀ (C0 C1 C2 : Nat) (w : World), Blk w C0 [.int .i64 P, .int .i64 D, .int .i64 L, .int .i64 bx, .int .i64 cy] → C0 < w.heap.size → Blk w C1 [.int .i64 n] → C1 < w.heap.size → Blk w C2 [.int .i64 a.x, .int .i64 a.y] → C2 < w.heap.size → Calls Tryd.prog 63 #[.pointer (some ⟨C0, 0, none⟩), .pointer (some ⟨C1, 0, none⟩), .pointer (some ⟨C2, 0, none⟩)] w fun e w' => e = .panicked [nrE] ∧ Ext w w')) (w : World) :
    Calls Tryd.prog 19 #[.agg #[.int .i64 P, .int .i64 D, .int .i64 L, .int .i64 bx, .int .i64 cy], .int .i64 n, .agg #[.int .i64 a.x, .int .i64 a.y]] w fun e w' => e = .returned (.tuple #[.agg #[.int .i64 0, .int .i64 0], .bool false]) ∧ Ext w w' := by
  have hmf : ∀ (fn : Fn) (first cap : Array Value) (w : World), (Instr.makeFunc fn first cap).run Tryd.prog w = .ok (.func fn first cap) w := fun _ _ _ _ => rfl
  go_enter Tryd.func19, Tryd.ntmps19
  go_wp2_with fail
  refine (answPr_no 63 #[.pointer (some ⟨w.heap.size, 0, none⟩), .pointer (some ⟨w.heap.size + 1, 0, none⟩), .pointer (some ⟨w.heap.size + 1 + 1, 0, none⟩)] (fun _ _ => rfl) _ (fun W hW => ?_)).mono ?_
  · obtain ⟨B0, B1, B2, B3, hE, hz⟩ := box4 w [.int .i64 P, .int .i64 D, .int .i64 L, .int .i64 bx, .int .i64 cy] [.int .i64 n] [.int .i64 a.x, .int .i64 a.y] [.int .i64 0, .int .i64 0] 37 3 39 39 hW
    exact hC.out _ _ _ _ B0 (by omega) B1 (by omega) B2 (by omega)
  rintro e w1 ⟨rfl, hw1⟩
  obtain ⟨B0, B1, B2, B3, hE, hz⟩ := box4 w [.int .i64 P, .int .i64 D, .int .i64 L, .int .i64 bx, .int .i64 cy] [.int .i64 n] [.int .i64 a.x, .int .i64 a.y] [.int .i64 0, .int .i64 0] 37 3 39 39 hw1
  clear hw1 hC
  have d0 := (B3 0 _ rfl).1
  have d1 := (B3 1 _ rfl).1
  have z0 := (B3 0 _ rfl).2
  have z1 := (B3 1 _ rfl).2
  go_wp2
  obtain ⟨W, hW⟩ : ∃ W, putL (w.heap.size + 1 + 1 + 1) 0 [.int .i64 0, .int .i64 0] w1 = W := ⟨_, rfl⟩
  have BW := Blk.put B3 [.int .i64 0, .int .i64 0] rfl
  rw [hW] at BW
  have hF : Ext w W := hW ▸ hE.putL (by omega) _
  simp only [putL, Nat.zero_add] at hW
  simp only [hW]
  have q0 := (BW 0 _ rfl).1
  have q1 := (BW 1 _ rfl).1
  refine bodyPost_ret (v := .tuple #[.agg #[.int .i64 0, .int .i64 0], .bool false]) (by simp [results, Tryd.results19, go_sem, q0, q1]) rfl ⟨rfl, hF⟩

set_option maxHeartbeats 1600000 in
set_option maxRecDepth 100000 in
theorem expEdCofactor_yes (P D L bx cy : Int) (a : Pr) (r : Pr) (hC : Hid (∀ (C0 C1 : Nat) (w : World), Blk w C0 [.int .i64 P, .int .i64 D, .int .i64 L, .int .i64 bx, .int .i64 cy] → C0 < w.heap.size → Blk w C1 [.int .i64 a.x, .int .i64 a.y] → C1 < w.heap.size → Calls Tryd.prog 65 #[.pointer (some ⟨C0, 0, none⟩), .pointer (some ⟨C1, 0, none⟩)] w fun e w' => e = .returned (.agg #[.int .i64 r.x, .int .i64 r.y]) ∧ Ext w w')) (w : World) :
    Calls Tryd.prog 20 #[.agg #[.int .i64 P, .int .i64 D, .int .i64 L, .int .i64 bx, .int .i64 cy], .agg #[.int .i64 a.x, .int .i64 a.y]] w fun e w' => e = .returned (.tuple #[.agg #[.int .i64 r.x, .int .i64 r.y], .bool true]) ∧ Ext w w' := by
  have hmf : ∀ (fn : Fn) (first cap : Array Value) (w : World), (Instr.makeFunc fn first cap).run Tryd.prog w = .ok (.func fn first cap) w := fun _ _ _ _ => rfl
  go_enter Tryd.func20, Tryd.ntmps20
  go_wp2_with fail
  refine (answPr_yes 65 #[.pointer (some ⟨w.heap.size, 0, none⟩), .pointer (some ⟨w.heap.size + 1, 0, none⟩)] (fun _ _ => rfl) r _ (fun W hW => ?_)).mono ?_
  · obtain ⟨B0, B1, B2, hE, hz⟩ := box3 w [.int .i64 P, .int .i64 D, .int .i64 L, .int .i64 bx, .int .i64 cy] [.int .i64 a.x, .int .i64 a.y] [.int .i64 0, .int .i64 0] 37 39 39 hW
    exact hC.out _ _ _ B0 (by omega) B1 (by omega)
  rintro e w1 ⟨rfl, hw1⟩
  obtain ⟨B0, B1, B2, hE, hz⟩ := box3 w [.int .i64 P, .int .i64 D, .int .i64 L, .int .i64 bx, .int .i64 cy] [.int .i64 a.x, .int .i64 a.y] [.int .i64 0, .int .i64 0] 37 39 39 hw1
  clear hw1 hC
  have d0 := (B2 0 _ rfl).1
  have d1 := (B2 1 _ rfl).1
  have z0 := (B2 0 _ rfl).2
  have z1 := (B2 1 _ rfl).2
  go_wp2
  obtain ⟨W, hW⟩ : ∃ W, putL (w.heap.size + 1 + 1) 0 [.int .i64 r.x, .int .i64 r.y] w1 = W := ⟨_, rfl⟩
  have BW := Blk.put B2 [.int .i64 r.x, .int .i64 r.y] rfl
  rw [hW] at BW
  have hF : Ext w W := hW ▸ hE.putL (by omega) _
  simp only [putL, Nat.zero_add] at hW
  simp only [hW]
  have q0 := (BW 0 _ rfl).1
  have q1 := (BW 1 _ rfl).1
  refine bodyPost_ret (v := .tuple #[.agg #[.int .i64 r.x, .int .i64 r.y], .bool true]) (by simp [results, Tryd.results20, go_sem, q0, q1]) rfl ⟨rfl, hF⟩

set_option maxHeartbeats 1600000 in
set_option maxRecDepth 100000 in
theorem expEdCofactor_no (P D L bx cy : Int) (a : Pr) (hC : Hid (∀ (C0 C1 : Nat) (w : World), Blk w C0 [.int .i64 P, .int .i64 D, .int .i64 L, .int .i64 bx, .int .i64 cy] → C0 < w.heap.size → Blk w C1 [.int .i64 a.x, .int .i64 a.y] → C1 < w.heap.size → Calls Tryd.prog 65 #[.pointer (some ⟨C0, 0, none⟩), .pointer (some ⟨C1, 0, none⟩)] w fun e w' => e = .panicked [nrE] ∧ Ext w w')) (w : World) :
    Calls Tryd.prog 20 #[.agg #[.int .i64 P, .int .i64 D, .int .i64 L, .int .i64 bx, .int .i64 cy], .agg #[.int .i64 a.x, .int .i64 a.y]] w fun e w' => e = .returned (.tuple #[.agg #[.int .i64 0, .int .i64 0], .bool false]) ∧ Ext w w' := by
  have hmf : ∀ (fn : Fn) (first cap : Array Value) (w : World), (Instr.makeFunc fn first cap).run Tryd.prog w = .ok (.func fn first cap) w := fun _ _ _ _ => rfl
  go_enter Tryd.func20, Tryd.ntmps20
  go_wp2_with fail
  refine (answPr_no 65 #[.pointer (some ⟨w.heap.size, 0, none⟩), .pointer (some ⟨w.heap.size + 1, 0, none⟩)] (fun _ _ => rfl) _ (fun W hW => ?_)).mono ?_
  · obtain ⟨B0, B1, B2, hE, hz⟩ := box3 w [.int .i64 P, .int .i64 D, .int .i64 L, .int .i64 bx, .int .i64 cy] [.int .i64 a.x, .int .i64 a.y] [.int .i64 0, .int .i64 0] 37 39 39 hW
    exact hC.out _ _ _ B0 (by omega) B1 (by omega)
  rintro e w1 ⟨rfl, hw1⟩
  obtain ⟨B0, B1, B2, hE, hz⟩ := box3 w [.int .i64 P, .int .i64 D, .int .i64 L, .int .i64 bx, .int .i64 cy] [.int .i64 a.x, .int .i64 a.y] [.int .i64 0, .int .i64 0] 37 39 39 hw1
  clear hw1 hC
  have d0 := (B2 0 _ rfl).1
  have d1 := (B2 1 _ rfl).1
  have z0 := (B2 0 _ rfl).2
  have z1 := (B2 1 _ rfl).2
  go_wp2
  obtain ⟨W, hW⟩ : ∃ W, putL (w.heap.size + 1 + 1) 0 [.int .i64 0, .int .i64 0] w1 = W := ⟨_, rfl⟩
  have BW := Blk.put B2 [.int .i64 0, .int .i64 0] rfl
  rw [hW] at BW
  have hF : Ext w W := hW ▸ hE.putL (by omega) _
  simp only [putL, Nat.zero_add] at hW
  simp only [hW]
  have q0 := (BW 0 _ rfl).1
  have q1 := (BW 1 _ rfl).1
  refine bodyPost_ret (v := .tuple #[.agg #[.int .i64 0, .int .i64 0], .bool false]) (by simp [results, Tryd.results20, go_sem, q0, q1]) rfl ⟨rfl, hF⟩

set_option maxHeartbeats 1600000 in
set_option maxRecDepth 100000 in
theorem expEdOk_yes (P D L bx cy : Int) (hG : Hid (∀ W : World, Calls Tryd.prog 57 #[.agg #[.int .i64 P, .int .i64 D, .int .i64 L, .int .i64 bx, .int .i64 cy]] W fun e w' => e = .returned (.agg #[.int .i64 0, .int .i64 1, .int .i64 bx, .int .i64 cy, .func (.func 102) #[.agg #[.int .i64 P, .int .i64 D, .int .i64 L, .int .i64 bx, .int .i64 cy]] #[], .func (.func 103) #[.agg #[.int .i64 P, .int .i64 D, .int .i64 L, .int .i64 bx, .int .i64 cy]] #[], .func (.func 104) #[.agg #[.int .i64 P, .int .i64 D, .int .i64 L, .int .i64 bx, .int .i64 cy]] #[], .func (.func 105) #[.agg #[.int .i64 P, .int .i64 D, .int .i64 L, .int .i64 bx, .int .i64 cy]] #[], .func (.func 106) #[] #[]]) ∧ Ext W w')) (w : World) :
    Calls Tryd.prog 15 #[.agg #[.int .i64 P, .int .i64 D, .int .i64 L, .int .i64 bx, .int .i64 cy]] w fun e w' => e = .returned (.bool true) ∧ Ext w w' := by
  have hmf : ∀ (fn : Fn) (first cap : Array Value) (w : World), (Instr.makeFunc fn first cap).run Tryd.prog w = .ok (.func fn first cap) w := fun _ _ _ _ => rfl
  go_enter Tryd.func15, Tryd.ntmps15
  go_wp2_with fail
  refine (answGPr_yes 57 (fun _ _ => rfl) P D L bx cy _ (fun W hW => hG.out W)).mono ?_
  rintro e w1 ⟨rfl, hw1⟩
  obtain ⟨B0, hE, hz⟩ := box1 w [.int .i64 P, .int .i64 D, .int .i64 L, .int .i64 bx, .int .i64 cy] 37 hw1
  clear hw1 hG
  go_wp2
  go_ret
  refine ⟨rfl, hE.trans ?_⟩
  first | exact Ext.alloc _ _ | exact (Ext.alloc _ _).putL (Nat.le_refl _) [.int .i64 0, .int .i64 1, .int .i64 bx, .int .i64 cy, .func (.func 102) #[.agg #[.int .i64 P, .int .i64 D, .int .i64 L, .int .i64 bx, .int .i64 cy]] #[], .func (.func 103) #[.agg #[.int .i64 P, .int .i64 D, .int .i64 L, .int .i64 bx, .int .i64 cy]] #[], .func (.func 104) #[.agg #[.int .i64 P, .int .i64 D, .int .i64 L, .int .i64 bx, .int .i64 cy]] #[], .func (.func 105) #[.agg #[.int .i64 P, .int .i64 D, .int .i64 L, .int .i64 bx, .int .i64 cy]] #[], .func (.func 106) #[] #[]]

set_option maxHeartbeats 1600000 in
set_option maxRecDepth 100000 in
theorem expEdOk_no (P D L bx cy : Int) (hG : Hid (∀ W : World, Calls Tryd.prog 57 #[.agg #[.int .i64 P, .int .i64 D, .int .i64 L, .int .i64 bx, .int .i64 cy]] W fun e w' => e = .panicked [nrE] ∧ Ext W w')) (w : World) :
    Calls Tryd.prog 15 #[.agg #[.int .i64 P, .int .i64 D, .int .i64 L, .int .i64 bx, .int .i64 cy]] w fun e w' => e = .returned (.bool false) ∧ Ext w w' := by
  have hmf : ∀ (fn : Fn) (first cap : Array Value) (w : World), (Instr.makeFunc fn first cap).run Tryd.prog w = .ok (.func fn first cap) w := fun _ _ _ _ => rfl
  go_enter Tryd.func15, Tryd.ntmps15
  go_wp2_with fail
  refine (answGPr_no 57 (fun _ _ => rfl) P D L bx cy _ (fun W hW => hG.out W)).mono ?_
  rintro e w1 ⟨rfl, hw1⟩
  obtain ⟨B0, hE, hz⟩ := box1 w [.int .i64 P, .int .i64 D, .int .i64 L, .int .i64 bx, .int .i64 cy] 37 hw1
  clear hw1 hG
  go_wp2
  go_ret
  refine ⟨rfl, hE.trans ?_⟩
  first | exact Ext.alloc _ _ | exact (Ext.alloc _ _).putL (Nat.le_refl _) [.int .i64 0, .int .i64 0, .int .i64 0, .int .i64 0, .nilFunc, .nilFunc, .nilFunc, .nilFunc, .nilFunc]

theorem foldPr_at {P D L : Int} (bx cy : Int) (h : EvNum P D L) {a : Pr} (ha : OnE P.toNat D a) {n : Int} (n0 : 0 ≤ n) (n1 : n ≤ 1099511627776) (w : World) : Calls Tryd.prog 64 #[.agg #[.int .i64 0, .int .i64 1, .int .i64 bx, .int .i64 cy, .func (.func 102) #[.agg #[.int .i64 P, .int .i64 D, .int .i64 L, .int .i64 bx, .int .i64 cy]] #[], .func (.func 103) #[.agg #[.int .i64 P, .int .i64 D, .int .i64 L, .int .i64 bx, .int .i64 cy]] #[], .func (.func 104) #[.agg #[.int .i64 P, .int .i64 D, .int .i64 L, .int .i64 bx, .int .i64 cy]] #[], .func (.func 105) #[.agg #[.int .i64 P, .int .i64 D, .int .i64 L, .int .i64 bx, .int .i64 cy]] #[], .func (.func 106) #[] #[]], .int .i64 n, .agg #[.int .i64 a.x, .int .i64 a.y]] w fun e w' => e = .returned (.agg #[.int .i64 (mulE P.toNat D n.toNat a).x, .int .i64 (mulE P.toNat D n.toNat a).y]) ∧ Ext w w' := by
  have := foldPr_yes bx cy h ha n.toNat (by omega) rfl w
  rwa [show ((n.toNat : Nat) : Int) = n by omega] at this

theorem implEdOk_at (P D L bx cy : Int) (hP1 : P ≤ 9223372036854775807) (hL1 : L ≤ 9223372036854775807) (ok : Bool) (hk : ok = true ↔ EvOk P D L bx cy) (w : World) : Calls Tryd.prog 15 #[.agg #[.int .i64 P, .int .i64 D, .int .i64 L, .int .i64 bx, .int .i64 cy]] w fun r w' => r = .returned (.bool ok) ∧ Ext w w' := by
  by_cases h : EvOk P D L bx cy
  · rw [hk.2 h]; exact expEdOk_yes P D L bx cy (groupPr_yes P D L bx cy h) w
  · have e : ok = false := by cases ok; rfl; exact absurd (hk.1 rfl) h
    rw [e]; exact expEdOk_no P D L bx cy (groupPr_no P D L bx cy hP1 hL1 h) w

theorem implPairOk_at (P D L bx cy : Int) (a : Pr) (hP1 : P ≤ 9223372036854775807) (hL1 : L ≤ 9223372036854775807) (ok : Bool) (hk : ok = true ↔ EvOk P D L bx cy ∧ OnE P.toNat D a) (w : World) : Calls Tryd.prog 16 #[.agg #[.int .i64 P, .int .i64 D, .int .i64 L, .int .i64 bx, .int .i64 cy], .agg #[.int .i64 a.x, .int .i64 a.y]] w fun r w' => r = .returned (.bool ok) ∧ Ext w w' := by
  by_cases h : EvOk P D L bx cy
  · by_cases ha : OnE P.toNat D a
    · rw [hk.2 ⟨h, ha⟩]; exact expPairOk_yes P D L bx cy a a (fun C0 C1 w B0 l0 B1 l1 => cloPairOk_yes P D L bx cy a a C0 C1 w B0 l0 B1 l1 (groupPr_yes P D L bx cy h) (knownPr_yes bx cy h.num ha)) w
    · have e : ok = false := by cases ok; rfl; exact absurd (hk.1 rfl).2 ha
      rw [e]; exact expPairOk_no P D L bx cy a (fun C0 C1 w B0 l0 B1 l1 => cloPairOk_noF P D L bx cy a C0 C1 w B0 l0 B1 l1 (groupPr_yes P D L bx cy h) (knownPr_no bx cy h.num ha)) w
  · have e : ok = false := by cases ok; rfl; exact absurd (hk.1 rfl).1 h
    rw [e]; exact expPairOk_no P D L bx cy a (fun C0 C1 w B0 l0 B1 l1 => cloPairOk_noG P D L bx cy a C0 C1 w B0 l0 B1 l1 (groupPr_no P D L bx cy hP1 hL1 h)) w

theorem implEdAdd_yes {P D L bx cy : Int} {a b : Pr} (h : EvOk P D L bx cy) (ha : OnE P.toNat D a) (hb : OnE P.toNat D b) (w : World) : Calls Tryd.prog 17 #[.agg #[.int .i64 P, .int .i64 D, .int .i64 L, .int .i64 bx, .int .i64 cy], .agg #[.int .i64 a.x, .int .i64 a.y], .agg #[.int .i64 b.x, .int .i64 b.y]] w fun r w' => r = .returned (.tuple #[.agg #[.int .i64 (addE P.toNat D a b).x, .int .i64 (addE P.toNat D a b).y], .bool true]) ∧ Ext w w' :=
  expEdAdd_yes P D L bx cy a b _ (fun C0 C1 C2 w B0 l0 B1 l1 B2 l2 => cloEdAdd_yes P D L bx cy a b _ C0 C1 C2 w B0 l0 B1 l1 B2 l2 (groupPr_yes P D L bx cy h) (sumPr_yes bx cy h.num ha hb rfl)) w

theorem implEdAdd_no (P D L bx cy : Int) (a b : Pr) (hP1 : P ≤ 9223372036854775807) (hL1 : L ≤ 9223372036854775807) (h : ¬ (EvOk P D L bx cy ∧ OnE P.toNat D a ∧ OnE P.toNat D b)) (w : World) : Calls Tryd.prog 17 #[.agg #[.int .i64 P, .int .i64 D, .int .i64 L, .int .i64 bx, .int .i64 cy], .agg #[.int .i64 a.x, .int .i64 a.y], .agg #[.int .i64 b.x, .int .i64 b.y]] w fun r w' => r = .returned (.tuple #[.agg #[.int .i64 0, .int .i64 0], .bool false]) ∧ Ext w w' := by
  by_cases hk : EvOk P D L bx cy
  · exact expEdAdd_no P D L bx cy a b (fun C0 C1 C2 w B0 l0 B1 l1 B2 l2 => cloEdAdd_noF P D L bx cy a b C0 C1 C2 w B0 l0 B1 l1 B2 l2 (groupPr_yes P D L bx cy hk) (sumPr_no bx cy hk.num (fun k => h ⟨hk, k⟩))) w
  · exact expEdAdd_no P D L bx cy a b (fun C0 C1 C2 w B0 l0 B1 l1 B2 l2 => cloEdAdd_noG P D L bx cy a b C0 C1 C2 w B0 l0 B1 l1 B2 l2 (groupPr_no P D L bx cy hP1 hL1 hk)) w

theorem implEdMul_yes {P D L bx cy n : Int} {a : Pr} (h : EvOk P D L bx cy) (ha : OnE P.toNat D a) (n0 : 0 ≤ n) (n1 : n ≤ 1099511627776) (w : World) : Calls Tryd.prog 19 #[.agg #[.int .i64 P, .int .i64 D, .int .i64 L, .int .i64 bx, .int .i64 cy], .int .i64 n, .agg #[.int .i64 a.x, .int .i64 a.y]] w fun r w' => r = .returned (.tuple #[.agg #[.int .i64 (mulE P.toNat D n.toNat a).x, .int .i64 (mulE P.toNat D n.toNat a).y], .bool true]) ∧ Ext w w' :=
  expEdMul_yes P D L bx cy n a _ (fun C0 C1 C2 w B0 l0 B1 l1 B2 l2 => cloEdMul_yes P D L bx cy n a _ C0 C1 C2 w B0 l0 B1 l1 B2 l2 (groupPr_yes P D L bx cy h) (foldPr_at bx cy h.num ha n0 n1)) w

theorem implEdMul_no (P D L bx cy n : Int) (a : Pr) (hP1 : P ≤ 9223372036854775807) (hL1 : L ≤ 9223372036854775807) (h : ¬ ((EvOk P D L bx cy ∧ OnE P.toNat D a) ∧ 0 ≤ n ∧ n ≤ 1099511627776)) (w : World) : Calls Tryd.prog 19 #[.agg #[.int .i64 P, .int .i64 D, .int .i64 L, .int .i64 bx, .int .i64 cy], .int .i64 n, .agg #[.int .i64 a.x, .int .i64 a.y]] w fun r w' => r = .returned (.tuple #[.agg #[.int .i64 0, .int .i64 0], .bool false]) ∧ Ext w w' := by
  by_cases hk : EvOk P D L bx cy
  · exact expEdMul_no P D L bx cy n a (fun C0 C1 C2 w B0 l0 B1 l1 B2 l2 => cloEdMul_noF P D L bx cy n a C0 C1 C2 w B0 l0 B1 l1 B2 l2 (groupPr_yes P D L bx cy hk) (foldPr_no bx cy hk.num n (fun k => h ⟨⟨hk, k.2.2⟩, k.1, k.2.1⟩))) w
  · exact expEdMul_no P D L bx cy n a (fun C0 C1 C2 w B0 l0 B1 l1 B2 l2 => cloEdMul_noG P D L bx cy n a C0 C1 C2 w B0 l0 B1 l1 B2 l2 (groupPr_no P D L bx cy hP1 hL1 hk)) w

theorem implEdCof_yes {P D L bx cy : Int} {a : Pr} (h : EvOk P D L bx cy) (ha : OnE P.toNat D a) (w : World) : Calls Tryd.prog 20 #[.agg #[.int .i64 P, .int .i64 D, .int .i64 L, .int .i64 bx, .int .i64 cy], .agg #[.int .i64 a.x, .int .i64 a.y]] w fun r w' => r = .returned (.tuple #[.agg #[.int .i64 (mulE P.toNat D 8 a).x, .int .i64 (mulE P.toNat D 8 a).y], .bool true]) ∧ Ext w w' :=
  expEdCofactor_yes P D L bx cy a _ (fun C0 C1 w B0 l0 B1 l1 => cloEdCofactor_yes P D L bx cy a _ C0 C1 w B0 l0 B1 l1 (groupPr_yes P D L bx cy h) (foldPr_at bx cy h.num ha (n := 8) (by omega) (by omega))) w

theorem implEdCof_no (P D L bx cy : Int) (a : Pr) (hP1 : P ≤ 9223372036854775807) (hL1 : L ≤ 9223372036854775807) (h : ¬ (EvOk P D L bx cy ∧ OnE P.toNat D a)) (w : World) : Calls Tryd.prog 20 #[.agg #[.int .i64 P, .int .i64 D, .int .i64 L, .int .i64 bx, .int .i64 cy], .agg #[.int .i64 a.x, .int .i64 a.y]] w fun r w' => r = .returned (.tuple #[.agg #[.int .i64 0, .int .i64 0], .bool false]) ∧ Ext w w' := by
  by_cases hk : EvOk P D L bx cy
  · exact expEdCofactor_no P D L bx cy a (fun C0 C1 w B0 l0 B1 l1 => cloEdCofactor_noF P D L bx cy a C0 C1 w B0 l0 B1 l1 (groupPr_yes P D L bx cy hk) (foldPr_no bx cy hk.num 8 (fun k => h ⟨hk, k.2.2⟩))) w
  · exact expEdCofactor_no P D L bx cy a (fun C0 C1 w B0 l0 B1 l1 => cloEdCofactor_noG P D L bx cy a C0 C1 w B0 l0 B1 l1 (groupPr_no P D L bx cy hP1 hL1 hk)) w

end Go.Proofs.YtcfpmillbdkpcaaDoor
