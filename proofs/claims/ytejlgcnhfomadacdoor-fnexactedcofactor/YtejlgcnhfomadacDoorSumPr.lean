/- Walks: the group of a curve of the program (impl.Pair): sum. -/
import Derived.Test.YtejlgcnhfomadacDoorGroPr
namespace Go.Proofs.YtejlgcnhfomadacDoor
set_option linter.unusedVariables false
open Go.RowKit

set_option maxHeartbeats 1600000 in
set_option maxRecDepth 100000 in
theorem sumPr_yes {P D L : Int} (bx cy : Int) (h : EvNum P D L) {a b s : Pr} (ha : OnE P.toNat D a) (hb : OnE P.toNat D b) (hs : addE P.toNat D a b = s) (w : World) :
    Calls Tryd.prog 31 #[.agg #[.int .i64 0, .int .i64 1, .int .i64 bx, .int .i64 cy, .func (.func 50) #[.agg #[.int .i64 P, .int .i64 D, .int .i64 L, .int .i64 bx, .int .i64 cy]] #[], .func (.func 51) #[.agg #[.int .i64 P, .int .i64 D, .int .i64 L, .int .i64 bx, .int .i64 cy]] #[], .func (.func 52) #[.agg #[.int .i64 P, .int .i64 D, .int .i64 L, .int .i64 bx, .int .i64 cy]] #[], .func (.func 53) #[.agg #[.int .i64 P, .int .i64 D, .int .i64 L, .int .i64 bx, .int .i64 cy]] #[], .func (.func 54) #[] #[]], .agg #[.int .i64 a.x, .int .i64 a.y], .agg #[.int .i64 b.x, .int .i64 b.y]] w fun e w' => e = .returned (.agg #[.int .i64 s.x, .int .i64 s.y]) ∧ Ext w w' := by
  have HA := hide (knownPr_yes bx cy h ha)
  have HB := hide (knownPr_yes bx cy h hb)
  have HS := hide (addPr_at bx cy h ha hb)
  rw [hs] at HS
  clear h ha hb hs
  go_enter Tryd.func31, Tryd.ntmps31
  go_wp2
  obtain ⟨V, hV⟩ : ∃ V, (((w.alloc (.cells #[.int .i64 0, .int .i64 1, .int .i64 bx, .int .i64 cy, .func (.func 50) #[.agg #[.int .i64 P, .int .i64 D, .int .i64 L, .int .i64 bx, .int .i64 cy]] #[], .func (.func 51) #[.agg #[.int .i64 P, .int .i64 D, .int .i64 L, .int .i64 bx, .int .i64 cy]] #[], .func (.func 52) #[.agg #[.int .i64 P, .int .i64 D, .int .i64 L, .int .i64 bx, .int .i64 cy]] #[], .func (.func 53) #[.agg #[.int .i64 P, .int .i64 D, .int .i64 L, .int .i64 bx, .int .i64 cy]] #[], .func (.func 54) #[] #[]] 55)).alloc (.cells #[.int .i64 a.x, .int .i64 a.y] 26)).alloc (.cells #[.int .i64 b.x, .int .i64 b.y] 26)).alloc (.cells #[.int .i64 0, .int .i64 0] 26) = V := ⟨_, rfl⟩
  obtain ⟨B1, B2, B3, B4, hE, hz⟩ := box4 w [.int .i64 0, .int .i64 1, .int .i64 bx, .int .i64 cy, .func (.func 50) #[.agg #[.int .i64 P, .int .i64 D, .int .i64 L, .int .i64 bx, .int .i64 cy]] #[], .func (.func 51) #[.agg #[.int .i64 P, .int .i64 D, .int .i64 L, .int .i64 bx, .int .i64 cy]] #[], .func (.func 52) #[.agg #[.int .i64 P, .int .i64 D, .int .i64 L, .int .i64 bx, .int .i64 cy]] #[], .func (.func 53) #[.agg #[.int .i64 P, .int .i64 D, .int .i64 L, .int .i64 bx, .int .i64 cy]] #[], .func (.func 54) #[] #[]] [.int .i64 a.x, .int .i64 a.y] [.int .i64 b.x, .int .i64 b.y] [.int .i64 0, .int .i64 0] 55 26 26 26 (hV ▸ Ext.refl _ : Ext ((((w.alloc (.cells #[.int .i64 0, .int .i64 1, .int .i64 bx, .int .i64 cy, .func (.func 50) #[.agg #[.int .i64 P, .int .i64 D, .int .i64 L, .int .i64 bx, .int .i64 cy]] #[], .func (.func 51) #[.agg #[.int .i64 P, .int .i64 D, .int .i64 L, .int .i64 bx, .int .i64 cy]] #[], .func (.func 52) #[.agg #[.int .i64 P, .int .i64 D, .int .i64 L, .int .i64 bx, .int .i64 cy]] #[], .func (.func 53) #[.agg #[.int .i64 P, .int .i64 D, .int .i64 L, .int .i64 bx, .int .i64 cy]] #[], .func (.func 54) #[] #[]] 55)).alloc (.cells #[.int .i64 a.x, .int .i64 a.y] 26)).alloc (.cells #[.int .i64 b.x, .int .i64 b.y] 26)).alloc (.cells #[.int .i64 0, .int .i64 0] 26)) V)
  simp only [hV]
  clear hV
  obtain ⟨X, hX⟩ : ∃ X : Nat → Prop, X = fun k => w.heap.size + 3 ≤ k := ⟨_, rfl⟩
  have x0 : ∀ k, k < w.heap.size + 3 → ¬ X k := fun k h => by rw [hX]; simp; omega
  have xC : X (w.heap.size + 1 + 1 + 1) := by rw [hX]; exact Nat.le_refl _
  clear hX
  have g0 := cell_reC (B1 0 _ rfl).1 (x0 _ (by first | omega | (simp only; omega)))
  have g1 := cell_reC (B1 1 _ rfl).1 (x0 _ (by first | omega | (simp only; omega)))
  have g2 := cell_reC (B1 2 _ rfl).1 (x0 _ (by first | omega | (simp only; omega)))
  have g3 := cell_reC (B1 3 _ rfl).1 (x0 _ (by first | omega | (simp only; omega)))
  have g4 := cell_reC (B1 4 _ rfl).1 (x0 _ (by first | omega | (simp only; omega)))
  have g5 := cell_reC (B1 5 _ rfl).1 (x0 _ (by first | omega | (simp only; omega)))
  have g6 := cell_reC (B1 6 _ rfl).1 (x0 _ (by first | omega | (simp only; omega)))
  have g7 := cell_reC (B1 7 _ rfl).1 (x0 _ (by first | omega | (simp only; omega)))
  have g8 := cell_reC (B1 8 _ rfl).1 (x0 _ (by first | omega | (simp only; omega)))
  have a0 := cell_reC (B2 0 _ rfl).1 (x0 _ (by first | omega | (simp only; omega)))
  have a1 := cell_reC (B2 1 _ rfl).1 (x0 _ (by first | omega | (simp only; omega)))
  have b0 := cell_reC (B3 0 _ rfl).1 (x0 _ (by first | omega | (simp only; omega)))
  have b1 := cell_reC (B3 1 _ rfl).1 (x0 _ (by first | omega | (simp only; omega)))
  refine anyK_begin X 10 rfl (by kernel_rfl) ?_
  refine anyK_take 0 9 1 rfl (by decide) (by kernel_rfl) (fun _ _ d _ _ h => by cases d <;> exact h) ?_
  repeat (refine headC_step (fun K hK => ?_); go_simp; first | (refine hK _ ?_; clear hK K) | (apply Exists.intro; refine ⟨fun _ => ?_, hK _ ?_⟩; (first | (go_at_call_of 39 (a); exact Calls.re_of (HA.out _)) | (go_at_call_of 39 (b); exact Calls.re_of (HB.out _)) | (go_at_call 51; exact Calls.re_of (HS.out _))); clear hK K))
  refine headC_nil ?_
  clear g0 g1 g2 g3 g4 g5 g6 g7 g8 a0 a1 b0 b1
  refine anyK_one 9 (by kernel_rfl) ?_
  refine stepK_run rfl ?_
  intro w2 h2 K hK
  have BZ := B4.ext h2 (by omega)
  have d0 := (BZ 0 _ rfl).1
  have d1 := (BZ 1 _ rfl).1
  have z0 := (BZ 0 _ rfl).2
  have z1 := (BZ 1 _ rfl).2
  go_simp
  refine hK _ _ (show Grw X V (putL (w.heap.size + 1 + 1 + 1) 0 [.int .i64 s.x, .int .i64 s.y] w2) from Grw.putL xC _ _ _ (.of_ext h2)) ?_
  clear hK K d0 d1 z0 z1
  refine anyK_done (by kernel_rfl) ?_ 0
  intro w3 h3
  replace h3 : Ext (putL (w.heap.size + 1 + 1 + 1) 0 [.int .i64 s.x, .int .i64 s.y] w2) w3 := h3
  have BW := (BZ.put [.int .i64 s.x, .int .i64 s.y] rfl).ext h3 (by rw [size_putL]; have := Below.size h2; omega)
  have hF : Ext w w3 := ((hE.trans h2).putL (by omega) [.int .i64 s.x, .int .i64 s.y]).trans h3
  clear h2 h3 BZ
  have q0 := (BW 0 _ rfl).1
  have q1 := (BW 1 _ rfl).1
  go_wp2
  refine bodyPost_ret (v := .agg #[.int .i64 s.x, .int .i64 s.y]) (by simp [results, Tryd.results31, go_sem, q0, q1]) rfl ⟨rfl, hF⟩

set_option maxHeartbeats 1600000 in
set_option maxRecDepth 100000 in
theorem sumPr_noA {P D L : Int} (bx cy : Int) (h : EvNum P D L) {a b : Pr} (ha : ¬ OnE P.toNat D a) (w : World) :
    Calls Tryd.prog 31 #[.agg #[.int .i64 0, .int .i64 1, .int .i64 bx, .int .i64 cy, .func (.func 50) #[.agg #[.int .i64 P, .int .i64 D, .int .i64 L, .int .i64 bx, .int .i64 cy]] #[], .func (.func 51) #[.agg #[.int .i64 P, .int .i64 D, .int .i64 L, .int .i64 bx, .int .i64 cy]] #[], .func (.func 52) #[.agg #[.int .i64 P, .int .i64 D, .int .i64 L, .int .i64 bx, .int .i64 cy]] #[], .func (.func 53) #[.agg #[.int .i64 P, .int .i64 D, .int .i64 L, .int .i64 bx, .int .i64 cy]] #[], .func (.func 54) #[] #[]], .agg #[.int .i64 a.x, .int .i64 a.y], .agg #[.int .i64 b.x, .int .i64 b.y]] w fun e w' => e = .panicked [nrE] ∧ Ext w w' := by
  have HA := hide (knownPr_no bx cy h ha)
  clear h ha
  go_enter Tryd.func31, Tryd.ntmps31
  go_wp2
  obtain ⟨V, hV⟩ : ∃ V, (((w.alloc (.cells #[.int .i64 0, .int .i64 1, .int .i64 bx, .int .i64 cy, .func (.func 50) #[.agg #[.int .i64 P, .int .i64 D, .int .i64 L, .int .i64 bx, .int .i64 cy]] #[], .func (.func 51) #[.agg #[.int .i64 P, .int .i64 D, .int .i64 L, .int .i64 bx, .int .i64 cy]] #[], .func (.func 52) #[.agg #[.int .i64 P, .int .i64 D, .int .i64 L, .int .i64 bx, .int .i64 cy]] #[], .func (.func 53) #[.agg #[.int .i64 P, .int .i64 D, .int .i64 L, .int .i64 bx, .int .i64 cy]] #[], .func (.func 54) #[] #[]] 55)).alloc (.cells #[.int .i64 a.x, .int .i64 a.y] 26)).alloc (.cells #[.int .i64 b.x, .int .i64 b.y] 26)).alloc (.cells #[.int .i64 0, .int .i64 0] 26) = V := ⟨_, rfl⟩
  obtain ⟨B1, B2, B3, B4, hE, hz⟩ := box4 w [.int .i64 0, .int .i64 1, .int .i64 bx, .int .i64 cy, .func (.func 50) #[.agg #[.int .i64 P, .int .i64 D, .int .i64 L, .int .i64 bx, .int .i64 cy]] #[], .func (.func 51) #[.agg #[.int .i64 P, .int .i64 D, .int .i64 L, .int .i64 bx, .int .i64 cy]] #[], .func (.func 52) #[.agg #[.int .i64 P, .int .i64 D, .int .i64 L, .int .i64 bx, .int .i64 cy]] #[], .func (.func 53) #[.agg #[.int .i64 P, .int .i64 D, .int .i64 L, .int .i64 bx, .int .i64 cy]] #[], .func (.func 54) #[] #[]] [.int .i64 a.x, .int .i64 a.y] [.int .i64 b.x, .int .i64 b.y] [.int .i64 0, .int .i64 0] 55 26 26 26 (hV ▸ Ext.refl _ : Ext ((((w.alloc (.cells #[.int .i64 0, .int .i64 1, .int .i64 bx, .int .i64 cy, .func (.func 50) #[.agg #[.int .i64 P, .int .i64 D, .int .i64 L, .int .i64 bx, .int .i64 cy]] #[], .func (.func 51) #[.agg #[.int .i64 P, .int .i64 D, .int .i64 L, .int .i64 bx, .int .i64 cy]] #[], .func (.func 52) #[.agg #[.int .i64 P, .int .i64 D, .int .i64 L, .int .i64 bx, .int .i64 cy]] #[], .func (.func 53) #[.agg #[.int .i64 P, .int .i64 D, .int .i64 L, .int .i64 bx, .int .i64 cy]] #[], .func (.func 54) #[] #[]] 55)).alloc (.cells #[.int .i64 a.x, .int .i64 a.y] 26)).alloc (.cells #[.int .i64 b.x, .int .i64 b.y] 26)).alloc (.cells #[.int .i64 0, .int .i64 0] 26)) V)
  simp only [hV]
  clear hV
  obtain ⟨X, hX⟩ : ∃ X : Nat → Prop, X = fun k => w.heap.size + 3 ≤ k := ⟨_, rfl⟩
  have x0 : ∀ k, k < w.heap.size + 3 → ¬ X k := fun k h => by rw [hX]; simp; omega
  have xC : X (w.heap.size + 1 + 1 + 1) := by rw [hX]; exact Nat.le_refl _
  clear hX
  have g0 := cell_reC (B1 0 _ rfl).1 (x0 _ (by first | omega | (simp only; omega)))
  have g1 := cell_reC (B1 1 _ rfl).1 (x0 _ (by first | omega | (simp only; omega)))
  have g2 := cell_reC (B1 2 _ rfl).1 (x0 _ (by first | omega | (simp only; omega)))
  have g3 := cell_reC (B1 3 _ rfl).1 (x0 _ (by first | omega | (simp only; omega)))
  have g4 := cell_reC (B1 4 _ rfl).1 (x0 _ (by first | omega | (simp only; omega)))
  have g5 := cell_reC (B1 5 _ rfl).1 (x0 _ (by first | omega | (simp only; omega)))
  have g6 := cell_reC (B1 6 _ rfl).1 (x0 _ (by first | omega | (simp only; omega)))
  have g7 := cell_reC (B1 7 _ rfl).1 (x0 _ (by first | omega | (simp only; omega)))
  have g8 := cell_reC (B1 8 _ rfl).1 (x0 _ (by first | omega | (simp only; omega)))
  have a0 := cell_reC (B2 0 _ rfl).1 (x0 _ (by first | omega | (simp only; omega)))
  have a1 := cell_reC (B2 1 _ rfl).1 (x0 _ (by first | omega | (simp only; omega)))
  have b0 := cell_reC (B3 0 _ rfl).1 (x0 _ (by first | omega | (simp only; omega)))
  have b1 := cell_reC (B3 1 _ rfl).1 (x0 _ (by first | omega | (simp only; omega)))
  refine anyK_begin X 10 rfl (by kernel_rfl) ?_
  refine anyK_take 0 4 6 rfl (by decide) (by kernel_rfl) (fun _ _ d _ _ h => by cases d <;> exact h) ?_
  repeat (refine headC_step (fun K hK => ?_); go_simp; first | (refine hK _ ?_; clear hK K) | (apply Exists.intro; refine ⟨fun _ => ?_, hK _ ?_⟩; (fail); clear hK K))
  refine headC_nil ?_
  refine anyK_take 5 2 4 rfl (by decide) (by kernel_rfl) (fun _ _ d _ _ h => by cases d <;> exact h) ?_
  repeat (refine headC_step (fun K hK => ?_); go_simp; first | (refine hK _ ?_; clear hK K) | (apply Exists.intro; refine ⟨fun _ => ?_, hK _ ?_⟩; (fail); clear hK K))
  refine headC_nil ?_
  clear g0 g1 g2 g3 g4 g5 g6 g7 g8 a0 a1 b0 b1
  refine anyK_one 4 (by kernel_rfl) ?_
  refine stepK_run rfl ?_
  intro w2 h2 K hK
  go_simp
  refine (HA.out _).mono ?_
  rintro e w3 ⟨rfl, h3⟩
  exact ⟨rfl, rfl, (hE.trans h2).trans h3⟩

set_option maxHeartbeats 1600000 in
set_option maxRecDepth 100000 in
theorem sumPr_noB {P D L : Int} (bx cy : Int) (h : EvNum P D L) {a b : Pr} (ha : OnE P.toNat D a) (hb : ¬ OnE P.toNat D b) (w : World) :
    Calls Tryd.prog 31 #[.agg #[.int .i64 0, .int .i64 1, .int .i64 bx, .int .i64 cy, .func (.func 50) #[.agg #[.int .i64 P, .int .i64 D, .int .i64 L, .int .i64 bx, .int .i64 cy]] #[], .func (.func 51) #[.agg #[.int .i64 P, .int .i64 D, .int .i64 L, .int .i64 bx, .int .i64 cy]] #[], .func (.func 52) #[.agg #[.int .i64 P, .int .i64 D, .int .i64 L, .int .i64 bx, .int .i64 cy]] #[], .func (.func 53) #[.agg #[.int .i64 P, .int .i64 D, .int .i64 L, .int .i64 bx, .int .i64 cy]] #[], .func (.func 54) #[] #[]], .agg #[.int .i64 a.x, .int .i64 a.y], .agg #[.int .i64 b.x, .int .i64 b.y]] w fun e w' => e = .panicked [nrE] ∧ Ext w w' := by
  have HA := hide (knownPr_yes bx cy h ha)
  have HB := hide (knownPr_no bx cy h hb)
  clear h ha hb
  go_enter Tryd.func31, Tryd.ntmps31
  go_wp2
  obtain ⟨V, hV⟩ : ∃ V, (((w.alloc (.cells #[.int .i64 0, .int .i64 1, .int .i64 bx, .int .i64 cy, .func (.func 50) #[.agg #[.int .i64 P, .int .i64 D, .int .i64 L, .int .i64 bx, .int .i64 cy]] #[], .func (.func 51) #[.agg #[.int .i64 P, .int .i64 D, .int .i64 L, .int .i64 bx, .int .i64 cy]] #[], .func (.func 52) #[.agg #[.int .i64 P, .int .i64 D, .int .i64 L, .int .i64 bx, .int .i64 cy]] #[], .func (.func 53) #[.agg #[.int .i64 P, .int .i64 D, .int .i64 L, .int .i64 bx, .int .i64 cy]] #[], .func (.func 54) #[] #[]] 55)).alloc (.cells #[.int .i64 a.x, .int .i64 a.y] 26)).alloc (.cells #[.int .i64 b.x, .int .i64 b.y] 26)).alloc (.cells #[.int .i64 0, .int .i64 0] 26) = V := ⟨_, rfl⟩
  obtain ⟨B1, B2, B3, B4, hE, hz⟩ := box4 w [.int .i64 0, .int .i64 1, .int .i64 bx, .int .i64 cy, .func (.func 50) #[.agg #[.int .i64 P, .int .i64 D, .int .i64 L, .int .i64 bx, .int .i64 cy]] #[], .func (.func 51) #[.agg #[.int .i64 P, .int .i64 D, .int .i64 L, .int .i64 bx, .int .i64 cy]] #[], .func (.func 52) #[.agg #[.int .i64 P, .int .i64 D, .int .i64 L, .int .i64 bx, .int .i64 cy]] #[], .func (.func 53) #[.agg #[.int .i64 P, .int .i64 D, .int .i64 L, .int .i64 bx, .int .i64 cy]] #[], .func (.func 54) #[] #[]] [.int .i64 a.x, .int .i64 a.y] [.int .i64 b.x, .int .i64 b.y] [.int .i64 0, .int .i64 0] 55 26 26 26 (hV ▸ Ext.refl _ : Ext ((((w.alloc (.cells #[.int .i64 0, .int .i64 1, .int .i64 bx, .int .i64 cy, .func (.func 50) #[.agg #[.int .i64 P, .int .i64 D, .int .i64 L, .int .i64 bx, .int .i64 cy]] #[], .func (.func 51) #[.agg #[.int .i64 P, .int .i64 D, .int .i64 L, .int .i64 bx, .int .i64 cy]] #[], .func (.func 52) #[.agg #[.int .i64 P, .int .i64 D, .int .i64 L, .int .i64 bx, .int .i64 cy]] #[], .func (.func 53) #[.agg #[.int .i64 P, .int .i64 D, .int .i64 L, .int .i64 bx, .int .i64 cy]] #[], .func (.func 54) #[] #[]] 55)).alloc (.cells #[.int .i64 a.x, .int .i64 a.y] 26)).alloc (.cells #[.int .i64 b.x, .int .i64 b.y] 26)).alloc (.cells #[.int .i64 0, .int .i64 0] 26)) V)
  simp only [hV]
  clear hV
  obtain ⟨X, hX⟩ : ∃ X : Nat → Prop, X = fun k => w.heap.size + 3 ≤ k := ⟨_, rfl⟩
  have x0 : ∀ k, k < w.heap.size + 3 → ¬ X k := fun k h => by rw [hX]; simp; omega
  have xC : X (w.heap.size + 1 + 1 + 1) := by rw [hX]; exact Nat.le_refl _
  clear hX
  have g0 := cell_reC (B1 0 _ rfl).1 (x0 _ (by first | omega | (simp only; omega)))
  have g1 := cell_reC (B1 1 _ rfl).1 (x0 _ (by first | omega | (simp only; omega)))
  have g2 := cell_reC (B1 2 _ rfl).1 (x0 _ (by first | omega | (simp only; omega)))
  have g3 := cell_reC (B1 3 _ rfl).1 (x0 _ (by first | omega | (simp only; omega)))
  have g4 := cell_reC (B1 4 _ rfl).1 (x0 _ (by first | omega | (simp only; omega)))
  have g5 := cell_reC (B1 5 _ rfl).1 (x0 _ (by first | omega | (simp only; omega)))
  have g6 := cell_reC (B1 6 _ rfl).1 (x0 _ (by first | omega | (simp only; omega)))
  have g7 := cell_reC (B1 7 _ rfl).1 (x0 _ (by first | omega | (simp only; omega)))
  have g8 := cell_reC (B1 8 _ rfl).1 (x0 _ (by first | omega | (simp only; omega)))
  have a0 := cell_reC (B2 0 _ rfl).1 (x0 _ (by first | omega | (simp only; omega)))
  have a1 := cell_reC (B2 1 _ rfl).1 (x0 _ (by first | omega | (simp only; omega)))
  have b0 := cell_reC (B3 0 _ rfl).1 (x0 _ (by first | omega | (simp only; omega)))
  have b1 := cell_reC (B3 1 _ rfl).1 (x0 _ (by first | omega | (simp only; omega)))
  refine anyK_begin X 10 rfl (by kernel_rfl) ?_
  refine anyK_take 0 7 3 rfl (by decide) (by kernel_rfl) (fun _ _ d _ _ h => by cases d <;> exact h) ?_
  repeat (refine headC_step (fun K hK => ?_); go_simp; first | (refine hK _ ?_; clear hK K) | (apply Exists.intro; refine ⟨fun _ => ?_, hK _ ?_⟩; (exact Calls.re_of (HA.out _)); clear hK K))
  refine headC_nil ?_
  clear g0 g1 g2 g3 g4 g5 g6 g7 g8 a0 a1 b0 b1
  refine anyK_one 7 (by kernel_rfl) ?_
  refine stepK_run rfl ?_
  intro w2 h2 K hK
  go_simp
  refine (HB.out _).mono ?_
  rintro e w3 ⟨rfl, h3⟩
  exact ⟨rfl, rfl, (hE.trans h2).trans h3⟩

theorem sumPr_no {P D L : Int} (bx cy : Int) (h : EvNum P D L) {a b : Pr} (hn : ¬ (OnE P.toNat D a ∧ OnE P.toNat D b)) (w : World) :
    Calls Tryd.prog 31 #[.agg #[.int .i64 0, .int .i64 1, .int .i64 bx, .int .i64 cy, .func (.func 50) #[.agg #[.int .i64 P, .int .i64 D, .int .i64 L, .int .i64 bx, .int .i64 cy]] #[], .func (.func 51) #[.agg #[.int .i64 P, .int .i64 D, .int .i64 L, .int .i64 bx, .int .i64 cy]] #[], .func (.func 52) #[.agg #[.int .i64 P, .int .i64 D, .int .i64 L, .int .i64 bx, .int .i64 cy]] #[], .func (.func 53) #[.agg #[.int .i64 P, .int .i64 D, .int .i64 L, .int .i64 bx, .int .i64 cy]] #[], .func (.func 54) #[] #[]], .agg #[.int .i64 a.x, .int .i64 a.y], .agg #[.int .i64 b.x, .int .i64 b.y]] w fun e w' => e = .panicked [nrE] ∧ Ext w w' := by
  by_cases ha : OnE P.toNat D a
  · exact sumPr_noB bx cy h ha (fun k => hn ⟨ha, k⟩) w
  · exact sumPr_noA bx cy h ha w

end Go.Proofs.YtejlgcnhfomadacDoor
