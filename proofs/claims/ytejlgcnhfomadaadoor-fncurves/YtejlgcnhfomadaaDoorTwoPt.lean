/- Walks: the program's functions over curves (impl.Point): what is handed to answered, and the face. -/
import Derived.Test.YtejlgcnhfomadaaDoorSumPt
import Derived.Test.YtejlgcnhfomadaaDoorFacePt
namespace Go.Proofs.YtejlgcnhfomadaaDoor
set_option linter.unusedVariables false
open Go.RowKit

set_option maxHeartbeats 3200000 in
set_option maxRecDepth 100000 in
theorem cloTwoMul_yes (P A B N gx gy : Int) (u : Int) (v : Int) (q : Pt) (s t r : Pt) (C0 C1 C2 C3 : Nat) (w : World) (B0 : Blk w C0 [.int .i64 P, .int .i64 A, .int .i64 B, .int .i64 N, .int .i64 gx, .int .i64 gy]) (l0 : C0 < w.heap.size) (B1 : Blk w C1 [.int .i64 u]) (l1 : C1 < w.heap.size) (B2 : Blk w C2 [.int .i64 v]) (l2 : C2 < w.heap.size) (B3 : Blk w C3 [.int .i64 q.x, .int .i64 q.y, .bool q.far]) (l3 : C3 < w.heap.size) (hG : Hid (∀ W : World, Calls Tryd.prog 40 #[.agg #[.int .i64 P, .int .i64 A, .int .i64 B, .int .i64 N, .int .i64 gx, .int .i64 gy]] W fun e w' => e = .returned (.agg #[.int .i64 0, .int .i64 0, .bool true, .int .i64 gx, .int .i64 gy, .bool false, .func (.func 87) #[.agg #[.int .i64 P, .int .i64 A, .int .i64 B, .int .i64 N, .int .i64 gx, .int .i64 gy]] #[], .func (.func 88) #[.agg #[.int .i64 P, .int .i64 A, .int .i64 B, .int .i64 N, .int .i64 gx, .int .i64 gy]] #[], .func (.func 89) #[.agg #[.int .i64 P, .int .i64 A, .int .i64 B, .int .i64 N, .int .i64 gx, .int .i64 gy]] #[], .func (.func 90) #[.agg #[.int .i64 P, .int .i64 A, .int .i64 B, .int .i64 N, .int .i64 gx, .int .i64 gy]] #[], .func (.func 91) #[] #[]]) ∧ Ext W w')) (hU : Hid (∀ W : World, Calls Tryd.prog 47 #[.agg #[.int .i64 0, .int .i64 0, .bool true, .int .i64 gx, .int .i64 gy, .bool false, .func (.func 87) #[.agg #[.int .i64 P, .int .i64 A, .int .i64 B, .int .i64 N, .int .i64 gx, .int .i64 gy]] #[], .func (.func 88) #[.agg #[.int .i64 P, .int .i64 A, .int .i64 B, .int .i64 N, .int .i64 gx, .int .i64 gy]] #[], .func (.func 89) #[.agg #[.int .i64 P, .int .i64 A, .int .i64 B, .int .i64 N, .int .i64 gx, .int .i64 gy]] #[], .func (.func 90) #[.agg #[.int .i64 P, .int .i64 A, .int .i64 B, .int .i64 N, .int .i64 gx, .int .i64 gy]] #[], .func (.func 91) #[] #[]], .int .i64 u, .agg #[.int .i64 gx, .int .i64 gy, .bool false]] W fun e w' => e = .returned (.agg #[.int .i64 s.x, .int .i64 s.y, .bool s.far]) ∧ Ext W w')) (hV' : Hid (∀ W : World, Calls Tryd.prog 47 #[.agg #[.int .i64 0, .int .i64 0, .bool true, .int .i64 gx, .int .i64 gy, .bool false, .func (.func 87) #[.agg #[.int .i64 P, .int .i64 A, .int .i64 B, .int .i64 N, .int .i64 gx, .int .i64 gy]] #[], .func (.func 88) #[.agg #[.int .i64 P, .int .i64 A, .int .i64 B, .int .i64 N, .int .i64 gx, .int .i64 gy]] #[], .func (.func 89) #[.agg #[.int .i64 P, .int .i64 A, .int .i64 B, .int .i64 N, .int .i64 gx, .int .i64 gy]] #[], .func (.func 90) #[.agg #[.int .i64 P, .int .i64 A, .int .i64 B, .int .i64 N, .int .i64 gx, .int .i64 gy]] #[], .func (.func 91) #[] #[]], .int .i64 v, .agg #[.int .i64 q.x, .int .i64 q.y, .bool q.far]] W fun e w' => e = .returned (.agg #[.int .i64 t.x, .int .i64 t.y, .bool t.far]) ∧ Ext W w')) (hA : Hid (∀ W : World, Calls Tryd.prog 88 #[.agg #[.int .i64 P, .int .i64 A, .int .i64 B, .int .i64 N, .int .i64 gx, .int .i64 gy], .agg #[.int .i64 s.x, .int .i64 s.y, .bool s.far], .agg #[.int .i64 t.x, .int .i64 t.y, .bool t.far]] W fun e w' => e = .returned (.agg #[.int .i64 r.x, .int .i64 r.y, .bool r.far]) ∧ Ext W w')) :
    Calls Tryd.prog 48 #[.pointer (some ⟨C0, 0, none⟩), .pointer (some ⟨C1, 0, none⟩), .pointer (some ⟨C2, 0, none⟩), .pointer (some ⟨C3, 0, none⟩)] w fun e w' => e = .returned (.agg #[.int .i64 r.x, .int .i64 r.y, .bool r.far]) ∧ Ext w w' := by
  go_enter Tryd.func48, Tryd.ntmps48
  have L0 := Ext.alloc w (.cells #[.int .i64 0, .int .i64 0, .bool false] 27)
  have D0 := B0.ext L0 l0
  have c0 := (D0 0 _ rfl).1
  have c1 := (D0 1 _ rfl).1
  have c2 := (D0 2 _ rfl).1
  have c3 := (D0 3 _ rfl).1
  have c4 := (D0 4 _ rfl).1
  have c5 := (D0 5 _ rfl).1
  have D1 := B1.ext L0 l1
  have d0 := (D1 0 _ rfl).1
  have D2 := B2.ext L0 l2
  have e0 := (D2 0 _ rfl).1
  have D3 := B3.ext L0 l3
  have f0 := (D3 0 _ rfl).1
  have f1 := (D3 1 _ rfl).1
  have f2 := (D3 2 _ rfl).1
  go_wp2_with fail
  refine (hG.out _).mono ?_
  rintro e w1 ⟨rfl, hw1⟩
  clear L0 c0 c1 c2 c3 c4 c5 d0 e0 f0 f1 f2
  obtain ⟨BR, hE1, hz1⟩ := box1 w [.int .i64 0, .int .i64 0, .bool false] 27 hw1
  replace D0 := D0.ext hw1 (by simp; omega)
  replace D1 := D1.ext hw1 (by simp; omega)
  replace D2 := D2.ext hw1 (by simp; omega)
  replace D3 := D3.ext hw1 (by simp; omega)
  clear hw1
  go_wp2
  obtain ⟨V, hV⟩ : ∃ V, w1.alloc (.cells #[.int .i64 0, .int .i64 0, .bool true, .int .i64 gx, .int .i64 gy, .bool false, .func (.func 87) #[.agg #[.int .i64 P, .int .i64 A, .int .i64 B, .int .i64 N, .int .i64 gx, .int .i64 gy]] #[], .func (.func 88) #[.agg #[.int .i64 P, .int .i64 A, .int .i64 B, .int .i64 N, .int .i64 gx, .int .i64 gy]] #[], .func (.func 89) #[.agg #[.int .i64 P, .int .i64 A, .int .i64 B, .int .i64 N, .int .i64 gx, .int .i64 gy]] #[], .func (.func 90) #[.agg #[.int .i64 P, .int .i64 A, .int .i64 B, .int .i64 N, .int .i64 gx, .int .i64 gy]] #[], .func (.func 91) #[] #[]] 77) = V := ⟨_, rfl⟩
  have hE2 : Ext w1 V := hV ▸ Ext.alloc _ _
  obtain ⟨BG, -, hz⟩ := box1 w1 [.int .i64 0, .int .i64 0, .bool true, .int .i64 gx, .int .i64 gy, .bool false, .func (.func 87) #[.agg #[.int .i64 P, .int .i64 A, .int .i64 B, .int .i64 N, .int .i64 gx, .int .i64 gy]] #[], .func (.func 88) #[.agg #[.int .i64 P, .int .i64 A, .int .i64 B, .int .i64 N, .int .i64 gx, .int .i64 gy]] #[], .func (.func 89) #[.agg #[.int .i64 P, .int .i64 A, .int .i64 B, .int .i64 N, .int .i64 gx, .int .i64 gy]] #[], .func (.func 90) #[.agg #[.int .i64 P, .int .i64 A, .int .i64 B, .int .i64 N, .int .i64 gx, .int .i64 gy]] #[], .func (.func 91) #[] #[]] 77 (hV ▸ Ext.refl _ : Ext (w1.alloc (.cells #[.int .i64 0, .int .i64 0, .bool true, .int .i64 gx, .int .i64 gy, .bool false, .func (.func 87) #[.agg #[.int .i64 P, .int .i64 A, .int .i64 B, .int .i64 N, .int .i64 gx, .int .i64 gy]] #[], .func (.func 88) #[.agg #[.int .i64 P, .int .i64 A, .int .i64 B, .int .i64 N, .int .i64 gx, .int .i64 gy]] #[], .func (.func 89) #[.agg #[.int .i64 P, .int .i64 A, .int .i64 B, .int .i64 N, .int .i64 gx, .int .i64 gy]] #[], .func (.func 90) #[.agg #[.int .i64 P, .int .i64 A, .int .i64 B, .int .i64 N, .int .i64 gx, .int .i64 gy]] #[], .func (.func 91) #[] #[]] 77)) V)
  simp only [hV]
  clear hV
  replace BR := BR.ext hE2 (by omega)
  replace D0 := D0.ext hE2 (by omega)
  replace D1 := D1.ext hE2 (by omega)
  replace D2 := D2.ext hE2 (by omega)
  replace D3 := D3.ext hE2 (by omega)
  have hE := hE1.trans hE2
  obtain ⟨S, hS⟩ : ∃ S, w1.heap.size = S := ⟨_, rfl⟩
  simp only [hS] at *
  clear hS hE1 hE2
  obtain ⟨X, hX⟩ : ∃ X : Nat → Prop, X = fun k => k = w.heap.size := ⟨_, rfl⟩
  have x0 : ∀ k, k ≠ w.heap.size → ¬ X k := fun k h => by rw [hX]; exact h
  have xC : X w.heap.size := by rw [hX]
  clear hX
  have c0 := cell_reC (D0 0 _ rfl).1 (x0 _ (by first | omega | (simp only; omega)))
  have c1 := cell_reC (D0 1 _ rfl).1 (x0 _ (by first | omega | (simp only; omega)))
  have c2 := cell_reC (D0 2 _ rfl).1 (x0 _ (by first | omega | (simp only; omega)))
  have c3 := cell_reC (D0 3 _ rfl).1 (x0 _ (by first | omega | (simp only; omega)))
  have c4 := cell_reC (D0 4 _ rfl).1 (x0 _ (by first | omega | (simp only; omega)))
  have c5 := cell_reC (D0 5 _ rfl).1 (x0 _ (by first | omega | (simp only; omega)))
  have d0 := cell_reC (D1 0 _ rfl).1 (x0 _ (by first | omega | (simp only; omega)))
  have e0 := cell_reC (D2 0 _ rfl).1 (x0 _ (by first | omega | (simp only; omega)))
  have f0 := cell_reC (D3 0 _ rfl).1 (x0 _ (by first | omega | (simp only; omega)))
  have f1 := cell_reC (D3 1 _ rfl).1 (x0 _ (by first | omega | (simp only; omega)))
  have f2 := cell_reC (D3 2 _ rfl).1 (x0 _ (by first | omega | (simp only; omega)))
  have g0 := cell_reC (BG 0 _ rfl).1 (x0 _ (by first | omega | (simp only; omega)))
  have g1 := cell_reC (BG 1 _ rfl).1 (x0 _ (by first | omega | (simp only; omega)))
  have g2 := cell_reC (BG 2 _ rfl).1 (x0 _ (by first | omega | (simp only; omega)))
  have g3 := cell_reC (BG 3 _ rfl).1 (x0 _ (by first | omega | (simp only; omega)))
  have g4 := cell_reC (BG 4 _ rfl).1 (x0 _ (by first | omega | (simp only; omega)))
  have g5 := cell_reC (BG 5 _ rfl).1 (x0 _ (by first | omega | (simp only; omega)))
  have g6 := cell_reC (BG 6 _ rfl).1 (x0 _ (by first | omega | (simp only; omega)))
  have g7 := cell_reC (BG 7 _ rfl).1 (x0 _ (by first | omega | (simp only; omega)))
  have g8 := cell_reC (BG 8 _ rfl).1 (x0 _ (by first | omega | (simp only; omega)))
  have g9 := cell_reC (BG 9 _ rfl).1 (x0 _ (by first | omega | (simp only; omega)))
  have g10 := cell_reC (BG 10 _ rfl).1 (x0 _ (by first | omega | (simp only; omega)))
  refine anyK_begin X 13 rfl (by kernel_rfl) ?_
  refine anyK_take 0 12 1 rfl (by decide) (by kernel_rfl) (fun _ _ d _ _ h => by cases d <;> exact h) ?_
  repeat (refine headC_step (fun K hK => ?_); go_simp; first | (refine hK _ ?_; clear hK K) | (apply Exists.intro; refine ⟨fun _ => ?_, hK _ ?_⟩; (first | (go_at_call_of 47 (u); exact Calls.re_of (hU.out _)) | (go_at_call_of 47 (v); exact Calls.re_of (hV'.out _)) | (go_at_call 88; exact Calls.re_of (hA.out _))); clear hK K))
  refine headC_nil ?_
  clear c0 c1 c2 c3 c4 c5 d0 e0 f0 f1 f2 g0 g1 g2 g3 g4 g5 g6 g7 g8 g9 g10
  refine anyK_one 12 (by kernel_rfl) ?_
  refine stepK_run rfl ?_
  intro w2 h2 K hK
  have BZ := BR.ext h2 (by omega)
  have d0 := (BZ 0 _ rfl).1
  have d1 := (BZ 1 _ rfl).1
  have d2 := (BZ 2 _ rfl).1
  have z0 := (BZ 0 _ rfl).2
  have z1 := (BZ 1 _ rfl).2
  have z2 := (BZ 2 _ rfl).2
  go_simp
  refine hK _ _ (show Grw X V (putL (w.heap.size) 0 [.int .i64 r.x, .int .i64 r.y, .bool r.far] w2) from Grw.putL xC _ _ _ (.of_ext h2)) ?_
  clear hK K d0 d1 d2 z0 z1 z2
  refine anyK_done (by kernel_rfl) ?_ 0
  intro w3 h3
  replace h3 : Ext (putL (w.heap.size) 0 [.int .i64 r.x, .int .i64 r.y, .bool r.far] w2) w3 := h3
  have BW := (BZ.put [.int .i64 r.x, .int .i64 r.y, .bool r.far] rfl).ext h3 (by rw [size_putL]; have := Below.size h2; omega)
  have hX : Ext w w3 := ((hE.trans h2).putL (by omega) [.int .i64 r.x, .int .i64 r.y, .bool r.far]).trans h3
  clear h2 h3 BZ
  have q0 := (BW 0 _ rfl).1
  have q1 := (BW 1 _ rfl).1
  have q2 := (BW 2 _ rfl).1
  go_wp2
  refine bodyPost_ret (v := .agg #[.int .i64 r.x, .int .i64 r.y, .bool r.far]) (by simp [results, Tryd.results48, go_sem, q0, q1, q2]) rfl ⟨rfl, hX⟩

set_option maxHeartbeats 3200000 in
set_option maxRecDepth 100000 in
theorem cloTwoMul_noU (P A B N gx gy : Int) (u : Int) (v : Int) (q : Pt) (C0 C1 C2 C3 : Nat) (w : World) (B0 : Blk w C0 [.int .i64 P, .int .i64 A, .int .i64 B, .int .i64 N, .int .i64 gx, .int .i64 gy]) (l0 : C0 < w.heap.size) (B1 : Blk w C1 [.int .i64 u]) (l1 : C1 < w.heap.size) (B2 : Blk w C2 [.int .i64 v]) (l2 : C2 < w.heap.size) (B3 : Blk w C3 [.int .i64 q.x, .int .i64 q.y, .bool q.far]) (l3 : C3 < w.heap.size) (hG : Hid (∀ W : World, Calls Tryd.prog 40 #[.agg #[.int .i64 P, .int .i64 A, .int .i64 B, .int .i64 N, .int .i64 gx, .int .i64 gy]] W fun e w' => e = .returned (.agg #[.int .i64 0, .int .i64 0, .bool true, .int .i64 gx, .int .i64 gy, .bool false, .func (.func 87) #[.agg #[.int .i64 P, .int .i64 A, .int .i64 B, .int .i64 N, .int .i64 gx, .int .i64 gy]] #[], .func (.func 88) #[.agg #[.int .i64 P, .int .i64 A, .int .i64 B, .int .i64 N, .int .i64 gx, .int .i64 gy]] #[], .func (.func 89) #[.agg #[.int .i64 P, .int .i64 A, .int .i64 B, .int .i64 N, .int .i64 gx, .int .i64 gy]] #[], .func (.func 90) #[.agg #[.int .i64 P, .int .i64 A, .int .i64 B, .int .i64 N, .int .i64 gx, .int .i64 gy]] #[], .func (.func 91) #[] #[]]) ∧ Ext W w')) (hU : Hid (∀ W : World, Calls Tryd.prog 47 #[.agg #[.int .i64 0, .int .i64 0, .bool true, .int .i64 gx, .int .i64 gy, .bool false, .func (.func 87) #[.agg #[.int .i64 P, .int .i64 A, .int .i64 B, .int .i64 N, .int .i64 gx, .int .i64 gy]] #[], .func (.func 88) #[.agg #[.int .i64 P, .int .i64 A, .int .i64 B, .int .i64 N, .int .i64 gx, .int .i64 gy]] #[], .func (.func 89) #[.agg #[.int .i64 P, .int .i64 A, .int .i64 B, .int .i64 N, .int .i64 gx, .int .i64 gy]] #[], .func (.func 90) #[.agg #[.int .i64 P, .int .i64 A, .int .i64 B, .int .i64 N, .int .i64 gx, .int .i64 gy]] #[], .func (.func 91) #[] #[]], .int .i64 u, .agg #[.int .i64 gx, .int .i64 gy, .bool false]] W fun e w' => e = .panicked [nrE] ∧ Ext W w')) :
    Calls Tryd.prog 48 #[.pointer (some ⟨C0, 0, none⟩), .pointer (some ⟨C1, 0, none⟩), .pointer (some ⟨C2, 0, none⟩), .pointer (some ⟨C3, 0, none⟩)] w fun e w' => e = .panicked [nrE] ∧ Ext w w' := by
  go_enter Tryd.func48, Tryd.ntmps48
  have L0 := Ext.alloc w (.cells #[.int .i64 0, .int .i64 0, .bool false] 27)
  have D0 := B0.ext L0 l0
  have c0 := (D0 0 _ rfl).1
  have c1 := (D0 1 _ rfl).1
  have c2 := (D0 2 _ rfl).1
  have c3 := (D0 3 _ rfl).1
  have c4 := (D0 4 _ rfl).1
  have c5 := (D0 5 _ rfl).1
  have D1 := B1.ext L0 l1
  have d0 := (D1 0 _ rfl).1
  have D2 := B2.ext L0 l2
  have e0 := (D2 0 _ rfl).1
  have D3 := B3.ext L0 l3
  have f0 := (D3 0 _ rfl).1
  have f1 := (D3 1 _ rfl).1
  have f2 := (D3 2 _ rfl).1
  go_wp2_with fail
  refine (hG.out _).mono ?_
  rintro e w1 ⟨rfl, hw1⟩
  clear L0 c0 c1 c2 c3 c4 c5 d0 e0 f0 f1 f2
  obtain ⟨BR, hE1, hz1⟩ := box1 w [.int .i64 0, .int .i64 0, .bool false] 27 hw1
  replace D0 := D0.ext hw1 (by simp; omega)
  replace D1 := D1.ext hw1 (by simp; omega)
  replace D2 := D2.ext hw1 (by simp; omega)
  replace D3 := D3.ext hw1 (by simp; omega)
  clear hw1
  go_wp2
  obtain ⟨V, hV⟩ : ∃ V, w1.alloc (.cells #[.int .i64 0, .int .i64 0, .bool true, .int .i64 gx, .int .i64 gy, .bool false, .func (.func 87) #[.agg #[.int .i64 P, .int .i64 A, .int .i64 B, .int .i64 N, .int .i64 gx, .int .i64 gy]] #[], .func (.func 88) #[.agg #[.int .i64 P, .int .i64 A, .int .i64 B, .int .i64 N, .int .i64 gx, .int .i64 gy]] #[], .func (.func 89) #[.agg #[.int .i64 P, .int .i64 A, .int .i64 B, .int .i64 N, .int .i64 gx, .int .i64 gy]] #[], .func (.func 90) #[.agg #[.int .i64 P, .int .i64 A, .int .i64 B, .int .i64 N, .int .i64 gx, .int .i64 gy]] #[], .func (.func 91) #[] #[]] 77) = V := ⟨_, rfl⟩
  have hE2 : Ext w1 V := hV ▸ Ext.alloc _ _
  obtain ⟨BG, -, hz⟩ := box1 w1 [.int .i64 0, .int .i64 0, .bool true, .int .i64 gx, .int .i64 gy, .bool false, .func (.func 87) #[.agg #[.int .i64 P, .int .i64 A, .int .i64 B, .int .i64 N, .int .i64 gx, .int .i64 gy]] #[], .func (.func 88) #[.agg #[.int .i64 P, .int .i64 A, .int .i64 B, .int .i64 N, .int .i64 gx, .int .i64 gy]] #[], .func (.func 89) #[.agg #[.int .i64 P, .int .i64 A, .int .i64 B, .int .i64 N, .int .i64 gx, .int .i64 gy]] #[], .func (.func 90) #[.agg #[.int .i64 P, .int .i64 A, .int .i64 B, .int .i64 N, .int .i64 gx, .int .i64 gy]] #[], .func (.func 91) #[] #[]] 77 (hV ▸ Ext.refl _ : Ext (w1.alloc (.cells #[.int .i64 0, .int .i64 0, .bool true, .int .i64 gx, .int .i64 gy, .bool false, .func (.func 87) #[.agg #[.int .i64 P, .int .i64 A, .int .i64 B, .int .i64 N, .int .i64 gx, .int .i64 gy]] #[], .func (.func 88) #[.agg #[.int .i64 P, .int .i64 A, .int .i64 B, .int .i64 N, .int .i64 gx, .int .i64 gy]] #[], .func (.func 89) #[.agg #[.int .i64 P, .int .i64 A, .int .i64 B, .int .i64 N, .int .i64 gx, .int .i64 gy]] #[], .func (.func 90) #[.agg #[.int .i64 P, .int .i64 A, .int .i64 B, .int .i64 N, .int .i64 gx, .int .i64 gy]] #[], .func (.func 91) #[] #[]] 77)) V)
  simp only [hV]
  clear hV
  replace BR := BR.ext hE2 (by omega)
  replace D0 := D0.ext hE2 (by omega)
  replace D1 := D1.ext hE2 (by omega)
  replace D2 := D2.ext hE2 (by omega)
  replace D3 := D3.ext hE2 (by omega)
  have hE := hE1.trans hE2
  obtain ⟨S, hS⟩ : ∃ S, w1.heap.size = S := ⟨_, rfl⟩
  simp only [hS] at *
  clear hS hE1 hE2
  obtain ⟨X, hX⟩ : ∃ X : Nat → Prop, X = fun k => k = w.heap.size := ⟨_, rfl⟩
  have x0 : ∀ k, k ≠ w.heap.size → ¬ X k := fun k h => by rw [hX]; exact h
  have xC : X w.heap.size := by rw [hX]
  clear hX
  have c0 := cell_reC (D0 0 _ rfl).1 (x0 _ (by first | omega | (simp only; omega)))
  have c1 := cell_reC (D0 1 _ rfl).1 (x0 _ (by first | omega | (simp only; omega)))
  have c2 := cell_reC (D0 2 _ rfl).1 (x0 _ (by first | omega | (simp only; omega)))
  have c3 := cell_reC (D0 3 _ rfl).1 (x0 _ (by first | omega | (simp only; omega)))
  have c4 := cell_reC (D0 4 _ rfl).1 (x0 _ (by first | omega | (simp only; omega)))
  have c5 := cell_reC (D0 5 _ rfl).1 (x0 _ (by first | omega | (simp only; omega)))
  have d0 := cell_reC (D1 0 _ rfl).1 (x0 _ (by first | omega | (simp only; omega)))
  have e0 := cell_reC (D2 0 _ rfl).1 (x0 _ (by first | omega | (simp only; omega)))
  have f0 := cell_reC (D3 0 _ rfl).1 (x0 _ (by first | omega | (simp only; omega)))
  have f1 := cell_reC (D3 1 _ rfl).1 (x0 _ (by first | omega | (simp only; omega)))
  have f2 := cell_reC (D3 2 _ rfl).1 (x0 _ (by first | omega | (simp only; omega)))
  have g0 := cell_reC (BG 0 _ rfl).1 (x0 _ (by first | omega | (simp only; omega)))
  have g1 := cell_reC (BG 1 _ rfl).1 (x0 _ (by first | omega | (simp only; omega)))
  have g2 := cell_reC (BG 2 _ rfl).1 (x0 _ (by first | omega | (simp only; omega)))
  have g3 := cell_reC (BG 3 _ rfl).1 (x0 _ (by first | omega | (simp only; omega)))
  have g4 := cell_reC (BG 4 _ rfl).1 (x0 _ (by first | omega | (simp only; omega)))
  have g5 := cell_reC (BG 5 _ rfl).1 (x0 _ (by first | omega | (simp only; omega)))
  have g6 := cell_reC (BG 6 _ rfl).1 (x0 _ (by first | omega | (simp only; omega)))
  have g7 := cell_reC (BG 7 _ rfl).1 (x0 _ (by first | omega | (simp only; omega)))
  have g8 := cell_reC (BG 8 _ rfl).1 (x0 _ (by first | omega | (simp only; omega)))
  have g9 := cell_reC (BG 9 _ rfl).1 (x0 _ (by first | omega | (simp only; omega)))
  have g10 := cell_reC (BG 10 _ rfl).1 (x0 _ (by first | omega | (simp only; omega)))
  refine anyK_begin X 13 rfl (by kernel_rfl) ?_
  refine anyK_take 0 6 7 rfl (by decide) (by kernel_rfl) (fun _ _ d _ _ h => by cases d <;> exact h) ?_
  repeat (refine headC_step (fun K hK => ?_); go_simp; first | (refine hK _ ?_; clear hK K) | (apply Exists.intro; refine ⟨fun _ => ?_, hK _ ?_⟩; (fail); clear hK K))
  refine headC_nil ?_
  refine anyK_take 7 3 4 rfl (by decide) (by kernel_rfl) (fun _ _ d _ _ h => by cases d <;> exact h) ?_
  repeat (refine headC_step (fun K hK => ?_); go_simp; first | (refine hK _ ?_; clear hK K) | (apply Exists.intro; refine ⟨fun _ => ?_, hK _ ?_⟩; (fail); clear hK K))
  refine headC_nil ?_
  clear c0 c1 c2 c3 c4 c5 d0 e0 f0 f1 f2 g0 g1 g2 g3 g4 g5 g6 g7 g8 g9 g10
  refine anyK_one 6 (by kernel_rfl) ?_
  refine stepK_run rfl ?_
  intro w2 h2 K hK
  go_simp
  refine (hU.out _).mono ?_
  rintro e w3 ⟨rfl, h3⟩
  exact ⟨rfl, rfl, (hE.trans h2).trans h3⟩

set_option maxHeartbeats 3200000 in
set_option maxRecDepth 100000 in
theorem cloTwoMul_noV (P A B N gx gy : Int) (u : Int) (v : Int) (q : Pt) (s : Pt) (C0 C1 C2 C3 : Nat) (w : World) (B0 : Blk w C0 [.int .i64 P, .int .i64 A, .int .i64 B, .int .i64 N, .int .i64 gx, .int .i64 gy]) (l0 : C0 < w.heap.size) (B1 : Blk w C1 [.int .i64 u]) (l1 : C1 < w.heap.size) (B2 : Blk w C2 [.int .i64 v]) (l2 : C2 < w.heap.size) (B3 : Blk w C3 [.int .i64 q.x, .int .i64 q.y, .bool q.far]) (l3 : C3 < w.heap.size) (hG : Hid (∀ W : World, Calls Tryd.prog 40 #[.agg #[.int .i64 P, .int .i64 A, .int .i64 B, .int .i64 N, .int .i64 gx, .int .i64 gy]] W fun e w' => e = .returned (.agg #[.int .i64 0, .int .i64 0, .bool true, .int .i64 gx, .int .i64 gy, .bool false, .func (.func 87) #[.agg #[.int .i64 P, .int .i64 A, .int .i64 B, .int .i64 N, .int .i64 gx, .int .i64 gy]] #[], .func (.func 88) #[.agg #[.int .i64 P, .int .i64 A, .int .i64 B, .int .i64 N, .int .i64 gx, .int .i64 gy]] #[], .func (.func 89) #[.agg #[.int .i64 P, .int .i64 A, .int .i64 B, .int .i64 N, .int .i64 gx, .int .i64 gy]] #[], .func (.func 90) #[.agg #[.int .i64 P, .int .i64 A, .int .i64 B, .int .i64 N, .int .i64 gx, .int .i64 gy]] #[], .func (.func 91) #[] #[]]) ∧ Ext W w')) (hU : Hid (∀ W : World, Calls Tryd.prog 47 #[.agg #[.int .i64 0, .int .i64 0, .bool true, .int .i64 gx, .int .i64 gy, .bool false, .func (.func 87) #[.agg #[.int .i64 P, .int .i64 A, .int .i64 B, .int .i64 N, .int .i64 gx, .int .i64 gy]] #[], .func (.func 88) #[.agg #[.int .i64 P, .int .i64 A, .int .i64 B, .int .i64 N, .int .i64 gx, .int .i64 gy]] #[], .func (.func 89) #[.agg #[.int .i64 P, .int .i64 A, .int .i64 B, .int .i64 N, .int .i64 gx, .int .i64 gy]] #[], .func (.func 90) #[.agg #[.int .i64 P, .int .i64 A, .int .i64 B, .int .i64 N, .int .i64 gx, .int .i64 gy]] #[], .func (.func 91) #[] #[]], .int .i64 u, .agg #[.int .i64 gx, .int .i64 gy, .bool false]] W fun e w' => e = .returned (.agg #[.int .i64 s.x, .int .i64 s.y, .bool s.far]) ∧ Ext W w')) (hV' : Hid (∀ W : World, Calls Tryd.prog 47 #[.agg #[.int .i64 0, .int .i64 0, .bool true, .int .i64 gx, .int .i64 gy, .bool false, .func (.func 87) #[.agg #[.int .i64 P, .int .i64 A, .int .i64 B, .int .i64 N, .int .i64 gx, .int .i64 gy]] #[], .func (.func 88) #[.agg #[.int .i64 P, .int .i64 A, .int .i64 B, .int .i64 N, .int .i64 gx, .int .i64 gy]] #[], .func (.func 89) #[.agg #[.int .i64 P, .int .i64 A, .int .i64 B, .int .i64 N, .int .i64 gx, .int .i64 gy]] #[], .func (.func 90) #[.agg #[.int .i64 P, .int .i64 A, .int .i64 B, .int .i64 N, .int .i64 gx, .int .i64 gy]] #[], .func (.func 91) #[] #[]], .int .i64 v, .agg #[.int .i64 q.x, .int .i64 q.y, .bool q.far]] W fun e w' => e = .panicked [nrE] ∧ Ext W w')) :
    Calls Tryd.prog 48 #[.pointer (some ⟨C0, 0, none⟩), .pointer (some ⟨C1, 0, none⟩), .pointer (some ⟨C2, 0, none⟩), .pointer (some ⟨C3, 0, none⟩)] w fun e w' => e = .panicked [nrE] ∧ Ext w w' := by
  go_enter Tryd.func48, Tryd.ntmps48
  have L0 := Ext.alloc w (.cells #[.int .i64 0, .int .i64 0, .bool false] 27)
  have D0 := B0.ext L0 l0
  have c0 := (D0 0 _ rfl).1
  have c1 := (D0 1 _ rfl).1
  have c2 := (D0 2 _ rfl).1
  have c3 := (D0 3 _ rfl).1
  have c4 := (D0 4 _ rfl).1
  have c5 := (D0 5 _ rfl).1
  have D1 := B1.ext L0 l1
  have d0 := (D1 0 _ rfl).1
  have D2 := B2.ext L0 l2
  have e0 := (D2 0 _ rfl).1
  have D3 := B3.ext L0 l3
  have f0 := (D3 0 _ rfl).1
  have f1 := (D3 1 _ rfl).1
  have f2 := (D3 2 _ rfl).1
  go_wp2_with fail
  refine (hG.out _).mono ?_
  rintro e w1 ⟨rfl, hw1⟩
  clear L0 c0 c1 c2 c3 c4 c5 d0 e0 f0 f1 f2
  obtain ⟨BR, hE1, hz1⟩ := box1 w [.int .i64 0, .int .i64 0, .bool false] 27 hw1
  replace D0 := D0.ext hw1 (by simp; omega)
  replace D1 := D1.ext hw1 (by simp; omega)
  replace D2 := D2.ext hw1 (by simp; omega)
  replace D3 := D3.ext hw1 (by simp; omega)
  clear hw1
  go_wp2
  obtain ⟨V, hV⟩ : ∃ V, w1.alloc (.cells #[.int .i64 0, .int .i64 0, .bool true, .int .i64 gx, .int .i64 gy, .bool false, .func (.func 87) #[.agg #[.int .i64 P, .int .i64 A, .int .i64 B, .int .i64 N, .int .i64 gx, .int .i64 gy]] #[], .func (.func 88) #[.agg #[.int .i64 P, .int .i64 A, .int .i64 B, .int .i64 N, .int .i64 gx, .int .i64 gy]] #[], .func (.func 89) #[.agg #[.int .i64 P, .int .i64 A, .int .i64 B, .int .i64 N, .int .i64 gx, .int .i64 gy]] #[], .func (.func 90) #[.agg #[.int .i64 P, .int .i64 A, .int .i64 B, .int .i64 N, .int .i64 gx, .int .i64 gy]] #[], .func (.func 91) #[] #[]] 77) = V := ⟨_, rfl⟩
  have hE2 : Ext w1 V := hV ▸ Ext.alloc _ _
  obtain ⟨BG, -, hz⟩ := box1 w1 [.int .i64 0, .int .i64 0, .bool true, .int .i64 gx, .int .i64 gy, .bool false, .func (.func 87) #[.agg #[.int .i64 P, .int .i64 A, .int .i64 B, .int .i64 N, .int .i64 gx, .int .i64 gy]] #[], .func (.func 88) #[.agg #[.int .i64 P, .int .i64 A, .int .i64 B, .int .i64 N, .int .i64 gx, .int .i64 gy]] #[], .func (.func 89) #[.agg #[.int .i64 P, .int .i64 A, .int .i64 B, .int .i64 N, .int .i64 gx, .int .i64 gy]] #[], .func (.func 90) #[.agg #[.int .i64 P, .int .i64 A, .int .i64 B, .int .i64 N, .int .i64 gx, .int .i64 gy]] #[], .func (.func 91) #[] #[]] 77 (hV ▸ Ext.refl _ : Ext (w1.alloc (.cells #[.int .i64 0, .int .i64 0, .bool true, .int .i64 gx, .int .i64 gy, .bool false, .func (.func 87) #[.agg #[.int .i64 P, .int .i64 A, .int .i64 B, .int .i64 N, .int .i64 gx, .int .i64 gy]] #[], .func (.func 88) #[.agg #[.int .i64 P, .int .i64 A, .int .i64 B, .int .i64 N, .int .i64 gx, .int .i64 gy]] #[], .func (.func 89) #[.agg #[.int .i64 P, .int .i64 A, .int .i64 B, .int .i64 N, .int .i64 gx, .int .i64 gy]] #[], .func (.func 90) #[.agg #[.int .i64 P, .int .i64 A, .int .i64 B, .int .i64 N, .int .i64 gx, .int .i64 gy]] #[], .func (.func 91) #[] #[]] 77)) V)
  simp only [hV]
  clear hV
  replace BR := BR.ext hE2 (by omega)
  replace D0 := D0.ext hE2 (by omega)
  replace D1 := D1.ext hE2 (by omega)
  replace D2 := D2.ext hE2 (by omega)
  replace D3 := D3.ext hE2 (by omega)
  have hE := hE1.trans hE2
  obtain ⟨S, hS⟩ : ∃ S, w1.heap.size = S := ⟨_, rfl⟩
  simp only [hS] at *
  clear hS hE1 hE2
  obtain ⟨X, hX⟩ : ∃ X : Nat → Prop, X = fun k => k = w.heap.size := ⟨_, rfl⟩
  have x0 : ∀ k, k ≠ w.heap.size → ¬ X k := fun k h => by rw [hX]; exact h
  have xC : X w.heap.size := by rw [hX]
  clear hX
  have c0 := cell_reC (D0 0 _ rfl).1 (x0 _ (by first | omega | (simp only; omega)))
  have c1 := cell_reC (D0 1 _ rfl).1 (x0 _ (by first | omega | (simp only; omega)))
  have c2 := cell_reC (D0 2 _ rfl).1 (x0 _ (by first | omega | (simp only; omega)))
  have c3 := cell_reC (D0 3 _ rfl).1 (x0 _ (by first | omega | (simp only; omega)))
  have c4 := cell_reC (D0 4 _ rfl).1 (x0 _ (by first | omega | (simp only; omega)))
  have c5 := cell_reC (D0 5 _ rfl).1 (x0 _ (by first | omega | (simp only; omega)))
  have d0 := cell_reC (D1 0 _ rfl).1 (x0 _ (by first | omega | (simp only; omega)))
  have e0 := cell_reC (D2 0 _ rfl).1 (x0 _ (by first | omega | (simp only; omega)))
  have f0 := cell_reC (D3 0 _ rfl).1 (x0 _ (by first | omega | (simp only; omega)))
  have f1 := cell_reC (D3 1 _ rfl).1 (x0 _ (by first | omega | (simp only; omega)))
  have f2 := cell_reC (D3 2 _ rfl).1 (x0 _ (by first | omega | (simp only; omega)))
  have g0 := cell_reC (BG 0 _ rfl).1 (x0 _ (by first | omega | (simp only; omega)))
  have g1 := cell_reC (BG 1 _ rfl).1 (x0 _ (by first | omega | (simp only; omega)))
  have g2 := cell_reC (BG 2 _ rfl).1 (x0 _ (by first | omega | (simp only; omega)))
  have g3 := cell_reC (BG 3 _ rfl).1 (x0 _ (by first | omega | (simp only; omega)))
  have g4 := cell_reC (BG 4 _ rfl).1 (x0 _ (by first | omega | (simp only; omega)))
  have g5 := cell_reC (BG 5 _ rfl).1 (x0 _ (by first | omega | (simp only; omega)))
  have g6 := cell_reC (BG 6 _ rfl).1 (x0 _ (by first | omega | (simp only; omega)))
  have g7 := cell_reC (BG 7 _ rfl).1 (x0 _ (by first | omega | (simp only; omega)))
  have g8 := cell_reC (BG 8 _ rfl).1 (x0 _ (by first | omega | (simp only; omega)))
  have g9 := cell_reC (BG 9 _ rfl).1 (x0 _ (by first | omega | (simp only; omega)))
  have g10 := cell_reC (BG 10 _ rfl).1 (x0 _ (by first | omega | (simp only; omega)))
  refine anyK_begin X 13 rfl (by kernel_rfl) ?_
  refine anyK_take 0 10 3 rfl (by decide) (by kernel_rfl) (fun _ _ d _ _ h => by cases d <;> exact h) ?_
  repeat (refine headC_step (fun K hK => ?_); go_simp; first | (refine hK _ ?_; clear hK K) | (apply Exists.intro; refine ⟨fun _ => ?_, hK _ ?_⟩; ((go_at_call_of 47 (u); exact Calls.re_of (hU.out _))); clear hK K))
  refine headC_nil ?_
  clear c0 c1 c2 c3 c4 c5 d0 e0 f0 f1 f2 g0 g1 g2 g3 g4 g5 g6 g7 g8 g9 g10
  refine anyK_one 10 (by kernel_rfl) ?_
  refine stepK_run rfl ?_
  intro w2 h2 K hK
  go_simp
  refine (hV'.out _).mono ?_
  rintro e w3 ⟨rfl, h3⟩
  exact ⟨rfl, rfl, (hE.trans h2).trans h3⟩

set_option maxHeartbeats 3200000 in
set_option maxRecDepth 100000 in
theorem cloTwoMul_noG (P A B N gx gy : Int) (u : Int) (v : Int) (q : Pt) (C0 C1 C2 C3 : Nat) (w : World) (B0 : Blk w C0 [.int .i64 P, .int .i64 A, .int .i64 B, .int .i64 N, .int .i64 gx, .int .i64 gy]) (l0 : C0 < w.heap.size) (B1 : Blk w C1 [.int .i64 u]) (l1 : C1 < w.heap.size) (B2 : Blk w C2 [.int .i64 v]) (l2 : C2 < w.heap.size) (B3 : Blk w C3 [.int .i64 q.x, .int .i64 q.y, .bool q.far]) (l3 : C3 < w.heap.size) (hG : Hid (∀ W : World, Calls Tryd.prog 40 #[.agg #[.int .i64 P, .int .i64 A, .int .i64 B, .int .i64 N, .int .i64 gx, .int .i64 gy]] W fun e w' => e = .panicked [nrE] ∧ Ext W w')) :
    Calls Tryd.prog 48 #[.pointer (some ⟨C0, 0, none⟩), .pointer (some ⟨C1, 0, none⟩), .pointer (some ⟨C2, 0, none⟩), .pointer (some ⟨C3, 0, none⟩)] w fun e w' => e = .panicked [nrE] ∧ Ext w w' := by
  go_enter Tryd.func48, Tryd.ntmps48
  have L0 := Ext.alloc w (.cells #[.int .i64 0, .int .i64 0, .bool false] 27)
  have D0 := B0.ext L0 l0
  have c0 := (D0 0 _ rfl).1
  have c1 := (D0 1 _ rfl).1
  have c2 := (D0 2 _ rfl).1
  have c3 := (D0 3 _ rfl).1
  have c4 := (D0 4 _ rfl).1
  have c5 := (D0 5 _ rfl).1
  have D1 := B1.ext L0 l1
  have d0 := (D1 0 _ rfl).1
  have D2 := B2.ext L0 l2
  have e0 := (D2 0 _ rfl).1
  have D3 := B3.ext L0 l3
  have f0 := (D3 0 _ rfl).1
  have f1 := (D3 1 _ rfl).1
  have f2 := (D3 2 _ rfl).1
  go_wp2_with fail
  refine (hG.out _).mono ?_
  rintro e w1 ⟨rfl, hw1⟩
  exact ⟨rfl, rfl, L0.trans hw1⟩

set_option maxHeartbeats 1600000 in
set_option maxRecDepth 100000 in
theorem expTwoMul_yes (P A B N gx gy : Int) (u : Int) (v : Int) (q : Pt) (r : Pt) (hC : Hid (∀ (C0 C1 C2 C3 : Nat) (w : World), Blk w C0 [.int .i64 P, .int .i64 A, .int .i64 B, .int .i64 N, .int .i64 gx, .int .i64 gy] → C0 < w.heap.size → Blk w C1 [.int .i64 u] → C1 < w.heap.size → Blk w C2 [.int .i64 v] → C2 < w.heap.size → Blk w C3 [.int .i64 q.x, .int .i64 q.y, .bool q.far] → C3 < w.heap.size → Calls Tryd.prog 48 #[.pointer (some ⟨C0, 0, none⟩), .pointer (some ⟨C1, 0, none⟩), .pointer (some ⟨C2, 0, none⟩), .pointer (some ⟨C3, 0, none⟩)] w fun e w' => e = .returned (.agg #[.int .i64 r.x, .int .i64 r.y, .bool r.far]) ∧ Ext w w')) (w : World) :
    Calls Tryd.prog 16 #[.agg #[.int .i64 P, .int .i64 A, .int .i64 B, .int .i64 N, .int .i64 gx, .int .i64 gy], .int .i64 u, .int .i64 v, .agg #[.int .i64 q.x, .int .i64 q.y, .bool q.far]] w fun e w' => e = .returned (.tuple #[.agg #[.int .i64 r.x, .int .i64 r.y, .bool r.far], .bool true]) ∧ Ext w w' := by
  have hmf : ∀ (fn : Fn) (first cap : Array Value) (w : World), (Instr.makeFunc fn first cap).run Tryd.prog w = .ok (.func fn first cap) w := fun _ _ _ _ => rfl
  go_enter Tryd.func16, Tryd.ntmps16
  go_wp2_with fail
  refine (answPt_yes 48 #[.pointer (some ⟨w.heap.size, 0, none⟩), .pointer (some ⟨w.heap.size + 1, 0, none⟩), .pointer (some ⟨w.heap.size + 1 + 1, 0, none⟩), .pointer (some ⟨w.heap.size + 1 + 1 + 1, 0, none⟩)] (fun _ _ => rfl) r _ (fun W hW => ?_)).mono ?_
  · obtain ⟨B0, B1, B2, B3, B4, hE, hz⟩ := box5 w [.int .i64 P, .int .i64 A, .int .i64 B, .int .i64 N, .int .i64 gx, .int .i64 gy] [.int .i64 u] [.int .i64 v] [.int .i64 q.x, .int .i64 q.y, .bool q.far] [.int .i64 0, .int .i64 0, .bool false] 25 3 3 27 27 hW
    exact hC.out _ _ _ _ _ B0 (by omega) B1 (by omega) B2 (by omega) B3 (by omega)
  rintro e w1 ⟨rfl, hw1⟩
  obtain ⟨B0, B1, B2, B3, B4, hE, hz⟩ := box5 w [.int .i64 P, .int .i64 A, .int .i64 B, .int .i64 N, .int .i64 gx, .int .i64 gy] [.int .i64 u] [.int .i64 v] [.int .i64 q.x, .int .i64 q.y, .bool q.far] [.int .i64 0, .int .i64 0, .bool false] 25 3 3 27 27 hw1
  clear hw1 hC
  have d0 := (B4 0 _ rfl).1
  have d1 := (B4 1 _ rfl).1
  have d2 := (B4 2 _ rfl).1
  have z0 := (B4 0 _ rfl).2
  have z1 := (B4 1 _ rfl).2
  have z2 := (B4 2 _ rfl).2
  go_wp2
  obtain ⟨W, hW⟩ : ∃ W, putL (w.heap.size + 1 + 1 + 1 + 1) 0 [.int .i64 r.x, .int .i64 r.y, .bool r.far] w1 = W := ⟨_, rfl⟩
  have BW := Blk.put B4 [.int .i64 r.x, .int .i64 r.y, .bool r.far] rfl
  rw [hW] at BW
  have hF : Ext w W := hW ▸ hE.putL (by omega) _
  simp only [putL, Nat.zero_add, Nat.reduceAdd] at hW
  simp only [hW]
  have q0 := (BW 0 _ rfl).1
  have q1 := (BW 1 _ rfl).1
  have q2 := (BW 2 _ rfl).1
  refine bodyPost_ret (v := .tuple #[.agg #[.int .i64 r.x, .int .i64 r.y, .bool r.far], .bool true]) (by simp [results, Tryd.results16, go_sem, q0, q1, q2]) rfl ⟨rfl, hF⟩

set_option maxHeartbeats 1600000 in
set_option maxRecDepth 100000 in
theorem expTwoMul_no (P A B N gx gy : Int) (u : Int) (v : Int) (q : Pt) (hC : Hid (∀ (C0 C1 C2 C3 : Nat) (w : World), Blk w C0 [.int .i64 P, .int .i64 A, .int .i64 B, .int .i64 N, .int .i64 gx, .int .i64 gy] → C0 < w.heap.size → Blk w C1 [.int .i64 u] → C1 < w.heap.size → Blk w C2 [.int .i64 v] → C2 < w.heap.size → Blk w C3 [.int .i64 q.x, .int .i64 q.y, .bool q.far] → C3 < w.heap.size → Calls Tryd.prog 48 #[.pointer (some ⟨C0, 0, none⟩), .pointer (some ⟨C1, 0, none⟩), .pointer (some ⟨C2, 0, none⟩), .pointer (some ⟨C3, 0, none⟩)] w fun e w' => e = .panicked [nrE] ∧ Ext w w')) (w : World) :
    Calls Tryd.prog 16 #[.agg #[.int .i64 P, .int .i64 A, .int .i64 B, .int .i64 N, .int .i64 gx, .int .i64 gy], .int .i64 u, .int .i64 v, .agg #[.int .i64 q.x, .int .i64 q.y, .bool q.far]] w fun e w' => e = .returned (.tuple #[.agg #[.int .i64 0, .int .i64 0, .bool false], .bool false]) ∧ Ext w w' := by
  have hmf : ∀ (fn : Fn) (first cap : Array Value) (w : World), (Instr.makeFunc fn first cap).run Tryd.prog w = .ok (.func fn first cap) w := fun _ _ _ _ => rfl
  go_enter Tryd.func16, Tryd.ntmps16
  go_wp2_with fail
  refine (answPt_no 48 #[.pointer (some ⟨w.heap.size, 0, none⟩), .pointer (some ⟨w.heap.size + 1, 0, none⟩), .pointer (some ⟨w.heap.size + 1 + 1, 0, none⟩), .pointer (some ⟨w.heap.size + 1 + 1 + 1, 0, none⟩)] (fun _ _ => rfl) _ (fun W hW => ?_)).mono ?_
  · obtain ⟨B0, B1, B2, B3, B4, hE, hz⟩ := box5 w [.int .i64 P, .int .i64 A, .int .i64 B, .int .i64 N, .int .i64 gx, .int .i64 gy] [.int .i64 u] [.int .i64 v] [.int .i64 q.x, .int .i64 q.y, .bool q.far] [.int .i64 0, .int .i64 0, .bool false] 25 3 3 27 27 hW
    exact hC.out _ _ _ _ _ B0 (by omega) B1 (by omega) B2 (by omega) B3 (by omega)
  rintro e w1 ⟨rfl, hw1⟩
  obtain ⟨B0, B1, B2, B3, B4, hE, hz⟩ := box5 w [.int .i64 P, .int .i64 A, .int .i64 B, .int .i64 N, .int .i64 gx, .int .i64 gy] [.int .i64 u] [.int .i64 v] [.int .i64 q.x, .int .i64 q.y, .bool q.far] [.int .i64 0, .int .i64 0, .bool false] 25 3 3 27 27 hw1
  clear hw1 hC
  have d0 := (B4 0 _ rfl).1
  have d1 := (B4 1 _ rfl).1
  have d2 := (B4 2 _ rfl).1
  have z0 := (B4 0 _ rfl).2
  have z1 := (B4 1 _ rfl).2
  have z2 := (B4 2 _ rfl).2
  go_wp2
  obtain ⟨W, hW⟩ : ∃ W, putL (w.heap.size + 1 + 1 + 1 + 1) 0 [.int .i64 0, .int .i64 0, .bool false] w1 = W := ⟨_, rfl⟩
  have BW := Blk.put B4 [.int .i64 0, .int .i64 0, .bool false] rfl
  rw [hW] at BW
  have hF : Ext w W := hW ▸ hE.putL (by omega) _
  simp only [putL, Nat.zero_add, Nat.reduceAdd] at hW
  simp only [hW]
  have q0 := (BW 0 _ rfl).1
  have q1 := (BW 1 _ rfl).1
  have q2 := (BW 2 _ rfl).1
  refine bodyPost_ret (v := .tuple #[.agg #[.int .i64 0, .int .i64 0, .bool false], .bool false]) (by simp [results, Tryd.results16, go_sem, q0, q1, q2]) rfl ⟨rfl, hF⟩

end Go.Proofs.YtejlgcnhfomadaaDoor
