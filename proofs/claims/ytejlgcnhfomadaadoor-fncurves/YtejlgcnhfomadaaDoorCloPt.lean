/- Walks: the program's functions over curves (impl.Point): what is handed to answered, and the face. -/
import Derived.Test.YtejlgcnhfomadaaDoorSumPt
import Derived.Test.YtejlgcnhfomadaaDoorFacePt
namespace Go.Proofs.YtejlgcnhfomadaaDoor
set_option linter.unusedVariables false
open Go.RowKit

set_option maxHeartbeats 1600000 in
set_option maxRecDepth 100000 in
theorem cloPointOk_yes (P A B N gx gy : Int) (a : Pt) (r : Pt) (C0 C1 : Nat) (w : World) (B0 : Blk w C0 [.int .i64 P, .int .i64 A, .int .i64 B, .int .i64 N, .int .i64 gx, .int .i64 gy]) (l0 : C0 < w.heap.size) (B1 : Blk w C1 [.int .i64 a.x, .int .i64 a.y, .bool a.far]) (l1 : C1 < w.heap.size) (hG : Hid (∀ W : World, Calls Tryd.prog 40 #[.agg #[.int .i64 P, .int .i64 A, .int .i64 B, .int .i64 N, .int .i64 gx, .int .i64 gy]] W fun e w' => e = .returned (.agg #[.int .i64 0, .int .i64 0, .bool true, .int .i64 gx, .int .i64 gy, .bool false, .func (.func 87) #[.agg #[.int .i64 P, .int .i64 A, .int .i64 B, .int .i64 N, .int .i64 gx, .int .i64 gy]] #[], .func (.func 88) #[.agg #[.int .i64 P, .int .i64 A, .int .i64 B, .int .i64 N, .int .i64 gx, .int .i64 gy]] #[], .func (.func 89) #[.agg #[.int .i64 P, .int .i64 A, .int .i64 B, .int .i64 N, .int .i64 gx, .int .i64 gy]] #[], .func (.func 90) #[.agg #[.int .i64 P, .int .i64 A, .int .i64 B, .int .i64 N, .int .i64 gx, .int .i64 gy]] #[], .func (.func 91) #[] #[]]) ∧ Ext W w')) (hF : Hid (∀ W : World, Calls Tryd.prog 43 #[.agg #[.int .i64 0, .int .i64 0, .bool true, .int .i64 gx, .int .i64 gy, .bool false, .func (.func 87) #[.agg #[.int .i64 P, .int .i64 A, .int .i64 B, .int .i64 N, .int .i64 gx, .int .i64 gy]] #[], .func (.func 88) #[.agg #[.int .i64 P, .int .i64 A, .int .i64 B, .int .i64 N, .int .i64 gx, .int .i64 gy]] #[], .func (.func 89) #[.agg #[.int .i64 P, .int .i64 A, .int .i64 B, .int .i64 N, .int .i64 gx, .int .i64 gy]] #[], .func (.func 90) #[.agg #[.int .i64 P, .int .i64 A, .int .i64 B, .int .i64 N, .int .i64 gx, .int .i64 gy]] #[], .func (.func 91) #[] #[]], .agg #[.int .i64 a.x, .int .i64 a.y, .bool a.far]] W fun e w' => e = .returned (.agg #[.int .i64 r.x, .int .i64 r.y, .bool r.far]) ∧ Ext W w')) :
    Calls Tryd.prog 42 #[.pointer (some ⟨C0, 0, none⟩), .pointer (some ⟨C1, 0, none⟩)] w fun e w' => e = .returned (.agg #[.int .i64 r.x, .int .i64 r.y, .bool r.far]) ∧ Ext w w' := by
  go_enter Tryd.func42, Tryd.ntmps42
  go_wp2
  obtain ⟨V, hV⟩ : ∃ V, w.alloc (.cells #[.int .i64 0, .int .i64 0, .bool false] 27) = V := ⟨_, rfl⟩
  have hE : Ext w V := hV ▸ Ext.alloc _ _
  obtain ⟨BR, -, hz⟩ := box1 w [.int .i64 0, .int .i64 0, .bool false] 27 (hV ▸ Ext.refl _ : Ext (w.alloc (.cells #[.int .i64 0, .int .i64 0, .bool false] 27)) V)
  simp only [hV]
  clear hV
  obtain ⟨X, hX⟩ : ∃ X : Nat → Prop, X = fun k => w.heap.size ≤ k := ⟨_, rfl⟩
  have x0 : ∀ k, k < w.heap.size → ¬ X k := fun k h => by rw [hX]; simp; omega
  have xC : X w.heap.size := by rw [hX]; exact Nat.le_refl _
  clear hX
  have D0 := B0.ext hE l0
  have D1 := B1.ext hE l1
  have c0 := cell_reC (D0 0 _ rfl).1 (x0 _ (by first | omega | (simp only; omega)))
  have c1 := cell_reC (D0 1 _ rfl).1 (x0 _ (by first | omega | (simp only; omega)))
  have c2 := cell_reC (D0 2 _ rfl).1 (x0 _ (by first | omega | (simp only; omega)))
  have c3 := cell_reC (D0 3 _ rfl).1 (x0 _ (by first | omega | (simp only; omega)))
  have c4 := cell_reC (D0 4 _ rfl).1 (x0 _ (by first | omega | (simp only; omega)))
  have c5 := cell_reC (D0 5 _ rfl).1 (x0 _ (by first | omega | (simp only; omega)))
  have d0 := cell_reC (D1 0 _ rfl).1 (x0 _ (by first | omega | (simp only; omega)))
  have d1 := cell_reC (D1 1 _ rfl).1 (x0 _ (by first | omega | (simp only; omega)))
  have d2 := cell_reC (D1 2 _ rfl).1 (x0 _ (by first | omega | (simp only; omega)))
  refine anyK_begin X 5 rfl (by kernel_rfl) ?_
  refine anyK_take 0 4 1 rfl (by decide) (by kernel_rfl) (fun _ _ d _ _ h => by cases d <;> exact h) ?_
  repeat (refine headC_step (fun K hK => ?_); go_simp; first | (refine hK _ ?_; clear hK K) | (apply Exists.intro; refine ⟨fun _ => ?_, hK _ ?_⟩; (first | (go_at_call 40; exact Calls.re_of (hG.out _)) | (go_at_call 43; exact Calls.re_of (hF.out _))); clear hK K))
  refine headC_nil ?_
  clear c0 c1 c2 c3 c4 c5 d0 d1 d2
  refine anyK_one 4 (by kernel_rfl) ?_
  refine stepK_run rfl ?_
  intro w2 h2 K hK
  have BZ := BR.ext h2 (by omega)
  have d0 := (BZ 0 _ rfl).1
  have d1 := (BZ 1 _ rfl).1
  have d2 := (BZ 2 _ rfl).1
  have z0 := (BZ 0 _ rfl).2
  have z1 := (BZ 1 _ rfl).2
  have z2 := (BZ 2 _ rfl).2
  go_simp
  refine hK _ _ (show Grw X V (putL (w.heap.size) 0 [.int .i64 r.x, .int .i64 r.y, .bool r.far] w2) from Grw.putL xC _ _ _ (.of_ext h2)) ?_
  clear hK K d0 d1 d2 z0 z1 z2
  refine anyK_done (by kernel_rfl) ?_ 0
  intro w3 h3
  replace h3 : Ext (putL (w.heap.size) 0 [.int .i64 r.x, .int .i64 r.y, .bool r.far] w2) w3 := h3
  have BW := (BZ.put [.int .i64 r.x, .int .i64 r.y, .bool r.far] rfl).ext h3 (by rw [size_putL]; have := Below.size h2; omega)
  have hX : Ext w w3 := ((hE.trans h2).putL (by omega) [.int .i64 r.x, .int .i64 r.y, .bool r.far]).trans h3
  clear h2 h3 BZ
  have q0 := (BW 0 _ rfl).1
  have q1 := (BW 1 _ rfl).1
  have q2 := (BW 2 _ rfl).1
  go_wp2
  refine bodyPost_ret (v := .agg #[.int .i64 r.x, .int .i64 r.y, .bool r.far]) (by simp [results, Tryd.results42, go_sem, q0, q1, q2]) rfl ⟨rfl, hX⟩

set_option maxHeartbeats 1600000 in
set_option maxRecDepth 100000 in
theorem cloPointOk_noG (P A B N gx gy : Int) (a : Pt) (C0 C1 : Nat) (w : World) (B0 : Blk w C0 [.int .i64 P, .int .i64 A, .int .i64 B, .int .i64 N, .int .i64 gx, .int .i64 gy]) (l0 : C0 < w.heap.size) (B1 : Blk w C1 [.int .i64 a.x, .int .i64 a.y, .bool a.far]) (l1 : C1 < w.heap.size) (hG : Hid (∀ W : World, Calls Tryd.prog 40 #[.agg #[.int .i64 P, .int .i64 A, .int .i64 B, .int .i64 N, .int .i64 gx, .int .i64 gy]] W fun e w' => e = .panicked [nrE] ∧ Ext W w')) :
    Calls Tryd.prog 42 #[.pointer (some ⟨C0, 0, none⟩), .pointer (some ⟨C1, 0, none⟩)] w fun e w' => e = .panicked [nrE] ∧ Ext w w' := by
  go_enter Tryd.func42, Tryd.ntmps42
  go_wp2
  obtain ⟨V, hV⟩ : ∃ V, w.alloc (.cells #[.int .i64 0, .int .i64 0, .bool false] 27) = V := ⟨_, rfl⟩
  have hE : Ext w V := hV ▸ Ext.alloc _ _
  obtain ⟨BR, -, hz⟩ := box1 w [.int .i64 0, .int .i64 0, .bool false] 27 (hV ▸ Ext.refl _ : Ext (w.alloc (.cells #[.int .i64 0, .int .i64 0, .bool false] 27)) V)
  simp only [hV]
  clear hV
  obtain ⟨X, hX⟩ : ∃ X : Nat → Prop, X = fun k => w.heap.size ≤ k := ⟨_, rfl⟩
  have x0 : ∀ k, k < w.heap.size → ¬ X k := fun k h => by rw [hX]; simp; omega
  have xC : X w.heap.size := by rw [hX]; exact Nat.le_refl _
  clear hX
  have D0 := B0.ext hE l0
  have D1 := B1.ext hE l1
  have c0 := cell_reC (D0 0 _ rfl).1 (x0 _ (by first | omega | (simp only; omega)))
  have c1 := cell_reC (D0 1 _ rfl).1 (x0 _ (by first | omega | (simp only; omega)))
  have c2 := cell_reC (D0 2 _ rfl).1 (x0 _ (by first | omega | (simp only; omega)))
  have c3 := cell_reC (D0 3 _ rfl).1 (x0 _ (by first | omega | (simp only; omega)))
  have c4 := cell_reC (D0 4 _ rfl).1 (x0 _ (by first | omega | (simp only; omega)))
  have c5 := cell_reC (D0 5 _ rfl).1 (x0 _ (by first | omega | (simp only; omega)))
  have d0 := cell_reC (D1 0 _ rfl).1 (x0 _ (by first | omega | (simp only; omega)))
  have d1 := cell_reC (D1 1 _ rfl).1 (x0 _ (by first | omega | (simp only; omega)))
  have d2 := cell_reC (D1 2 _ rfl).1 (x0 _ (by first | omega | (simp only; omega)))
  refine anyK_begin X 5 rfl (by kernel_rfl) ?_
  refine anyK_take 0 1 4 rfl (by decide) (by kernel_rfl) (fun _ _ d _ _ h => by cases d <;> exact h) ?_
  repeat (refine headC_step (fun K hK => ?_); go_simp; first | (refine hK _ ?_; clear hK K) | (apply Exists.intro; refine ⟨fun _ => ?_, hK _ ?_⟩; (fail); clear hK K))
  refine headC_nil ?_
  refine anyK_take 2 1 3 rfl (by decide) (by kernel_rfl) (fun _ _ d _ _ h => by cases d <;> exact h) ?_
  repeat (refine headC_step (fun K hK => ?_); go_simp; first | (refine hK _ ?_; clear hK K) | (apply Exists.intro; refine ⟨fun _ => ?_, hK _ ?_⟩; (fail); clear hK K))
  refine headC_nil ?_
  clear c0 c1 c2 c3 c4 c5 d0 d1 d2
  refine anyK_one 1 (by kernel_rfl) ?_
  refine stepK_run rfl ?_
  intro w2 h2 K hK
  go_simp
  refine (hG.out _).mono ?_
  rintro e w3 ⟨rfl, h3⟩
  exact ⟨rfl, rfl, (hE.trans h2).trans h3⟩

set_option maxHeartbeats 1600000 in
set_option maxRecDepth 100000 in
theorem cloPointOk_noF (P A B N gx gy : Int) (a : Pt) (C0 C1 : Nat) (w : World) (B0 : Blk w C0 [.int .i64 P, .int .i64 A, .int .i64 B, .int .i64 N, .int .i64 gx, .int .i64 gy]) (l0 : C0 < w.heap.size) (B1 : Blk w C1 [.int .i64 a.x, .int .i64 a.y, .bool a.far]) (l1 : C1 < w.heap.size) (hG : Hid (∀ W : World, Calls Tryd.prog 40 #[.agg #[.int .i64 P, .int .i64 A, .int .i64 B, .int .i64 N, .int .i64 gx, .int .i64 gy]] W fun e w' => e = .returned (.agg #[.int .i64 0, .int .i64 0, .bool true, .int .i64 gx, .int .i64 gy, .bool false, .func (.func 87) #[.agg #[.int .i64 P, .int .i64 A, .int .i64 B, .int .i64 N, .int .i64 gx, .int .i64 gy]] #[], .func (.func 88) #[.agg #[.int .i64 P, .int .i64 A, .int .i64 B, .int .i64 N, .int .i64 gx, .int .i64 gy]] #[], .func (.func 89) #[.agg #[.int .i64 P, .int .i64 A, .int .i64 B, .int .i64 N, .int .i64 gx, .int .i64 gy]] #[], .func (.func 90) #[.agg #[.int .i64 P, .int .i64 A, .int .i64 B, .int .i64 N, .int .i64 gx, .int .i64 gy]] #[], .func (.func 91) #[] #[]]) ∧ Ext W w')) (hF : Hid (∀ W : World, Calls Tryd.prog 43 #[.agg #[.int .i64 0, .int .i64 0, .bool true, .int .i64 gx, .int .i64 gy, .bool false, .func (.func 87) #[.agg #[.int .i64 P, .int .i64 A, .int .i64 B, .int .i64 N, .int .i64 gx, .int .i64 gy]] #[], .func (.func 88) #[.agg #[.int .i64 P, .int .i64 A, .int .i64 B, .int .i64 N, .int .i64 gx, .int .i64 gy]] #[], .func (.func 89) #[.agg #[.int .i64 P, .int .i64 A, .int .i64 B, .int .i64 N, .int .i64 gx, .int .i64 gy]] #[], .func (.func 90) #[.agg #[.int .i64 P, .int .i64 A, .int .i64 B, .int .i64 N, .int .i64 gx, .int .i64 gy]] #[], .func (.func 91) #[] #[]], .agg #[.int .i64 a.x, .int .i64 a.y, .bool a.far]] W fun e w' => e = .panicked [nrE] ∧ Ext W w')) :
    Calls Tryd.prog 42 #[.pointer (some ⟨C0, 0, none⟩), .pointer (some ⟨C1, 0, none⟩)] w fun e w' => e = .panicked [nrE] ∧ Ext w w' := by
  go_enter Tryd.func42, Tryd.ntmps42
  go_wp2
  obtain ⟨V, hV⟩ : ∃ V, w.alloc (.cells #[.int .i64 0, .int .i64 0, .bool false] 27) = V := ⟨_, rfl⟩
  have hE : Ext w V := hV ▸ Ext.alloc _ _
  obtain ⟨BR, -, hz⟩ := box1 w [.int .i64 0, .int .i64 0, .bool false] 27 (hV ▸ Ext.refl _ : Ext (w.alloc (.cells #[.int .i64 0, .int .i64 0, .bool false] 27)) V)
  simp only [hV]
  clear hV
  obtain ⟨X, hX⟩ : ∃ X : Nat → Prop, X = fun k => w.heap.size ≤ k := ⟨_, rfl⟩
  have x0 : ∀ k, k < w.heap.size → ¬ X k := fun k h => by rw [hX]; simp; omega
  have xC : X w.heap.size := by rw [hX]; exact Nat.le_refl _
  clear hX
  have D0 := B0.ext hE l0
  have D1 := B1.ext hE l1
  have c0 := cell_reC (D0 0 _ rfl).1 (x0 _ (by first | omega | (simp only; omega)))
  have c1 := cell_reC (D0 1 _ rfl).1 (x0 _ (by first | omega | (simp only; omega)))
  have c2 := cell_reC (D0 2 _ rfl).1 (x0 _ (by first | omega | (simp only; omega)))
  have c3 := cell_reC (D0 3 _ rfl).1 (x0 _ (by first | omega | (simp only; omega)))
  have c4 := cell_reC (D0 4 _ rfl).1 (x0 _ (by first | omega | (simp only; omega)))
  have c5 := cell_reC (D0 5 _ rfl).1 (x0 _ (by first | omega | (simp only; omega)))
  have d0 := cell_reC (D1 0 _ rfl).1 (x0 _ (by first | omega | (simp only; omega)))
  have d1 := cell_reC (D1 1 _ rfl).1 (x0 _ (by first | omega | (simp only; omega)))
  have d2 := cell_reC (D1 2 _ rfl).1 (x0 _ (by first | omega | (simp only; omega)))
  refine anyK_begin X 5 rfl (by kernel_rfl) ?_
  refine anyK_take 0 3 2 rfl (by decide) (by kernel_rfl) (fun _ _ d _ _ h => by cases d <;> exact h) ?_
  repeat (refine headC_step (fun K hK => ?_); go_simp; first | (refine hK _ ?_; clear hK K) | (apply Exists.intro; refine ⟨fun _ => ?_, hK _ ?_⟩; ((go_at_call 40; exact Calls.re_of (hG.out _))); clear hK K))
  refine headC_nil ?_
  clear c0 c1 c2 c3 c4 c5 d0 d1 d2
  refine anyK_one 3 (by kernel_rfl) ?_
  refine stepK_run rfl ?_
  intro w2 h2 K hK
  go_simp
  refine (hF.out _).mono ?_
  rintro e w3 ⟨rfl, h3⟩
  exact ⟨rfl, rfl, (hE.trans h2).trans h3⟩

set_option maxHeartbeats 1600000 in
set_option maxRecDepth 100000 in
theorem cloPointAdd_yes (P A B N gx gy : Int) (a : Pt) (b : Pt) (r : Pt) (C0 C1 C2 : Nat) (w : World) (B0 : Blk w C0 [.int .i64 P, .int .i64 A, .int .i64 B, .int .i64 N, .int .i64 gx, .int .i64 gy]) (l0 : C0 < w.heap.size) (B1 : Blk w C1 [.int .i64 a.x, .int .i64 a.y, .bool a.far]) (l1 : C1 < w.heap.size) (B2 : Blk w C2 [.int .i64 b.x, .int .i64 b.y, .bool b.far]) (l2 : C2 < w.heap.size) (hG : Hid (∀ W : World, Calls Tryd.prog 40 #[.agg #[.int .i64 P, .int .i64 A, .int .i64 B, .int .i64 N, .int .i64 gx, .int .i64 gy]] W fun e w' => e = .returned (.agg #[.int .i64 0, .int .i64 0, .bool true, .int .i64 gx, .int .i64 gy, .bool false, .func (.func 87) #[.agg #[.int .i64 P, .int .i64 A, .int .i64 B, .int .i64 N, .int .i64 gx, .int .i64 gy]] #[], .func (.func 88) #[.agg #[.int .i64 P, .int .i64 A, .int .i64 B, .int .i64 N, .int .i64 gx, .int .i64 gy]] #[], .func (.func 89) #[.agg #[.int .i64 P, .int .i64 A, .int .i64 B, .int .i64 N, .int .i64 gx, .int .i64 gy]] #[], .func (.func 90) #[.agg #[.int .i64 P, .int .i64 A, .int .i64 B, .int .i64 N, .int .i64 gx, .int .i64 gy]] #[], .func (.func 91) #[] #[]]) ∧ Ext W w')) (hF : Hid (∀ W : World, Calls Tryd.prog 45 #[.agg #[.int .i64 0, .int .i64 0, .bool true, .int .i64 gx, .int .i64 gy, .bool false, .func (.func 87) #[.agg #[.int .i64 P, .int .i64 A, .int .i64 B, .int .i64 N, .int .i64 gx, .int .i64 gy]] #[], .func (.func 88) #[.agg #[.int .i64 P, .int .i64 A, .int .i64 B, .int .i64 N, .int .i64 gx, .int .i64 gy]] #[], .func (.func 89) #[.agg #[.int .i64 P, .int .i64 A, .int .i64 B, .int .i64 N, .int .i64 gx, .int .i64 gy]] #[], .func (.func 90) #[.agg #[.int .i64 P, .int .i64 A, .int .i64 B, .int .i64 N, .int .i64 gx, .int .i64 gy]] #[], .func (.func 91) #[] #[]], .agg #[.int .i64 a.x, .int .i64 a.y, .bool a.far], .agg #[.int .i64 b.x, .int .i64 b.y, .bool b.far]] W fun e w' => e = .returned (.agg #[.int .i64 r.x, .int .i64 r.y, .bool r.far]) ∧ Ext W w')) :
    Calls Tryd.prog 44 #[.pointer (some ⟨C0, 0, none⟩), .pointer (some ⟨C1, 0, none⟩), .pointer (some ⟨C2, 0, none⟩)] w fun e w' => e = .returned (.agg #[.int .i64 r.x, .int .i64 r.y, .bool r.far]) ∧ Ext w w' := by
  go_enter Tryd.func44, Tryd.ntmps44
  go_wp2
  obtain ⟨V, hV⟩ : ∃ V, w.alloc (.cells #[.int .i64 0, .int .i64 0, .bool false] 27) = V := ⟨_, rfl⟩
  have hE : Ext w V := hV ▸ Ext.alloc _ _
  obtain ⟨BR, -, hz⟩ := box1 w [.int .i64 0, .int .i64 0, .bool false] 27 (hV ▸ Ext.refl _ : Ext (w.alloc (.cells #[.int .i64 0, .int .i64 0, .bool false] 27)) V)
  simp only [hV]
  clear hV
  obtain ⟨X, hX⟩ : ∃ X : Nat → Prop, X = fun k => w.heap.size ≤ k := ⟨_, rfl⟩
  have x0 : ∀ k, k < w.heap.size → ¬ X k := fun k h => by rw [hX]; simp; omega
  have xC : X w.heap.size := by rw [hX]; exact Nat.le_refl _
  clear hX
  have D0 := B0.ext hE l0
  have D1 := B1.ext hE l1
  have D2 := B2.ext hE l2
  have c0 := cell_reC (D0 0 _ rfl).1 (x0 _ (by first | omega | (simp only; omega)))
  have c1 := cell_reC (D0 1 _ rfl).1 (x0 _ (by first | omega | (simp only; omega)))
  have c2 := cell_reC (D0 2 _ rfl).1 (x0 _ (by first | omega | (simp only; omega)))
  have c3 := cell_reC (D0 3 _ rfl).1 (x0 _ (by first | omega | (simp only; omega)))
  have c4 := cell_reC (D0 4 _ rfl).1 (x0 _ (by first | omega | (simp only; omega)))
  have c5 := cell_reC (D0 5 _ rfl).1 (x0 _ (by first | omega | (simp only; omega)))
  have d0 := cell_reC (D1 0 _ rfl).1 (x0 _ (by first | omega | (simp only; omega)))
  have d1 := cell_reC (D1 1 _ rfl).1 (x0 _ (by first | omega | (simp only; omega)))
  have d2 := cell_reC (D1 2 _ rfl).1 (x0 _ (by first | omega | (simp only; omega)))
  have e0 := cell_reC (D2 0 _ rfl).1 (x0 _ (by first | omega | (simp only; omega)))
  have e1 := cell_reC (D2 1 _ rfl).1 (x0 _ (by first | omega | (simp only; omega)))
  have e2 := cell_reC (D2 2 _ rfl).1 (x0 _ (by first | omega | (simp only; omega)))
  refine anyK_begin X 6 rfl (by kernel_rfl) ?_
  refine anyK_take 0 5 1 rfl (by decide) (by kernel_rfl) (fun _ _ d _ _ h => by cases d <;> exact h) ?_
  repeat (refine headC_step (fun K hK => ?_); go_simp; first | (refine hK _ ?_; clear hK K) | (apply Exists.intro; refine ⟨fun _ => ?_, hK _ ?_⟩; (first | (go_at_call 40; exact Calls.re_of (hG.out _)) | (go_at_call 45; exact Calls.re_of (hF.out _))); clear hK K))
  refine headC_nil ?_
  clear c0 c1 c2 c3 c4 c5 d0 d1 d2 e0 e1 e2
  refine anyK_one 5 (by kernel_rfl) ?_
  refine stepK_run rfl ?_
  intro w2 h2 K hK
  have BZ := BR.ext h2 (by omega)
  have d0 := (BZ 0 _ rfl).1
  have d1 := (BZ 1 _ rfl).1
  have d2 := (BZ 2 _ rfl).1
  have z0 := (BZ 0 _ rfl).2
  have z1 := (BZ 1 _ rfl).2
  have z2 := (BZ 2 _ rfl).2
  go_simp
  refine hK _ _ (show Grw X V (putL (w.heap.size) 0 [.int .i64 r.x, .int .i64 r.y, .bool r.far] w2) from Grw.putL xC _ _ _ (.of_ext h2)) ?_
  clear hK K d0 d1 d2 z0 z1 z2
  refine anyK_done (by kernel_rfl) ?_ 0
  intro w3 h3
  replace h3 : Ext (putL (w.heap.size) 0 [.int .i64 r.x, .int .i64 r.y, .bool r.far] w2) w3 := h3
  have BW := (BZ.put [.int .i64 r.x, .int .i64 r.y, .bool r.far] rfl).ext h3 (by rw [size_putL]; have := Below.size h2; omega)
  have hX : Ext w w3 := ((hE.trans h2).putL (by omega) [.int .i64 r.x, .int .i64 r.y, .bool r.far]).trans h3
  clear h2 h3 BZ
  have q0 := (BW 0 _ rfl).1
  have q1 := (BW 1 _ rfl).1
  have q2 := (BW 2 _ rfl).1
  go_wp2
  refine bodyPost_ret (v := .agg #[.int .i64 r.x, .int .i64 r.y, .bool r.far]) (by simp [results, Tryd.results44, go_sem, q0, q1, q2]) rfl ⟨rfl, hX⟩

set_option maxHeartbeats 1600000 in
set_option maxRecDepth 100000 in
theorem cloPointAdd_noG (P A B N gx gy : Int) (a : Pt) (b : Pt) (C0 C1 C2 : Nat) (w : World) (B0 : Blk w C0 [.int .i64 P, .int .i64 A, .int .i64 B, .int .i64 N, .int .i64 gx, .int .i64 gy]) (l0 : C0 < w.heap.size) (B1 : Blk w C1 [.int .i64 a.x, .int .i64 a.y, .bool a.far]) (l1 : C1 < w.heap.size) (B2 : Blk w C2 [.int .i64 b.x, .int .i64 b.y, .bool b.far]) (l2 : C2 < w.heap.size) (hG : Hid (∀ W : World, Calls Tryd.prog 40 #[.agg #[.int .i64 P, .int .i64 A, .int .i64 B, .int .i64 N, .int .i64 gx, .int .i64 gy]] W fun e w' => e = .panicked [nrE] ∧ Ext W w')) :
    Calls Tryd.prog 44 #[.pointer (some ⟨C0, 0, none⟩), .pointer (some ⟨C1, 0, none⟩), .pointer (some ⟨C2, 0, none⟩)] w fun e w' => e = .panicked [nrE] ∧ Ext w w' := by
  go_enter Tryd.func44, Tryd.ntmps44
  go_wp2
  obtain ⟨V, hV⟩ : ∃ V, w.alloc (.cells #[.int .i64 0, .int .i64 0, .bool false] 27) = V := ⟨_, rfl⟩
  have hE : Ext w V := hV ▸ Ext.alloc _ _
  obtain ⟨BR, -, hz⟩ := box1 w [.int .i64 0, .int .i64 0, .bool false] 27 (hV ▸ Ext.refl _ : Ext (w.alloc (.cells #[.int .i64 0, .int .i64 0, .bool false] 27)) V)
  simp only [hV]
  clear hV
  obtain ⟨X, hX⟩ : ∃ X : Nat → Prop, X = fun k => w.heap.size ≤ k := ⟨_, rfl⟩
  have x0 : ∀ k, k < w.heap.size → ¬ X k := fun k h => by rw [hX]; simp; omega
  have xC : X w.heap.size := by rw [hX]; exact Nat.le_refl _
  clear hX
  have D0 := B0.ext hE l0
  have D1 := B1.ext hE l1
  have D2 := B2.ext hE l2
  have c0 := cell_reC (D0 0 _ rfl).1 (x0 _ (by first | omega | (simp only; omega)))
  have c1 := cell_reC (D0 1 _ rfl).1 (x0 _ (by first | omega | (simp only; omega)))
  have c2 := cell_reC (D0 2 _ rfl).1 (x0 _ (by first | omega | (simp only; omega)))
  have c3 := cell_reC (D0 3 _ rfl).1 (x0 _ (by first | omega | (simp only; omega)))
  have c4 := cell_reC (D0 4 _ rfl).1 (x0 _ (by first | omega | (simp only; omega)))
  have c5 := cell_reC (D0 5 _ rfl).1 (x0 _ (by first | omega | (simp only; omega)))
  have d0 := cell_reC (D1 0 _ rfl).1 (x0 _ (by first | omega | (simp only; omega)))
  have d1 := cell_reC (D1 1 _ rfl).1 (x0 _ (by first | omega | (simp only; omega)))
  have d2 := cell_reC (D1 2 _ rfl).1 (x0 _ (by first | omega | (simp only; omega)))
  have e0 := cell_reC (D2 0 _ rfl).1 (x0 _ (by first | omega | (simp only; omega)))
  have e1 := cell_reC (D2 1 _ rfl).1 (x0 _ (by first | omega | (simp only; omega)))
  have e2 := cell_reC (D2 2 _ rfl).1 (x0 _ (by first | omega | (simp only; omega)))
  refine anyK_begin X 6 rfl (by kernel_rfl) ?_
  refine anyK_take 0 1 5 rfl (by decide) (by kernel_rfl) (fun _ _ d _ _ h => by cases d <;> exact h) ?_
  repeat (refine headC_step (fun K hK => ?_); go_simp; first | (refine hK _ ?_; clear hK K) | (apply Exists.intro; refine ⟨fun _ => ?_, hK _ ?_⟩; (fail); clear hK K))
  refine headC_nil ?_
  refine anyK_take 2 2 3 rfl (by decide) (by kernel_rfl) (fun _ _ d _ _ h => by cases d <;> exact h) ?_
  repeat (refine headC_step (fun K hK => ?_); go_simp; first | (refine hK _ ?_; clear hK K) | (apply Exists.intro; refine ⟨fun _ => ?_, hK _ ?_⟩; (fail); clear hK K))
  refine headC_nil ?_
  clear c0 c1 c2 c3 c4 c5 d0 d1 d2 e0 e1 e2
  refine anyK_one 1 (by kernel_rfl) ?_
  refine stepK_run rfl ?_
  intro w2 h2 K hK
  go_simp
  refine (hG.out _).mono ?_
  rintro e w3 ⟨rfl, h3⟩
  exact ⟨rfl, rfl, (hE.trans h2).trans h3⟩

set_option maxHeartbeats 1600000 in
set_option maxRecDepth 100000 in
theorem cloPointAdd_noF (P A B N gx gy : Int) (a : Pt) (b : Pt) (C0 C1 C2 : Nat) (w : World) (B0 : Blk w C0 [.int .i64 P, .int .i64 A, .int .i64 B, .int .i64 N, .int .i64 gx, .int .i64 gy]) (l0 : C0 < w.heap.size) (B1 : Blk w C1 [.int .i64 a.x, .int .i64 a.y, .bool a.far]) (l1 : C1 < w.heap.size) (B2 : Blk w C2 [.int .i64 b.x, .int .i64 b.y, .bool b.far]) (l2 : C2 < w.heap.size) (hG : Hid (∀ W : World, Calls Tryd.prog 40 #[.agg #[.int .i64 P, .int .i64 A, .int .i64 B, .int .i64 N, .int .i64 gx, .int .i64 gy]] W fun e w' => e = .returned (.agg #[.int .i64 0, .int .i64 0, .bool true, .int .i64 gx, .int .i64 gy, .bool false, .func (.func 87) #[.agg #[.int .i64 P, .int .i64 A, .int .i64 B, .int .i64 N, .int .i64 gx, .int .i64 gy]] #[], .func (.func 88) #[.agg #[.int .i64 P, .int .i64 A, .int .i64 B, .int .i64 N, .int .i64 gx, .int .i64 gy]] #[], .func (.func 89) #[.agg #[.int .i64 P, .int .i64 A, .int .i64 B, .int .i64 N, .int .i64 gx, .int .i64 gy]] #[], .func (.func 90) #[.agg #[.int .i64 P, .int .i64 A, .int .i64 B, .int .i64 N, .int .i64 gx, .int .i64 gy]] #[], .func (.func 91) #[] #[]]) ∧ Ext W w')) (hF : Hid (∀ W : World, Calls Tryd.prog 45 #[.agg #[.int .i64 0, .int .i64 0, .bool true, .int .i64 gx, .int .i64 gy, .bool false, .func (.func 87) #[.agg #[.int .i64 P, .int .i64 A, .int .i64 B, .int .i64 N, .int .i64 gx, .int .i64 gy]] #[], .func (.func 88) #[.agg #[.int .i64 P, .int .i64 A, .int .i64 B, .int .i64 N, .int .i64 gx, .int .i64 gy]] #[], .func (.func 89) #[.agg #[.int .i64 P, .int .i64 A, .int .i64 B, .int .i64 N, .int .i64 gx, .int .i64 gy]] #[], .func (.func 90) #[.agg #[.int .i64 P, .int .i64 A, .int .i64 B, .int .i64 N, .int .i64 gx, .int .i64 gy]] #[], .func (.func 91) #[] #[]], .agg #[.int .i64 a.x, .int .i64 a.y, .bool a.far], .agg #[.int .i64 b.x, .int .i64 b.y, .bool b.far]] W fun e w' => e = .panicked [nrE] ∧ Ext W w')) :
    Calls Tryd.prog 44 #[.pointer (some ⟨C0, 0, none⟩), .pointer (some ⟨C1, 0, none⟩), .pointer (some ⟨C2, 0, none⟩)] w fun e w' => e = .panicked [nrE] ∧ Ext w w' := by
  go_enter Tryd.func44, Tryd.ntmps44
  go_wp2
  obtain ⟨V, hV⟩ : ∃ V, w.alloc (.cells #[.int .i64 0, .int .i64 0, .bool false] 27) = V := ⟨_, rfl⟩
  have hE : Ext w V := hV ▸ Ext.alloc _ _
  obtain ⟨BR, -, hz⟩ := box1 w [.int .i64 0, .int .i64 0, .bool false] 27 (hV ▸ Ext.refl _ : Ext (w.alloc (.cells #[.int .i64 0, .int .i64 0, .bool false] 27)) V)
  simp only [hV]
  clear hV
  obtain ⟨X, hX⟩ : ∃ X : Nat → Prop, X = fun k => w.heap.size ≤ k := ⟨_, rfl⟩
  have x0 : ∀ k, k < w.heap.size → ¬ X k := fun k h => by rw [hX]; simp; omega
  have xC : X w.heap.size := by rw [hX]; exact Nat.le_refl _
  clear hX
  have D0 := B0.ext hE l0
  have D1 := B1.ext hE l1
  have D2 := B2.ext hE l2
  have c0 := cell_reC (D0 0 _ rfl).1 (x0 _ (by first | omega | (simp only; omega)))
  have c1 := cell_reC (D0 1 _ rfl).1 (x0 _ (by first | omega | (simp only; omega)))
  have c2 := cell_reC (D0 2 _ rfl).1 (x0 _ (by first | omega | (simp only; omega)))
  have c3 := cell_reC (D0 3 _ rfl).1 (x0 _ (by first | omega | (simp only; omega)))
  have c4 := cell_reC (D0 4 _ rfl).1 (x0 _ (by first | omega | (simp only; omega)))
  have c5 := cell_reC (D0 5 _ rfl).1 (x0 _ (by first | omega | (simp only; omega)))
  have d0 := cell_reC (D1 0 _ rfl).1 (x0 _ (by first | omega | (simp only; omega)))
  have d1 := cell_reC (D1 1 _ rfl).1 (x0 _ (by first | omega | (simp only; omega)))
  have d2 := cell_reC (D1 2 _ rfl).1 (x0 _ (by first | omega | (simp only; omega)))
  have e0 := cell_reC (D2 0 _ rfl).1 (x0 _ (by first | omega | (simp only; omega)))
  have e1 := cell_reC (D2 1 _ rfl).1 (x0 _ (by first | omega | (simp only; omega)))
  have e2 := cell_reC (D2 2 _ rfl).1 (x0 _ (by first | omega | (simp only; omega)))
  refine anyK_begin X 6 rfl (by kernel_rfl) ?_
  refine anyK_take 0 4 2 rfl (by decide) (by kernel_rfl) (fun _ _ d _ _ h => by cases d <;> exact h) ?_
  repeat (refine headC_step (fun K hK => ?_); go_simp; first | (refine hK _ ?_; clear hK K) | (apply Exists.intro; refine ⟨fun _ => ?_, hK _ ?_⟩; ((go_at_call 40; exact Calls.re_of (hG.out _))); clear hK K))
  refine headC_nil ?_
  clear c0 c1 c2 c3 c4 c5 d0 d1 d2 e0 e1 e2
  refine anyK_one 4 (by kernel_rfl) ?_
  refine stepK_run rfl ?_
  intro w2 h2 K hK
  go_simp
  refine (hF.out _).mono ?_
  rintro e w3 ⟨rfl, h3⟩
  exact ⟨rfl, rfl, (hE.trans h2).trans h3⟩

set_option maxHeartbeats 1600000 in
set_option maxRecDepth 100000 in
theorem cloPointMul_yes (P A B N gx gy : Int) (n : Int) (a : Pt) (r : Pt) (C0 C1 C2 : Nat) (w : World) (B0 : Blk w C0 [.int .i64 P, .int .i64 A, .int .i64 B, .int .i64 N, .int .i64 gx, .int .i64 gy]) (l0 : C0 < w.heap.size) (B1 : Blk w C1 [.int .i64 n]) (l1 : C1 < w.heap.size) (B2 : Blk w C2 [.int .i64 a.x, .int .i64 a.y, .bool a.far]) (l2 : C2 < w.heap.size) (hG : Hid (∀ W : World, Calls Tryd.prog 40 #[.agg #[.int .i64 P, .int .i64 A, .int .i64 B, .int .i64 N, .int .i64 gx, .int .i64 gy]] W fun e w' => e = .returned (.agg #[.int .i64 0, .int .i64 0, .bool true, .int .i64 gx, .int .i64 gy, .bool false, .func (.func 87) #[.agg #[.int .i64 P, .int .i64 A, .int .i64 B, .int .i64 N, .int .i64 gx, .int .i64 gy]] #[], .func (.func 88) #[.agg #[.int .i64 P, .int .i64 A, .int .i64 B, .int .i64 N, .int .i64 gx, .int .i64 gy]] #[], .func (.func 89) #[.agg #[.int .i64 P, .int .i64 A, .int .i64 B, .int .i64 N, .int .i64 gx, .int .i64 gy]] #[], .func (.func 90) #[.agg #[.int .i64 P, .int .i64 A, .int .i64 B, .int .i64 N, .int .i64 gx, .int .i64 gy]] #[], .func (.func 91) #[] #[]]) ∧ Ext W w')) (hF : Hid (∀ W : World, Calls Tryd.prog 47 #[.agg #[.int .i64 0, .int .i64 0, .bool true, .int .i64 gx, .int .i64 gy, .bool false, .func (.func 87) #[.agg #[.int .i64 P, .int .i64 A, .int .i64 B, .int .i64 N, .int .i64 gx, .int .i64 gy]] #[], .func (.func 88) #[.agg #[.int .i64 P, .int .i64 A, .int .i64 B, .int .i64 N, .int .i64 gx, .int .i64 gy]] #[], .func (.func 89) #[.agg #[.int .i64 P, .int .i64 A, .int .i64 B, .int .i64 N, .int .i64 gx, .int .i64 gy]] #[], .func (.func 90) #[.agg #[.int .i64 P, .int .i64 A, .int .i64 B, .int .i64 N, .int .i64 gx, .int .i64 gy]] #[], .func (.func 91) #[] #[]], .int .i64 n, .agg #[.int .i64 a.x, .int .i64 a.y, .bool a.far]] W fun e w' => e = .returned (.agg #[.int .i64 r.x, .int .i64 r.y, .bool r.far]) ∧ Ext W w')) :
    Calls Tryd.prog 46 #[.pointer (some ⟨C0, 0, none⟩), .pointer (some ⟨C1, 0, none⟩), .pointer (some ⟨C2, 0, none⟩)] w fun e w' => e = .returned (.agg #[.int .i64 r.x, .int .i64 r.y, .bool r.far]) ∧ Ext w w' := by
  go_enter Tryd.func46, Tryd.ntmps46
  go_wp2
  obtain ⟨V, hV⟩ : ∃ V, w.alloc (.cells #[.int .i64 0, .int .i64 0, .bool false] 27) = V := ⟨_, rfl⟩
  have hE : Ext w V := hV ▸ Ext.alloc _ _
  obtain ⟨BR, -, hz⟩ := box1 w [.int .i64 0, .int .i64 0, .bool false] 27 (hV ▸ Ext.refl _ : Ext (w.alloc (.cells #[.int .i64 0, .int .i64 0, .bool false] 27)) V)
  simp only [hV]
  clear hV
  obtain ⟨X, hX⟩ : ∃ X : Nat → Prop, X = fun k => w.heap.size ≤ k := ⟨_, rfl⟩
  have x0 : ∀ k, k < w.heap.size → ¬ X k := fun k h => by rw [hX]; simp; omega
  have xC : X w.heap.size := by rw [hX]; exact Nat.le_refl _
  clear hX
  have D0 := B0.ext hE l0
  have D1 := B1.ext hE l1
  have D2 := B2.ext hE l2
  have c0 := cell_reC (D0 0 _ rfl).1 (x0 _ (by first | omega | (simp only; omega)))
  have c1 := cell_reC (D0 1 _ rfl).1 (x0 _ (by first | omega | (simp only; omega)))
  have c2 := cell_reC (D0 2 _ rfl).1 (x0 _ (by first | omega | (simp only; omega)))
  have c3 := cell_reC (D0 3 _ rfl).1 (x0 _ (by first | omega | (simp only; omega)))
  have c4 := cell_reC (D0 4 _ rfl).1 (x0 _ (by first | omega | (simp only; omega)))
  have c5 := cell_reC (D0 5 _ rfl).1 (x0 _ (by first | omega | (simp only; omega)))
  have d0 := cell_reC (D1 0 _ rfl).1 (x0 _ (by first | omega | (simp only; omega)))
  have e0 := cell_reC (D2 0 _ rfl).1 (x0 _ (by first | omega | (simp only; omega)))
  have e1 := cell_reC (D2 1 _ rfl).1 (x0 _ (by first | omega | (simp only; omega)))
  have e2 := cell_reC (D2 2 _ rfl).1 (x0 _ (by first | omega | (simp only; omega)))
  refine anyK_begin X 6 rfl (by kernel_rfl) ?_
  refine anyK_take 0 5 1 rfl (by decide) (by kernel_rfl) (fun _ _ d _ _ h => by cases d <;> exact h) ?_
  repeat (refine headC_step (fun K hK => ?_); go_simp; first | (refine hK _ ?_; clear hK K) | (apply Exists.intro; refine ⟨fun _ => ?_, hK _ ?_⟩; (first | (go_at_call 40; exact Calls.re_of (hG.out _)) | (go_at_call 47; exact Calls.re_of (hF.out _))); clear hK K))
  refine headC_nil ?_
  clear c0 c1 c2 c3 c4 c5 d0 e0 e1 e2
  refine anyK_one 5 (by kernel_rfl) ?_
  refine stepK_run rfl ?_
  intro w2 h2 K hK
  have BZ := BR.ext h2 (by omega)
  have d0 := (BZ 0 _ rfl).1
  have d1 := (BZ 1 _ rfl).1
  have d2 := (BZ 2 _ rfl).1
  have z0 := (BZ 0 _ rfl).2
  have z1 := (BZ 1 _ rfl).2
  have z2 := (BZ 2 _ rfl).2
  go_simp
  refine hK _ _ (show Grw X V (putL (w.heap.size) 0 [.int .i64 r.x, .int .i64 r.y, .bool r.far] w2) from Grw.putL xC _ _ _ (.of_ext h2)) ?_
  clear hK K d0 d1 d2 z0 z1 z2
  refine anyK_done (by kernel_rfl) ?_ 0
  intro w3 h3
  replace h3 : Ext (putL (w.heap.size) 0 [.int .i64 r.x, .int .i64 r.y, .bool r.far] w2) w3 := h3
  have BW := (BZ.put [.int .i64 r.x, .int .i64 r.y, .bool r.far] rfl).ext h3 (by rw [size_putL]; have := Below.size h2; omega)
  have hX : Ext w w3 := ((hE.trans h2).putL (by omega) [.int .i64 r.x, .int .i64 r.y, .bool r.far]).trans h3
  clear h2 h3 BZ
  have q0 := (BW 0 _ rfl).1
  have q1 := (BW 1 _ rfl).1
  have q2 := (BW 2 _ rfl).1
  go_wp2
  refine bodyPost_ret (v := .agg #[.int .i64 r.x, .int .i64 r.y, .bool r.far]) (by simp [results, Tryd.results46, go_sem, q0, q1, q2]) rfl ⟨rfl, hX⟩

set_option maxHeartbeats 1600000 in
set_option maxRecDepth 100000 in
theorem cloPointMul_noG (P A B N gx gy : Int) (n : Int) (a : Pt) (C0 C1 C2 : Nat) (w : World) (B0 : Blk w C0 [.int .i64 P, .int .i64 A, .int .i64 B, .int .i64 N, .int .i64 gx, .int .i64 gy]) (l0 : C0 < w.heap.size) (B1 : Blk w C1 [.int .i64 n]) (l1 : C1 < w.heap.size) (B2 : Blk w C2 [.int .i64 a.x, .int .i64 a.y, .bool a.far]) (l2 : C2 < w.heap.size) (hG : Hid (∀ W : World, Calls Tryd.prog 40 #[.agg #[.int .i64 P, .int .i64 A, .int .i64 B, .int .i64 N, .int .i64 gx, .int .i64 gy]] W fun e w' => e = .panicked [nrE] ∧ Ext W w')) :
    Calls Tryd.prog 46 #[.pointer (some ⟨C0, 0, none⟩), .pointer (some ⟨C1, 0, none⟩), .pointer (some ⟨C2, 0, none⟩)] w fun e w' => e = .panicked [nrE] ∧ Ext w w' := by
  go_enter Tryd.func46, Tryd.ntmps46
  go_wp2
  obtain ⟨V, hV⟩ : ∃ V, w.alloc (.cells #[.int .i64 0, .int .i64 0, .bool false] 27) = V := ⟨_, rfl⟩
  have hE : Ext w V := hV ▸ Ext.alloc _ _
  obtain ⟨BR, -, hz⟩ := box1 w [.int .i64 0, .int .i64 0, .bool false] 27 (hV ▸ Ext.refl _ : Ext (w.alloc (.cells #[.int .i64 0, .int .i64 0, .bool false] 27)) V)
  simp only [hV]
  clear hV
  obtain ⟨X, hX⟩ : ∃ X : Nat → Prop, X = fun k => w.heap.size ≤ k := ⟨_, rfl⟩
  have x0 : ∀ k, k < w.heap.size → ¬ X k := fun k h => by rw [hX]; simp; omega
  have xC : X w.heap.size := by rw [hX]; exact Nat.le_refl _
  clear hX
  have D0 := B0.ext hE l0
  have D1 := B1.ext hE l1
  have D2 := B2.ext hE l2
  have c0 := cell_reC (D0 0 _ rfl).1 (x0 _ (by first | omega | (simp only; omega)))
  have c1 := cell_reC (D0 1 _ rfl).1 (x0 _ (by first | omega | (simp only; omega)))
  have c2 := cell_reC (D0 2 _ rfl).1 (x0 _ (by first | omega | (simp only; omega)))
  have c3 := cell_reC (D0 3 _ rfl).1 (x0 _ (by first | omega | (simp only; omega)))
  have c4 := cell_reC (D0 4 _ rfl).1 (x0 _ (by first | omega | (simp only; omega)))
  have c5 := cell_reC (D0 5 _ rfl).1 (x0 _ (by first | omega | (simp only; omega)))
  have d0 := cell_reC (D1 0 _ rfl).1 (x0 _ (by first | omega | (simp only; omega)))
  have e0 := cell_reC (D2 0 _ rfl).1 (x0 _ (by first | omega | (simp only; omega)))
  have e1 := cell_reC (D2 1 _ rfl).1 (x0 _ (by first | omega | (simp only; omega)))
  have e2 := cell_reC (D2 2 _ rfl).1 (x0 _ (by first | omega | (simp only; omega)))
  refine anyK_begin X 6 rfl (by kernel_rfl) ?_
  refine anyK_take 0 1 5 rfl (by decide) (by kernel_rfl) (fun _ _ d _ _ h => by cases d <;> exact h) ?_
  repeat (refine headC_step (fun K hK => ?_); go_simp; first | (refine hK _ ?_; clear hK K) | (apply Exists.intro; refine ⟨fun _ => ?_, hK _ ?_⟩; (fail); clear hK K))
  refine headC_nil ?_
  refine anyK_take 2 2 3 rfl (by decide) (by kernel_rfl) (fun _ _ d _ _ h => by cases d <;> exact h) ?_
  repeat (refine headC_step (fun K hK => ?_); go_simp; first | (refine hK _ ?_; clear hK K) | (apply Exists.intro; refine ⟨fun _ => ?_, hK _ ?_⟩; (fail); clear hK K))
  refine headC_nil ?_
  clear c0 c1 c2 c3 c4 c5 d0 e0 e1 e2
  refine anyK_one 1 (by kernel_rfl) ?_
  refine stepK_run rfl ?_
  intro w2 h2 K hK
  go_simp
  refine (hG.out _).mono ?_
  rintro e w3 ⟨rfl, h3⟩
  exact ⟨rfl, rfl, (hE.trans h2).trans h3⟩

set_option maxHeartbeats 1600000 in
set_option maxRecDepth 100000 in
theorem cloPointMul_noF (P A B N gx gy : Int) (n : Int) (a : Pt) (C0 C1 C2 : Nat) (w : World) (B0 : Blk w C0 [.int .i64 P, .int .i64 A, .int .i64 B, .int .i64 N, .int .i64 gx, .int .i64 gy]) (l0 : C0 < w.heap.size) (B1 : Blk w C1 [.int .i64 n]) (l1 : C1 < w.heap.size) (B2 : Blk w C2 [.int .i64 a.x, .int .i64 a.y, .bool a.far]) (l2 : C2 < w.heap.size) (hG : Hid (∀ W : World, Calls Tryd.prog 40 #[.agg #[.int .i64 P, .int .i64 A, .int .i64 B, .int .i64 N, .int .i64 gx, .int .i64 gy]] W fun e w' => e = .returned (.agg #[.int .i64 0, .int .i64 0, .bool true, .int .i64 gx, .int .i64 gy, .bool false, .func (.func 87) #[.agg #[.int .i64 P, .int .i64 A, .int .i64 B, .int .i64 N, .int .i64 gx, .int .i64 gy]] #[], .func (.func 88) #[.agg #[.int .i64 P, .int .i64 A, .int .i64 B, .int .i64 N, .int .i64 gx, .int .i64 gy]] #[], .func (.func 89) #[.agg #[.int .i64 P, .int .i64 A, .int .i64 B, .int .i64 N, .int .i64 gx, .int .i64 gy]] #[], .func (.func 90) #[.agg #[.int .i64 P, .int .i64 A, .int .i64 B, .int .i64 N, .int .i64 gx, .int .i64 gy]] #[], .func (.func 91) #[] #[]]) ∧ Ext W w')) (hF : Hid (∀ W : World, Calls Tryd.prog 47 #[.agg #[.int .i64 0, .int .i64 0, .bool true, .int .i64 gx, .int .i64 gy, .bool false, .func (.func 87) #[.agg #[.int .i64 P, .int .i64 A, .int .i64 B, .int .i64 N, .int .i64 gx, .int .i64 gy]] #[], .func (.func 88) #[.agg #[.int .i64 P, .int .i64 A, .int .i64 B, .int .i64 N, .int .i64 gx, .int .i64 gy]] #[], .func (.func 89) #[.agg #[.int .i64 P, .int .i64 A, .int .i64 B, .int .i64 N, .int .i64 gx, .int .i64 gy]] #[], .func (.func 90) #[.agg #[.int .i64 P, .int .i64 A, .int .i64 B, .int .i64 N, .int .i64 gx, .int .i64 gy]] #[], .func (.func 91) #[] #[]], .int .i64 n, .agg #[.int .i64 a.x, .int .i64 a.y, .bool a.far]] W fun e w' => e = .panicked [nrE] ∧ Ext W w')) :
    Calls Tryd.prog 46 #[.pointer (some ⟨C0, 0, none⟩), .pointer (some ⟨C1, 0, none⟩), .pointer (some ⟨C2, 0, none⟩)] w fun e w' => e = .panicked [nrE] ∧ Ext w w' := by
  go_enter Tryd.func46, Tryd.ntmps46
  go_wp2
  obtain ⟨V, hV⟩ : ∃ V, w.alloc (.cells #[.int .i64 0, .int .i64 0, .bool false] 27) = V := ⟨_, rfl⟩
  have hE : Ext w V := hV ▸ Ext.alloc _ _
  obtain ⟨BR, -, hz⟩ := box1 w [.int .i64 0, .int .i64 0, .bool false] 27 (hV ▸ Ext.refl _ : Ext (w.alloc (.cells #[.int .i64 0, .int .i64 0, .bool false] 27)) V)
  simp only [hV]
  clear hV
  obtain ⟨X, hX⟩ : ∃ X : Nat → Prop, X = fun k => w.heap.size ≤ k := ⟨_, rfl⟩
  have x0 : ∀ k, k < w.heap.size → ¬ X k := fun k h => by rw [hX]; simp; omega
  have xC : X w.heap.size := by rw [hX]; exact Nat.le_refl _
  clear hX
  have D0 := B0.ext hE l0
  have D1 := B1.ext hE l1
  have D2 := B2.ext hE l2
  have c0 := cell_reC (D0 0 _ rfl).1 (x0 _ (by first | omega | (simp only; omega)))
  have c1 := cell_reC (D0 1 _ rfl).1 (x0 _ (by first | omega | (simp only; omega)))
  have c2 := cell_reC (D0 2 _ rfl).1 (x0 _ (by first | omega | (simp only; omega)))
  have c3 := cell_reC (D0 3 _ rfl).1 (x0 _ (by first | omega | (simp only; omega)))
  have c4 := cell_reC (D0 4 _ rfl).1 (x0 _ (by first | omega | (simp only; omega)))
  have c5 := cell_reC (D0 5 _ rfl).1 (x0 _ (by first | omega | (simp only; omega)))
  have d0 := cell_reC (D1 0 _ rfl).1 (x0 _ (by first | omega | (simp only; omega)))
  have e0 := cell_reC (D2 0 _ rfl).1 (x0 _ (by first | omega | (simp only; omega)))
  have e1 := cell_reC (D2 1 _ rfl).1 (x0 _ (by first | omega | (simp only; omega)))
  have e2 := cell_reC (D2 2 _ rfl).1 (x0 _ (by first | omega | (simp only; omega)))
  refine anyK_begin X 6 rfl (by kernel_rfl) ?_
  refine anyK_take 0 4 2 rfl (by decide) (by kernel_rfl) (fun _ _ d _ _ h => by cases d <;> exact h) ?_
  repeat (refine headC_step (fun K hK => ?_); go_simp; first | (refine hK _ ?_; clear hK K) | (apply Exists.intro; refine ⟨fun _ => ?_, hK _ ?_⟩; ((go_at_call 40; exact Calls.re_of (hG.out _))); clear hK K))
  refine headC_nil ?_
  clear c0 c1 c2 c3 c4 c5 d0 e0 e1 e2
  refine anyK_one 4 (by kernel_rfl) ?_
  refine stepK_run rfl ?_
  intro w2 h2 K hK
  go_simp
  refine (hF.out _).mono ?_
  rintro e w3 ⟨rfl, h3⟩
  exact ⟨rfl, rfl, (hE.trans h2).trans h3⟩

end Go.Proofs.YtejlgcnhfomadaaDoor
