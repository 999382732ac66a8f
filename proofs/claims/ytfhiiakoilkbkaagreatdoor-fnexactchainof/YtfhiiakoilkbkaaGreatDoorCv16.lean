/- Walks: the face of the program: what is panicked with, held against another. Walks: the face of the program: what recovers, answered, at impl.Point. Walks: the program's functions over curves (impl.Point): what is handed to answered, and the face. Walks: the program's functions over curves (impl.Point): what is handed to answered, and the face. What the program's functions over curves answer: CurveOk, PointOk, PointAdd, PointMul. -/
import Derived.Test.YtfhiiakoilkbkaaGreatDoorCv15
namespace Go.Proofs.YtfhiiakoilkbkaaGreatDoor
set_option linter.unusedVariables false
set_option linter.unusedSimpArgs false
section
open Go.RowKit
theorem ne_nil_nr (w : World) : (binOp .neq 20 (.iface 180 (.agg #[])) .nilIface).run Tryz.prog w = .ok (.bool true) w := by kernel_rfl
theorem ne_nr_nr (w : World) : (binOp .neq 20 (.iface 180 (.agg #[])) (.iface 180 (.agg #[]))).run Tryz.prog w = .ok (.bool false) w := by kernel_rfl
theorem catchPt_idle (w : World) :
  CallsD Tryz.prog 176 #[] .returning w fun e u' w' => e = .returned (.tuple #[]) ∧ u' = .returning ∧ w' = w := by
 refine callsD_of_wpS Tryz.func176 rfl fun c₀ cs hu => ?_
 apply wpS_seq
 apply wpS_region
 simp [wpOpsS, go_sem, recoverD, hu, Tryz.ntmps176, Exit.thenS]
 apply wpS_seq
 apply wpS_region
 simp [wpOpsS, go_sem, Exit.thenS]
 refine wpS_cond (t := false) (by simp [Act.eval, Array.replicate]) ?_
 simp only [Bool.false_eq_true, if_false]
 refine wpS_of_wp (wp_skip ?_)
 cases c₀
 simp_all [bodyPostS, results, Tryz.results176]
theorem catchPt_hit (w : World) :
  CallsD Tryz.prog 176 #[] (.panicking [nrE]) w fun e u' w' => e = .returned (.tuple #[]) ∧ u' = .panicking [{ v := .iface 180 (.agg #[]), recovered := true }] ∧ w' = w := by
 have h1 := ne_nil_nr
 have h2 := ne_nr_nr
 refine callsD_of_wpS Tryz.func176 rfl fun c₀ cs hu => ?_
 apply wpS_seq
 apply wpS_region
 simp [wpOpsS, go_sem, recoverD, hu, nrE, Tryz.ntmps176, Exit.thenS]
 apply wpS_seq
 apply wpS_region
 simp [wpOpsS, go_sem, Exit.thenS, h1, h2]
 refine wpS_cond (t := false) (by simp [Act.eval, Array.replicate]) ?_
 simp only [Bool.false_eq_true, if_false]
 refine wpS_of_wp (wp_skip ?_)
 cases c₀
 simp_all [bodyPostS, results, Tryz.results176]
set_option maxHeartbeats 4000000 in
set_option maxRecDepth 100000 in
theorem answPt_yes (G : Nat) (cap : Array Value) (hG : ∀ (args : Array Value) (w : World), (callFunc G args).run Tryz.prog w = .ok (.enter G args) w) (a : Pt) (w : World)
  (h : ∀ W, Ext w W → Calls Tryz.prog G cap W fun e w' => e = .returned (.agg #[.int .i64 a.x, .int .i64 a.y, .bool a.far]) ∧ Ext W w') :
  Calls Tryz.prog 159 #[.func (.func G) #[] cap] w fun e w' => e = .returned (.tuple #[.agg #[.int .i64 a.x, .int .i64 a.y, .bool a.far], .bool true]) ∧ Ext w w' := by
 go_enter_defers Tryz.func159, Tryz.ntmps159
 go_wp2_with fail
 refine (h _ (Ext.alloc _ _)).mono ?_
 rintro e w1 ⟨rfl, hw1⟩
 obtain ⟨B1, hE, hz⟩ := box1 w [.int .i64 0, .int .i64 0, .bool false] 47 hw1
 clear hw1 h hG
 have d0 := (B1 0 _ rfl).1
 have d1 := (B1 1 _ rfl).1
 have d2 := (B1 2 _ rfl).1
 have z0 := (B1 0 _ rfl).2
 have z1 := (B1 1 _ rfl).2
 have z2 := (B1 2 _ rfl).2
 go_wp2
 obtain ⟨W, hW⟩ : ∃ W, putL w.heap.size 0 [.int .i64 a.x, .int .i64 a.y, .bool a.far] w1 = W := ⟨_, rfl⟩
 have BW := Blk.put B1 [.int .i64 a.x, .int .i64 a.y, .bool a.far] rfl
 rw [hW] at BW
 have hF : Ext w W := hW ▸ hE.putL (by omega) _
 simp only [putL, Nat.zero_add, Nat.reduceAdd] at hW
 simp only [hW]
 have q0 := (BW 0 _ rfl).1
 have q1 := (BW 1 _ rfl).1
 have q2 := (BW 2 _ rfl).1
 clear d0 d1 d2 z0 z1 z2 hW B1
 refine leaves_cons (f := 176) (args := #[]) (by simp) (by simp [go_sem]) ?_
 refine (catchPt_idle _).mono ?_
 rintro e u' w'' ⟨rfl, rfl, rfl⟩
 simp [Leaves, settle, results, Tryz.results159, go_sem, q0, q1, q2]
 exact hF
set_option maxHeartbeats 4000000 in
set_option maxRecDepth 100000 in
theorem answPt_no (G : Nat) (cap : Array Value) (hG : ∀ (args : Array Value) (w : World), (callFunc G args).run Tryz.prog w = .ok (.enter G args) w)  (w : World)
  (h : ∀ W, Ext w W → Calls Tryz.prog G cap W fun e w' => e = .panicked [nrE] ∧ Ext W w') :
  Calls Tryz.prog 159 #[.func (.func G) #[] cap] w fun e w' => e = .returned (.tuple #[.agg #[.int .i64 0, .int .i64 0, .bool false], .bool false]) ∧ Ext w w' := by
 go_enter_defers Tryz.func159, Tryz.ntmps159
 go_wp2_with fail
 refine (h _ (Ext.alloc _ _)).mono ?_
 rintro e w1 ⟨rfl, hw1⟩
 obtain ⟨B1, hE, hz⟩ := box1 w [.int .i64 0, .int .i64 0, .bool false] 47 hw1
 clear hw1 h hG
 have d0 := (B1 0 _ rfl).1
 have d1 := (B1 1 _ rfl).1
 have d2 := (B1 2 _ rfl).1
 go_wp2
 refine leaves_cons (f := 176) (args := #[]) (by simp) (by simp [go_sem]) ?_
 refine (catchPt_hit _).mono ?_
 rintro e u' w'' ⟨rfl, rfl, rfl⟩
 simp [Leaves, settle, results, Tryz.results159, go_sem, d0, d1, d2]
 exact hE
set_option maxHeartbeats 1600000 in
set_option maxRecDepth 100000 in
theorem cloPointMul_yes (P A B N gx gy : Int) (n : Int) (a : Pt) (r : Pt) (C0 C1 C2 : Nat) (w : World) (B0 : Blk w C0 [.int .i64 P, .int .i64 A, .int .i64 B, .int .i64 N, .int .i64 gx, .int .i64 gy]) (l0 : C0 < w.heap.size) (B1 : Blk w C1 [.int .i64 n]) (l1 : C1 < w.heap.size) (B2 : Blk w C2 [.int .i64 a.x, .int .i64 a.y, .bool a.far]) (l2 : C2 < w.heap.size) (hG : Hid (∀ W : World, Calls Tryz.prog 161 #[.agg #[.int .i64 P, .int .i64 A, .int .i64 B, .int .i64 N, .int .i64 gx, .int .i64 gy]] W fun e w' => e = .returned (.agg #[.int .i64 0, .int .i64 0, .bool true, .int .i64 gx, .int .i64 gy, .bool false, .func (.func 179) #[.agg #[.int .i64 P, .int .i64 A, .int .i64 B, .int .i64 N, .int .i64 gx, .int .i64 gy]] #[], .func (.func 180) #[.agg #[.int .i64 P, .int .i64 A, .int .i64 B, .int .i64 N, .int .i64 gx, .int .i64 gy]] #[], .func (.func 181) #[.agg #[.int .i64 P, .int .i64 A, .int .i64 B, .int .i64 N, .int .i64 gx, .int .i64 gy]] #[], .func (.func 182) #[.agg #[.int .i64 P, .int .i64 A, .int .i64 B, .int .i64 N, .int .i64 gx, .int .i64 gy]] #[], .func (.func 183) #[] #[]]) ∧ Ext W w')) (hF : Hid (∀ W : World, Calls Tryz.prog 162 #[.agg #[.int .i64 0, .int .i64 0, .bool true, .int .i64 gx, .int .i64 gy, .bool false, .func (.func 179) #[.agg #[.int .i64 P, .int .i64 A, .int .i64 B, .int .i64 N, .int .i64 gx, .int .i64 gy]] #[], .func (.func 180) #[.agg #[.int .i64 P, .int .i64 A, .int .i64 B, .int .i64 N, .int .i64 gx, .int .i64 gy]] #[], .func (.func 181) #[.agg #[.int .i64 P, .int .i64 A, .int .i64 B, .int .i64 N, .int .i64 gx, .int .i64 gy]] #[], .func (.func 182) #[.agg #[.int .i64 P, .int .i64 A, .int .i64 B, .int .i64 N, .int .i64 gx, .int .i64 gy]] #[], .func (.func 183) #[] #[]], .int .i64 n, .agg #[.int .i64 a.x, .int .i64 a.y, .bool a.far]] W fun e w' => e = .returned (.agg #[.int .i64 r.x, .int .i64 r.y, .bool r.far]) ∧ Ext W w')) :
  Calls Tryz.prog 160 #[.pointer (some ⟨C0, 0, none⟩), .pointer (some ⟨C1, 0, none⟩), .pointer (some ⟨C2, 0, none⟩)] w fun e w' => e = .returned (.agg #[.int .i64 r.x, .int .i64 r.y, .bool r.far]) ∧ Ext w w' := by
 go_enter Tryz.func160, Tryz.ntmps160
 go_wp2
 obtain ⟨V, hV⟩ : ∃ V, w.alloc (.cells #[.int .i64 0, .int .i64 0, .bool false] 47) = V := ⟨_, rfl⟩
 have hE : Ext w V := hV ▸ Ext.alloc _ _
 obtain ⟨BR, -, hz⟩ := box1 w [.int .i64 0, .int .i64 0, .bool false] 47 (hV ▸ Ext.refl _ : Ext (w.alloc (.cells #[.int .i64 0, .int .i64 0, .bool false] 47)) V)
 simp only [hV]
 clear hV
 obtain ⟨X, hX⟩ : ∃ X : Nat → Prop, X = fun k => w.heap.size ≤ k := ⟨_, rfl⟩
 have x0 : ∀ k, k < w.heap.size → ¬ X k := fun k h => by rw [hX]; simp; omega
 have xC : X w.heap.size := by rw [hX]; exact Nat.le_refl _
 clear hX
 have D0 := B0.ext hE l0
 have D1 := B1.ext hE l1
 have D2 := B2.ext hE l2
 have c0 := cell_reC (D0 0 _ rfl).1 (x0 _ (by first | omega | (simp only; omega)))
 have c1 := cell_reC (D0 1 _ rfl).1 (x0 _ (by first | omega | (simp only; omega)))
 have c2 := cell_reC (D0 2 _ rfl).1 (x0 _ (by first | omega | (simp only; omega)))
 have c3 := cell_reC (D0 3 _ rfl).1 (x0 _ (by first | omega | (simp only; omega)))
 have c4 := cell_reC (D0 4 _ rfl).1 (x0 _ (by first | omega | (simp only; omega)))
 have c5 := cell_reC (D0 5 _ rfl).1 (x0 _ (by first | omega | (simp only; omega)))
 have d0 := cell_reC (D1 0 _ rfl).1 (x0 _ (by first | omega | (simp only; omega)))
 have e0 := cell_reC (D2 0 _ rfl).1 (x0 _ (by first | omega | (simp only; omega)))
 have e1 := cell_reC (D2 1 _ rfl).1 (x0 _ (by first | omega | (simp only; omega)))
 have e2 := cell_reC (D2 2 _ rfl).1 (x0 _ (by first | omega | (simp only; omega)))
 refine anyK_begin X 6 rfl (by kernel_rfl) ?_
 refine anyK_take 0 5 1 rfl (by decide) (by kernel_rfl) (fun _ _ d _ _ h => by cases d <;> exact h) ?_
 repeat (refine headC_step (fun K hK => ?_); go_simp; first | (refine hK _ ?_; clear hK K) | (apply Exists.intro; refine ⟨fun _ => ?_, hK _ ?_⟩; (first | (go_at_call 161; exact Calls.re_of (hG.out _)) | (go_at_call 162; exact Calls.re_of (hF.out _))); clear hK K))
 refine headC_nil ?_
 clear c0 c1 c2 c3 c4 c5 d0 e0 e1 e2
 refine anyK_one 5 (by kernel_rfl) ?_
 refine stepK_run rfl ?_
 intro w2 h2 K hK
 have BZ := BR.ext h2 (by omega)
 have d0 := (BZ 0 _ rfl).1
 have d1 := (BZ 1 _ rfl).1
 have d2 := (BZ 2 _ rfl).1
 have z0 := (BZ 0 _ rfl).2
 have z1 := (BZ 1 _ rfl).2
 have z2 := (BZ 2 _ rfl).2
 go_simp
 refine hK _ _ (show Grw X V (putL (w.heap.size) 0 [.int .i64 r.x, .int .i64 r.y, .bool r.far] w2) from Grw.putL xC _ _ _ (.of_ext h2)) ?_
 clear hK K d0 d1 d2 z0 z1 z2
 refine anyK_done (by kernel_rfl) ?_ 0
 intro w3 h3
 replace h3 : Ext (putL (w.heap.size) 0 [.int .i64 r.x, .int .i64 r.y, .bool r.far] w2) w3 := h3
 have BW := (BZ.put [.int .i64 r.x, .int .i64 r.y, .bool r.far] rfl).ext h3 (by rw [size_putL]; have := Below.size h2; omega)
 have hX : Ext w w3 := ((hE.trans h2).putL (by omega) [.int .i64 r.x, .int .i64 r.y, .bool r.far]).trans h3
 clear h2 h3 BZ
 have q0 := (BW 0 _ rfl).1
 have q1 := (BW 1 _ rfl).1
 have q2 := (BW 2 _ rfl).1
 go_wp2
 refine bodyPost_ret (v := .agg #[.int .i64 r.x, .int .i64 r.y, .bool r.far]) (by simp [results, Tryz.results160, go_sem, q0, q1, q2]) rfl ⟨rfl, hX⟩
set_option maxHeartbeats 1600000 in
set_option maxRecDepth 100000 in
theorem cloPointMul_noG (P A B N gx gy : Int) (n : Int) (a : Pt) (C0 C1 C2 : Nat) (w : World) (B0 : Blk w C0 [.int .i64 P, .int .i64 A, .int .i64 B, .int .i64 N, .int .i64 gx, .int .i64 gy]) (l0 : C0 < w.heap.size) (B1 : Blk w C1 [.int .i64 n]) (l1 : C1 < w.heap.size) (B2 : Blk w C2 [.int .i64 a.x, .int .i64 a.y, .bool a.far]) (l2 : C2 < w.heap.size) (hG : Hid (∀ W : World, Calls Tryz.prog 161 #[.agg #[.int .i64 P, .int .i64 A, .int .i64 B, .int .i64 N, .int .i64 gx, .int .i64 gy]] W fun e w' => e = .panicked [nrE] ∧ Ext W w')) :
  Calls Tryz.prog 160 #[.pointer (some ⟨C0, 0, none⟩), .pointer (some ⟨C1, 0, none⟩), .pointer (some ⟨C2, 0, none⟩)] w fun e w' => e = .panicked [nrE] ∧ Ext w w' := by
 go_enter Tryz.func160, Tryz.ntmps160
 go_wp2
 obtain ⟨V, hV⟩ : ∃ V, w.alloc (.cells #[.int .i64 0, .int .i64 0, .bool false] 47) = V := ⟨_, rfl⟩
 have hE : Ext w V := hV ▸ Ext.alloc _ _
 obtain ⟨BR, -, hz⟩ := box1 w [.int .i64 0, .int .i64 0, .bool false] 47 (hV ▸ Ext.refl _ : Ext (w.alloc (.cells #[.int .i64 0, .int .i64 0, .bool false] 47)) V)
 simp only [hV]
 clear hV
 obtain ⟨X, hX⟩ : ∃ X : Nat → Prop, X = fun k => w.heap.size ≤ k := ⟨_, rfl⟩
 have x0 : ∀ k, k < w.heap.size → ¬ X k := fun k h => by rw [hX]; simp; omega
 have xC : X w.heap.size := by rw [hX]; exact Nat.le_refl _
 clear hX
 have D0 := B0.ext hE l0
 have D1 := B1.ext hE l1
 have D2 := B2.ext hE l2
 have c0 := cell_reC (D0 0 _ rfl).1 (x0 _ (by first | omega | (simp only; omega)))
 have c1 := cell_reC (D0 1 _ rfl).1 (x0 _ (by first | omega | (simp only; omega)))
 have c2 := cell_reC (D0 2 _ rfl).1 (x0 _ (by first | omega | (simp only; omega)))
 have c3 := cell_reC (D0 3 _ rfl).1 (x0 _ (by first | omega | (simp only; omega)))
 have c4 := cell_reC (D0 4 _ rfl).1 (x0 _ (by first | omega | (simp only; omega)))
 have c5 := cell_reC (D0 5 _ rfl).1 (x0 _ (by first | omega | (simp only; omega)))
 have d0 := cell_reC (D1 0 _ rfl).1 (x0 _ (by first | omega | (simp only; omega)))
 have e0 := cell_reC (D2 0 _ rfl).1 (x0 _ (by first | omega | (simp only; omega)))
 have e1 := cell_reC (D2 1 _ rfl).1 (x0 _ (by first | omega | (simp only; omega)))
 have e2 := cell_reC (D2 2 _ rfl).1 (x0 _ (by first | omega | (simp only; omega)))
 refine anyK_begin X 6 rfl (by kernel_rfl) ?_
 refine anyK_take 0 1 5 rfl (by decide) (by kernel_rfl) (fun _ _ d _ _ h => by cases d <;> exact h) ?_
 repeat (refine headC_step (fun K hK => ?_); go_simp; refine hK _ ?_; clear hK K)
 refine headC_nil ?_
 refine anyK_take 2 2 3 rfl (by decide) (by kernel_rfl) (fun _ _ d _ _ h => by cases d <;> exact h) ?_
 repeat (refine headC_step (fun K hK => ?_); go_simp; refine hK _ ?_; clear hK K)
 refine headC_nil ?_
 clear c0 c1 c2 c3 c4 c5 d0 e0 e1 e2
 refine anyK_one 1 (by kernel_rfl) ?_
 refine stepK_run rfl ?_
 intro w2 h2 K hK
 go_simp
 refine (hG.out _).mono ?_
 rintro e w3 ⟨rfl, h3⟩
 exact ⟨rfl, rfl, (hE.trans h2).trans h3⟩
set_option maxHeartbeats 1600000 in
set_option maxRecDepth 100000 in
theorem cloPointMul_noF (P A B N gx gy : Int) (n : Int) (a : Pt) (C0 C1 C2 : Nat) (w : World) (B0 : Blk w C0 [.int .i64 P, .int .i64 A, .int .i64 B, .int .i64 N, .int .i64 gx, .int .i64 gy]) (l0 : C0 < w.heap.size) (B1 : Blk w C1 [.int .i64 n]) (l1 : C1 < w.heap.size) (B2 : Blk w C2 [.int .i64 a.x, .int .i64 a.y, .bool a.far]) (l2 : C2 < w.heap.size) (hG : Hid (∀ W : World, Calls Tryz.prog 161 #[.agg #[.int .i64 P, .int .i64 A, .int .i64 B, .int .i64 N, .int .i64 gx, .int .i64 gy]] W fun e w' => e = .returned (.agg #[.int .i64 0, .int .i64 0, .bool true, .int .i64 gx, .int .i64 gy, .bool false, .func (.func 179) #[.agg #[.int .i64 P, .int .i64 A, .int .i64 B, .int .i64 N, .int .i64 gx, .int .i64 gy]] #[], .func (.func 180) #[.agg #[.int .i64 P, .int .i64 A, .int .i64 B, .int .i64 N, .int .i64 gx, .int .i64 gy]] #[], .func (.func 181) #[.agg #[.int .i64 P, .int .i64 A, .int .i64 B, .int .i64 N, .int .i64 gx, .int .i64 gy]] #[], .func (.func 182) #[.agg #[.int .i64 P, .int .i64 A, .int .i64 B, .int .i64 N, .int .i64 gx, .int .i64 gy]] #[], .func (.func 183) #[] #[]]) ∧ Ext W w')) (hF : Hid (∀ W : World, Calls Tryz.prog 162 #[.agg #[.int .i64 0, .int .i64 0, .bool true, .int .i64 gx, .int .i64 gy, .bool false, .func (.func 179) #[.agg #[.int .i64 P, .int .i64 A, .int .i64 B, .int .i64 N, .int .i64 gx, .int .i64 gy]] #[], .func (.func 180) #[.agg #[.int .i64 P, .int .i64 A, .int .i64 B, .int .i64 N, .int .i64 gx, .int .i64 gy]] #[], .func (.func 181) #[.agg #[.int .i64 P, .int .i64 A, .int .i64 B, .int .i64 N, .int .i64 gx, .int .i64 gy]] #[], .func (.func 182) #[.agg #[.int .i64 P, .int .i64 A, .int .i64 B, .int .i64 N, .int .i64 gx, .int .i64 gy]] #[], .func (.func 183) #[] #[]], .int .i64 n, .agg #[.int .i64 a.x, .int .i64 a.y, .bool a.far]] W fun e w' => e = .panicked [nrE] ∧ Ext W w')) :
  Calls Tryz.prog 160 #[.pointer (some ⟨C0, 0, none⟩), .pointer (some ⟨C1, 0, none⟩), .pointer (some ⟨C2, 0, none⟩)] w fun e w' => e = .panicked [nrE] ∧ Ext w w' := by
 go_enter Tryz.func160, Tryz.ntmps160
 go_wp2
 obtain ⟨V, hV⟩ : ∃ V, w.alloc (.cells #[.int .i64 0, .int .i64 0, .bool false] 47) = V := ⟨_, rfl⟩
 have hE : Ext w V := hV ▸ Ext.alloc _ _
 obtain ⟨BR, -, hz⟩ := box1 w [.int .i64 0, .int .i64 0, .bool false] 47 (hV ▸ Ext.refl _ : Ext (w.alloc (.cells #[.int .i64 0, .int .i64 0, .bool false] 47)) V)
 simp only [hV]
 clear hV
 obtain ⟨X, hX⟩ : ∃ X : Nat → Prop, X = fun k => w.heap.size ≤ k := ⟨_, rfl⟩
 have x0 : ∀ k, k < w.heap.size → ¬ X k := fun k h => by rw [hX]; simp; omega
 have xC : X w.heap.size := by rw [hX]; exact Nat.le_refl _
 clear hX
 have D0 := B0.ext hE l0
 have D1 := B1.ext hE l1
 have D2 := B2.ext hE l2
 have c0 := cell_reC (D0 0 _ rfl).1 (x0 _ (by first | omega | (simp only; omega)))
 have c1 := cell_reC (D0 1 _ rfl).1 (x0 _ (by first | omega | (simp only; omega)))
 have c2 := cell_reC (D0 2 _ rfl).1 (x0 _ (by first | omega | (simp only; omega)))
 have c3 := cell_reC (D0 3 _ rfl).1 (x0 _ (by first | omega | (simp only; omega)))
 have c4 := cell_reC (D0 4 _ rfl).1 (x0 _ (by first | omega | (simp only; omega)))
 have c5 := cell_reC (D0 5 _ rfl).1 (x0 _ (by first | omega | (simp only; omega)))
 have d0 := cell_reC (D1 0 _ rfl).1 (x0 _ (by first | omega | (simp only; omega)))
 have e0 := cell_reC (D2 0 _ rfl).1 (x0 _ (by first | omega | (simp only; omega)))
 have e1 := cell_reC (D2 1 _ rfl).1 (x0 _ (by first | omega | (simp only; omega)))
 have e2 := cell_reC (D2 2 _ rfl).1 (x0 _ (by first | omega | (simp only; omega)))
 refine anyK_begin X 6 rfl (by kernel_rfl) ?_
 refine anyK_take 0 4 2 rfl (by decide) (by kernel_rfl) (fun _ _ d _ _ h => by cases d <;> exact h) ?_
 repeat (refine headC_step (fun K hK => ?_); go_simp; first | (refine hK _ ?_; clear hK K) | (apply Exists.intro; refine ⟨fun _ => ?_, hK _ ?_⟩; ((go_at_call 161; exact Calls.re_of (hG.out _))); clear hK K))
 refine headC_nil ?_
 clear c0 c1 c2 c3 c4 c5 d0 e0 e1 e2
 refine anyK_one 4 (by kernel_rfl) ?_
 refine stepK_run rfl ?_
 intro w2 h2 K hK
 go_simp
 refine (hF.out _).mono ?_
 rintro e w3 ⟨rfl, h3⟩
 exact ⟨rfl, rfl, (hE.trans h2).trans h3⟩
set_option maxHeartbeats 1600000 in
set_option maxRecDepth 100000 in
theorem expPointMul_yes (P A B N gx gy : Int) (n : Int) (a : Pt) (r : Pt) (hC : Hid (∀ (C0 C1 C2 : Nat) (w : World), Blk w C0 [.int .i64 P, .int .i64 A, .int .i64 B, .int .i64 N, .int .i64 gx, .int .i64 gy] → C0 < w.heap.size → Blk w C1 [.int .i64 n] → C1 < w.heap.size → Blk w C2 [.int .i64 a.x, .int .i64 a.y, .bool a.far] → C2 < w.heap.size → Calls Tryz.prog 160 #[.pointer (some ⟨C0, 0, none⟩), .pointer (some ⟨C1, 0, none⟩), .pointer (some ⟨C2, 0, none⟩)] w fun e w' => e = .returned (.agg #[.int .i64 r.x, .int .i64 r.y, .bool r.far]) ∧ Ext w w')) (w : World) :
  Calls Tryz.prog 136 #[.agg #[.int .i64 P, .int .i64 A, .int .i64 B, .int .i64 N, .int .i64 gx, .int .i64 gy], .int .i64 n, .agg #[.int .i64 a.x, .int .i64 a.y, .bool a.far]] w fun e w' => e = .returned (.tuple #[.agg #[.int .i64 r.x, .int .i64 r.y, .bool r.far], .bool true]) ∧ Ext w w' := by
 have hmf : ∀ (fn : Fn) (first cap : Array Value) (w : World), (Instr.makeFunc fn first cap).run Tryz.prog w = .ok (.func fn first cap) w := fun _ _ _ _ => rfl
 go_enter Tryz.func136, Tryz.ntmps136
 go_wp2_with fail
 refine (answPt_yes 160 #[.pointer (some ⟨w.heap.size, 0, none⟩), .pointer (some ⟨w.heap.size + 1, 0, none⟩), .pointer (some ⟨w.heap.size + 1 + 1, 0, none⟩)] (fun _ _ => rfl) r _ (fun W hW => ?_)).mono ?_
 ·obtain ⟨B0, B1, B2, B3, hE, hz⟩ := box4 w [.int .i64 P, .int .i64 A, .int .i64 B, .int .i64 N, .int .i64 gx, .int .i64 gy] [.int .i64 n] [.int .i64 a.x, .int .i64 a.y, .bool a.far] [.int .i64 0, .int .i64 0, .bool false] 46 3 47 47 hW
  exact hC.out _ _ _ _ B0 (by omega) B1 (by omega) B2 (by omega)
 rintro e w1 ⟨rfl, hw1⟩
 obtain ⟨B0, B1, B2, B3, hE, hz⟩ := box4 w [.int .i64 P, .int .i64 A, .int .i64 B, .int .i64 N, .int .i64 gx, .int .i64 gy] [.int .i64 n] [.int .i64 a.x, .int .i64 a.y, .bool a.far] [.int .i64 0, .int .i64 0, .bool false] 46 3 47 47 hw1
 clear hw1 hC
 have d0 := (B3 0 _ rfl).1
 have d1 := (B3 1 _ rfl).1
 have d2 := (B3 2 _ rfl).1
 have z0 := (B3 0 _ rfl).2
 have z1 := (B3 1 _ rfl).2
 have z2 := (B3 2 _ rfl).2
 go_wp2
 obtain ⟨W, hW⟩ : ∃ W, putL (w.heap.size + 1 + 1 + 1) 0 [.int .i64 r.x, .int .i64 r.y, .bool r.far] w1 = W := ⟨_, rfl⟩
 have BW := Blk.put B3 [.int .i64 r.x, .int .i64 r.y, .bool r.far] rfl
 rw [hW] at BW
 have hF : Ext w W := hW ▸ hE.putL (by omega) _
 simp only [putL, Nat.zero_add, Nat.reduceAdd] at hW
 simp only [hW]
 have q0 := (BW 0 _ rfl).1
 have q1 := (BW 1 _ rfl).1
 have q2 := (BW 2 _ rfl).1
 refine bodyPost_ret (v := .tuple #[.agg #[.int .i64 r.x, .int .i64 r.y, .bool r.far], .bool true]) (by simp [results, Tryz.results136, go_sem, q0, q1, q2]) rfl ⟨rfl, hF⟩
set_option maxHeartbeats 1600000 in
set_option maxRecDepth 100000 in
theorem expPointMul_no (P A B N gx gy : Int) (n : Int) (a : Pt) (hC : Hid (∀ (C0 C1 C2 : Nat) (w : World), Blk w C0 [.int .i64 P, .int .i64 A, .int .i64 B, .int .i64 N, .int .i64 gx, .int .i64 gy] → C0 < w.heap.size → Blk w C1 [.int .i64 n] → C1 < w.heap.size → Blk w C2 [.int .i64 a.x, .int .i64 a.y, .bool a.far] → C2 < w.heap.size → Calls Tryz.prog 160 #[.pointer (some ⟨C0, 0, none⟩), .pointer (some ⟨C1, 0, none⟩), .pointer (some ⟨C2, 0, none⟩)] w fun e w' => e = .panicked [nrE] ∧ Ext w w')) (w : World) :
  Calls Tryz.prog 136 #[.agg #[.int .i64 P, .int .i64 A, .int .i64 B, .int .i64 N, .int .i64 gx, .int .i64 gy], .int .i64 n, .agg #[.int .i64 a.x, .int .i64 a.y, .bool a.far]] w fun e w' => e = .returned (.tuple #[.agg #[.int .i64 0, .int .i64 0, .bool false], .bool false]) ∧ Ext w w' := by
 have hmf : ∀ (fn : Fn) (first cap : Array Value) (w : World), (Instr.makeFunc fn first cap).run Tryz.prog w = .ok (.func fn first cap) w := fun _ _ _ _ => rfl
 go_enter Tryz.func136, Tryz.ntmps136
 go_wp2_with fail
 refine (answPt_no 160 #[.pointer (some ⟨w.heap.size, 0, none⟩), .pointer (some ⟨w.heap.size + 1, 0, none⟩), .pointer (some ⟨w.heap.size + 1 + 1, 0, none⟩)] (fun _ _ => rfl) _ (fun W hW => ?_)).mono ?_
 ·obtain ⟨B0, B1, B2, B3, hE, hz⟩ := box4 w [.int .i64 P, .int .i64 A, .int .i64 B, .int .i64 N, .int .i64 gx, .int .i64 gy] [.int .i64 n] [.int .i64 a.x, .int .i64 a.y, .bool a.far] [.int .i64 0, .int .i64 0, .bool false] 46 3 47 47 hW
  exact hC.out _ _ _ _ B0 (by omega) B1 (by omega) B2 (by omega)
 rintro e w1 ⟨rfl, hw1⟩
 obtain ⟨B0, B1, B2, B3, hE, hz⟩ := box4 w [.int .i64 P, .int .i64 A, .int .i64 B, .int .i64 N, .int .i64 gx, .int .i64 gy] [.int .i64 n] [.int .i64 a.x, .int .i64 a.y, .bool a.far] [.int .i64 0, .int .i64 0, .bool false] 46 3 47 47 hw1
 clear hw1 hC
 have d0 := (B3 0 _ rfl).1
 have d1 := (B3 1 _ rfl).1
 have d2 := (B3 2 _ rfl).1
 have z0 := (B3 0 _ rfl).2
 have z1 := (B3 1 _ rfl).2
 have z2 := (B3 2 _ rfl).2
 go_wp2
 obtain ⟨W, hW⟩ : ∃ W, putL (w.heap.size + 1 + 1 + 1) 0 [.int .i64 0, .int .i64 0, .bool false] w1 = W := ⟨_, rfl⟩
 have BW := Blk.put B3 [.int .i64 0, .int .i64 0, .bool false] rfl
 rw [hW] at BW
 have hF : Ext w W := hW ▸ hE.putL (by omega) _
 simp only [putL, Nat.zero_add, Nat.reduceAdd] at hW
 simp only [hW]
 have q0 := (BW 0 _ rfl).1
 have q1 := (BW 1 _ rfl).1
 have q2 := (BW 2 _ rfl).1
 refine bodyPost_ret (v := .tuple #[.agg #[.int .i64 0, .int .i64 0, .bool false], .bool false]) (by simp [results, Tryz.results136, go_sem, q0, q1, q2]) rfl ⟨rfl, hF⟩
theorem foldPt_at {P A B N : Int} (gx gy : Int) (h : CvNum P A B N) {a : Pt} (ha : On P.toNat A B a) {n : Int} (n0 : 0 ≤ n) (n1 : n ≤ 1099511627776) (w : World) : Calls Tryz.prog 162 #[.agg #[.int .i64 0, .int .i64 0, .bool true, .int .i64 gx, .int .i64 gy, .bool false, .func (.func 179) #[.agg #[.int .i64 P, .int .i64 A, .int .i64 B, .int .i64 N, .int .i64 gx, .int .i64 gy]] #[], .func (.func 180) #[.agg #[.int .i64 P, .int .i64 A, .int .i64 B, .int .i64 N, .int .i64 gx, .int .i64 gy]] #[], .func (.func 181) #[.agg #[.int .i64 P, .int .i64 A, .int .i64 B, .int .i64 N, .int .i64 gx, .int .i64 gy]] #[], .func (.func 182) #[.agg #[.int .i64 P, .int .i64 A, .int .i64 B, .int .i64 N, .int .i64 gx, .int .i64 gy]] #[], .func (.func 183) #[] #[]], .int .i64 n, .agg #[.int .i64 a.x, .int .i64 a.y, .bool a.far]] w fun e w' => e = .returned (.agg #[.int .i64 (mulF P.toNat A n.toNat a).x, .int .i64 (mulF P.toNat A n.toNat a).y, .bool (mulF P.toNat A n.toNat a).far]) ∧ Ext w w' := by
 have := foldPt_yes gx gy h ha n.toNat (by omega) rfl w
 rwa [show ((n.toNat : Nat) : Int) = n by omega] at this
theorem implPointMul_any (P A B N gx gy n : Int) (a : Pt) (w : World) (hP1 : P ≤ 9223372036854775807) (hN1 : N ≤ 9223372036854775807) :
  Calls Tryz.prog 136 #[.agg #[.int .i64 P, .int .i64 A, .int .i64 B, .int .i64 N, .int .i64 gx, .int .i64 gy], .int .i64 n, .agg #[.int .i64 a.x, .int .i64 a.y, .bool a.far]] w fun r w' => GivesPt (MulQ P A B N gx gy n a) (mulF P.toNat A n.toNat a) r ∧ Below w.heap.size w w' := by
 by_cases hk : CvOk P A B N gx gy
 ·by_cases hab : 0 ≤ n ∧ n ≤ 1099511627776 ∧ On P.toNat A B a
  ·exact (expPointMul_yes P A B N gx gy n a _ (fun C0 C1 C2 w B0 l0 B1 l1 B2 l2 => cloPointMul_yes P A B N gx gy n a _ C0 C1 C2 w B0 l0 B1 l1 B2 l2 (groupPt_yes P A B N gx gy hk) (foldPt_at gx gy hk.num hab.2.2 hab.1 hab.2.1)) w).mono fun r w' k => ⟨k.1 ▸ givesPt_yes ⟨hk, hab.2.2, hab.1, hab.2.1⟩, k.2⟩
  ·exact (expPointMul_no P A B N gx gy n a (fun C0 C1 C2 w B0 l0 B1 l1 B2 l2 => cloPointMul_noF P A B N gx gy n a C0 C1 C2 w B0 l0 B1 l1 B2 l2 (groupPt_yes P A B N gx gy hk) (foldPt_no gx gy hk.num n hab)) w).mono fun r w' k => ⟨k.1 ▸ givesPt_no (fun k => hab ⟨k.2.2.1, k.2.2.2, k.2.1⟩), k.2⟩
 ·exact (expPointMul_no P A B N gx gy n a (fun C0 C1 C2 w B0 l0 B1 l1 B2 l2 => cloPointMul_noG P A B N gx gy n a C0 C1 C2 w B0 l0 B1 l1 B2 l2 (groupPt_no P A B N gx gy hP1 hN1 hk)) w).mono fun r w' k => ⟨k.1 ▸ givesPt_no (fun k => hk k.1), k.2⟩
end
end Go.Proofs.YtfhiiakoilkbkaaGreatDoor
