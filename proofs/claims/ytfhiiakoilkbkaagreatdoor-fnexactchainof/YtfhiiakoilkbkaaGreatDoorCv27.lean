/- Walks: the face of the program: what recovers, answered, at impl.Pair. Walks: the program's functions over curves (impl.Pair): what is handed to answered, and the face. Walks: the program's functions over curves (impl.Pair): what is handed to answered, and the face. What the program answers over twisted curves: EdAdd, EdMul, EdCofactor, PairOk, EdOk. Walks: l1In and the two NatOk, each the plain test 'natOk', whatever slice of ints is handed in; nothing is written. Walk: the model's l1Bits. -/
import Derived.Test.YtfhiiakoilkbkaaGreatDoorCv16
import Derived.Test.YtfhiiakoilkbkaaGreatDoorCv26
namespace Go.Proofs.YtfhiiakoilkbkaaGreatDoor
set_option linter.unusedVariables false
set_option linter.unusedSimpArgs false
section
open Go.RowKit
theorem catchPr_idle (w : World) :
  CallsD Tryz.prog 163 #[] .returning w fun e u' w' => e = .returned (.tuple #[]) ∧ u' = .returning ∧ w' = w := by
 refine callsD_of_wpS Tryz.func163 rfl fun c₀ cs hu => ?_
 apply wpS_seq
 apply wpS_region
 simp [wpOpsS, go_sem, recoverD, hu, Tryz.ntmps163, Exit.thenS]
 apply wpS_seq
 apply wpS_region
 simp [wpOpsS, go_sem, Exit.thenS]
 refine wpS_cond (t := false) (by simp [Act.eval, Array.replicate]) ?_
 simp only [Bool.false_eq_true, if_false]
 refine wpS_of_wp (wp_skip ?_)
 cases c₀
 simp_all [bodyPostS, results, Tryz.results163]
theorem catchPr_hit (w : World) :
  CallsD Tryz.prog 163 #[] (.panicking [nrE]) w fun e u' w' => e = .returned (.tuple #[]) ∧ u' = .panicking [{ v := .iface 180 (.agg #[]), recovered := true }] ∧ w' = w := by
 have h1 := ne_nil_nr
 have h2 := ne_nr_nr
 refine callsD_of_wpS Tryz.func163 rfl fun c₀ cs hu => ?_
 apply wpS_seq
 apply wpS_region
 simp [wpOpsS, go_sem, recoverD, hu, nrE, Tryz.ntmps163, Exit.thenS]
 apply wpS_seq
 apply wpS_region
 simp [wpOpsS, go_sem, Exit.thenS, h1, h2]
 refine wpS_cond (t := false) (by simp [Act.eval, Array.replicate]) ?_
 simp only [Bool.false_eq_true, if_false]
 refine wpS_of_wp (wp_skip ?_)
 cases c₀
 simp_all [bodyPostS, results, Tryz.results163]
set_option maxHeartbeats 4000000 in
set_option maxRecDepth 100000 in
theorem answPr_yes (G : Nat) (cap : Array Value) (hG : ∀ (args : Array Value) (w : World), (callFunc G args).run Tryz.prog w = .ok (.enter G args) w) (a : Pr) (w : World)
  (h : ∀ W, Ext w W → Calls Tryz.prog G cap W fun e w' => e = .returned (.agg #[.int .i64 a.x, .int .i64 a.y]) ∧ Ext W w') :
  Calls Tryz.prog 137 #[.func (.func G) #[] cap] w fun e w' => e = .returned (.tuple #[.agg #[.int .i64 a.x, .int .i64 a.y], .bool true]) ∧ Ext w w' := by
 go_enter_defers Tryz.func137, Tryz.ntmps137
 go_wp2_with fail
 refine (h _ (Ext.alloc _ _)).mono ?_
 rintro e w1 ⟨rfl, hw1⟩
 obtain ⟨B1, hE, hz⟩ := box1 w [.int .i64 0, .int .i64 0] 49 hw1
 clear hw1 h hG
 have d0 := (B1 0 _ rfl).1
 have d1 := (B1 1 _ rfl).1
 have z0 := (B1 0 _ rfl).2
 have z1 := (B1 1 _ rfl).2
 go_wp2
 obtain ⟨W, hW⟩ : ∃ W, putL w.heap.size 0 [.int .i64 a.x, .int .i64 a.y] w1 = W := ⟨_, rfl⟩
 have BW := Blk.put B1 [.int .i64 a.x, .int .i64 a.y] rfl
 rw [hW] at BW
 have hF : Ext w W := hW ▸ hE.putL (by omega) _
 simp only [putL, Nat.zero_add] at hW
 simp only [hW]
 have q0 := (BW 0 _ rfl).1
 have q1 := (BW 1 _ rfl).1
 clear d0 d1 z0 z1 hW B1
 refine leaves_cons (f := 163) (args := #[]) (by simp) (by simp [go_sem]) ?_
 refine (catchPr_idle _).mono ?_
 rintro e u' w'' ⟨rfl, rfl, rfl⟩
 simp [Leaves, settle, results, Tryz.results137, go_sem, q0, q1]
 exact hF
set_option maxHeartbeats 4000000 in
set_option maxRecDepth 100000 in
theorem answPr_no (G : Nat) (cap : Array Value) (hG : ∀ (args : Array Value) (w : World), (callFunc G args).run Tryz.prog w = .ok (.enter G args) w)  (w : World)
  (h : ∀ W, Ext w W → Calls Tryz.prog G cap W fun e w' => e = .panicked [nrE] ∧ Ext W w') :
  Calls Tryz.prog 137 #[.func (.func G) #[] cap] w fun e w' => e = .returned (.tuple #[.agg #[.int .i64 0, .int .i64 0], .bool false]) ∧ Ext w w' := by
 go_enter_defers Tryz.func137, Tryz.ntmps137
 go_wp2_with fail
 refine (h _ (Ext.alloc _ _)).mono ?_
 rintro e w1 ⟨rfl, hw1⟩
 obtain ⟨B1, hE, hz⟩ := box1 w [.int .i64 0, .int .i64 0] 49 hw1
 clear hw1 h hG
 have d0 := (B1 0 _ rfl).1
 have d1 := (B1 1 _ rfl).1
 go_wp2
 refine leaves_cons (f := 163) (args := #[]) (by simp) (by simp [go_sem]) ?_
 refine (catchPr_hit _).mono ?_
 rintro e u' w'' ⟨rfl, rfl, rfl⟩
 simp [Leaves, settle, results, Tryz.results137, go_sem, d0, d1]
 exact hE
set_option maxHeartbeats 1600000 in
set_option maxRecDepth 100000 in
theorem cloPairOk_yes (P D L bx cy : Int) (a : Pr) (r : Pr) (C0 C1 : Nat) (w : World) (B0 : Blk w C0 [.int .i64 P, .int .i64 D, .int .i64 L, .int .i64 bx, .int .i64 cy]) (l0 : C0 < w.heap.size) (B1 : Blk w C1 [.int .i64 a.x, .int .i64 a.y]) (l1 : C1 < w.heap.size) (hG : Hid (∀ W : World, Calls Tryz.prog 139 #[.agg #[.int .i64 P, .int .i64 D, .int .i64 L, .int .i64 bx, .int .i64 cy]] W fun e w' => e = .returned (.agg #[.int .i64 0, .int .i64 1, .int .i64 bx, .int .i64 cy, .func (.func 166) #[.agg #[.int .i64 P, .int .i64 D, .int .i64 L, .int .i64 bx, .int .i64 cy]] #[], .func (.func 167) #[.agg #[.int .i64 P, .int .i64 D, .int .i64 L, .int .i64 bx, .int .i64 cy]] #[], .func (.func 168) #[.agg #[.int .i64 P, .int .i64 D, .int .i64 L, .int .i64 bx, .int .i64 cy]] #[], .func (.func 169) #[.agg #[.int .i64 P, .int .i64 D, .int .i64 L, .int .i64 bx, .int .i64 cy]] #[], .func (.func 170) #[] #[]]) ∧ Ext W w')) (hF : Hid (∀ W : World, Calls Tryz.prog 140 #[.agg #[.int .i64 0, .int .i64 1, .int .i64 bx, .int .i64 cy, .func (.func 166) #[.agg #[.int .i64 P, .int .i64 D, .int .i64 L, .int .i64 bx, .int .i64 cy]] #[], .func (.func 167) #[.agg #[.int .i64 P, .int .i64 D, .int .i64 L, .int .i64 bx, .int .i64 cy]] #[], .func (.func 168) #[.agg #[.int .i64 P, .int .i64 D, .int .i64 L, .int .i64 bx, .int .i64 cy]] #[], .func (.func 169) #[.agg #[.int .i64 P, .int .i64 D, .int .i64 L, .int .i64 bx, .int .i64 cy]] #[], .func (.func 170) #[] #[]], .agg #[.int .i64 a.x, .int .i64 a.y]] W fun e w' => e = .returned (.agg #[.int .i64 r.x, .int .i64 r.y]) ∧ Ext W w')) :
  Calls Tryz.prog 138 #[.pointer (some ⟨C0, 0, none⟩), .pointer (some ⟨C1, 0, none⟩)] w fun e w' => e = .returned (.agg #[.int .i64 r.x, .int .i64 r.y]) ∧ Ext w w' := by
 go_enter Tryz.func138, Tryz.ntmps138
 go_wp2
 obtain ⟨V, hV⟩ : ∃ V, w.alloc (.cells #[.int .i64 0, .int .i64 0] 49) = V := ⟨_, rfl⟩
 have hE : Ext w V := hV ▸ Ext.alloc _ _
 obtain ⟨BR, -, hz⟩ := box1 w [.int .i64 0, .int .i64 0] 49 (hV ▸ Ext.refl _ : Ext (w.alloc (.cells #[.int .i64 0, .int .i64 0] 49)) V)
 simp only [hV]
 clear hV
 obtain ⟨X, hX⟩ : ∃ X : Nat → Prop, X = fun k => w.heap.size ≤ k := ⟨_, rfl⟩
 have x0 : ∀ k, k < w.heap.size → ¬ X k := fun k h => by rw [hX]; simp; omega
 have xC : X w.heap.size := by rw [hX]; exact Nat.le_refl _
 clear hX
 have D0 := B0.ext hE l0
 have D1 := B1.ext hE l1
 have c0 := cell_reC (D0 0 _ rfl).1 (x0 _ (by first | omega | (simp only; omega)))
 have c1 := cell_reC (D0 1 _ rfl).1 (x0 _ (by first | omega | (simp only; omega)))
 have c2 := cell_reC (D0 2 _ rfl).1 (x0 _ (by first | omega | (simp only; omega)))
 have c3 := cell_reC (D0 3 _ rfl).1 (x0 _ (by first | omega | (simp only; omega)))
 have c4 := cell_reC (D0 4 _ rfl).1 (x0 _ (by first | omega | (simp only; omega)))
 have d0 := cell_reC (D1 0 _ rfl).1 (x0 _ (by first | omega | (simp only; omega)))
 have d1 := cell_reC (D1 1 _ rfl).1 (x0 _ (by first | omega | (simp only; omega)))
 refine anyK_begin X 5 rfl (by kernel_rfl) ?_
 refine anyK_take 0 4 1 rfl (by decide) (by kernel_rfl) (fun _ _ d _ _ h => by cases d <;> exact h) ?_
 repeat (refine headC_step (fun K hK => ?_); go_simp; first | (refine hK _ ?_; clear hK K) | (apply Exists.intro; refine ⟨fun _ => ?_, hK _ ?_⟩; (first | (go_at_call 139; exact Calls.re_of (hG.out _)) | (go_at_call 140; exact Calls.re_of (hF.out _))); clear hK K))
 refine headC_nil ?_
 clear c0 c1 c2 c3 c4 d0 d1
 refine anyK_one 4 (by kernel_rfl) ?_
 refine stepK_run rfl ?_
 intro w2 h2 K hK
 have BZ := BR.ext h2 (by omega)
 have d0 := (BZ 0 _ rfl).1
 have d1 := (BZ 1 _ rfl).1
 have z0 := (BZ 0 _ rfl).2
 have z1 := (BZ 1 _ rfl).2
 go_simp
 refine hK _ _ (show Grw X V (putL (w.heap.size) 0 [.int .i64 r.x, .int .i64 r.y] w2) from Grw.putL xC _ _ _ (.of_ext h2)) ?_
 clear hK K d0 d1 z0 z1
 refine anyK_done (by kernel_rfl) ?_ 0
 intro w3 h3
 replace h3 : Ext (putL (w.heap.size) 0 [.int .i64 r.x, .int .i64 r.y] w2) w3 := h3
 have BW := (BZ.put [.int .i64 r.x, .int .i64 r.y] rfl).ext h3 (by rw [size_putL]; have := Below.size h2; omega)
 have hX : Ext w w3 := ((hE.trans h2).putL (by omega) [.int .i64 r.x, .int .i64 r.y]).trans h3
 clear h2 h3 BZ
 have q0 := (BW 0 _ rfl).1
 have q1 := (BW 1 _ rfl).1
 go_wp2
 refine bodyPost_ret (v := .agg #[.int .i64 r.x, .int .i64 r.y]) (by simp [results, Tryz.results138, go_sem, q0, q1]) rfl ⟨rfl, hX⟩
set_option maxHeartbeats 1600000 in
set_option maxRecDepth 100000 in
theorem cloPairOk_noG (P D L bx cy : Int) (a : Pr) (C0 C1 : Nat) (w : World) (B0 : Blk w C0 [.int .i64 P, .int .i64 D, .int .i64 L, .int .i64 bx, .int .i64 cy]) (l0 : C0 < w.heap.size) (B1 : Blk w C1 [.int .i64 a.x, .int .i64 a.y]) (l1 : C1 < w.heap.size) (hG : Hid (∀ W : World, Calls Tryz.prog 139 #[.agg #[.int .i64 P, .int .i64 D, .int .i64 L, .int .i64 bx, .int .i64 cy]] W fun e w' => e = .panicked [nrE] ∧ Ext W w')) :
  Calls Tryz.prog 138 #[.pointer (some ⟨C0, 0, none⟩), .pointer (some ⟨C1, 0, none⟩)] w fun e w' => e = .panicked [nrE] ∧ Ext w w' := by
 go_enter Tryz.func138, Tryz.ntmps138
 go_wp2
 obtain ⟨V, hV⟩ : ∃ V, w.alloc (.cells #[.int .i64 0, .int .i64 0] 49) = V := ⟨_, rfl⟩
 have hE : Ext w V := hV ▸ Ext.alloc _ _
 obtain ⟨BR, -, hz⟩ := box1 w [.int .i64 0, .int .i64 0] 49 (hV ▸ Ext.refl _ : Ext (w.alloc (.cells #[.int .i64 0, .int .i64 0] 49)) V)
 simp only [hV]
 clear hV
 obtain ⟨X, hX⟩ : ∃ X : Nat → Prop, X = fun k => w.heap.size ≤ k := ⟨_, rfl⟩
 have x0 : ∀ k, k < w.heap.size → ¬ X k := fun k h => by rw [hX]; simp; omega
 have xC : X w.heap.size := by rw [hX]; exact Nat.le_refl _
 clear hX
 have D0 := B0.ext hE l0
 have D1 := B1.ext hE l1
 have c0 := cell_reC (D0 0 _ rfl).1 (x0 _ (by first | omega | (simp only; omega)))
 have c1 := cell_reC (D0 1 _ rfl).1 (x0 _ (by first | omega | (simp only; omega)))
 have c2 := cell_reC (D0 2 _ rfl).1 (x0 _ (by first | omega | (simp only; omega)))
 have c3 := cell_reC (D0 3 _ rfl).1 (x0 _ (by first | omega | (simp only; omega)))
 have c4 := cell_reC (D0 4 _ rfl).1 (x0 _ (by first | omega | (simp only; omega)))
 have d0 := cell_reC (D1 0 _ rfl).1 (x0 _ (by first | omega | (simp only; omega)))
 have d1 := cell_reC (D1 1 _ rfl).1 (x0 _ (by first | omega | (simp only; omega)))
 refine anyK_begin X 5 rfl (by kernel_rfl) ?_
 refine anyK_take 0 1 4 rfl (by decide) (by kernel_rfl) (fun _ _ d _ _ h => by cases d <;> exact h) ?_
 repeat (refine headC_step (fun K hK => ?_); go_simp; refine hK _ ?_; clear hK K)
 refine headC_nil ?_
 refine anyK_take 2 1 3 rfl (by decide) (by kernel_rfl) (fun _ _ d _ _ h => by cases d <;> exact h) ?_
 repeat (refine headC_step (fun K hK => ?_); go_simp; refine hK _ ?_; clear hK K)
 refine headC_nil ?_
 clear c0 c1 c2 c3 c4 d0 d1
 refine anyK_one 1 (by kernel_rfl) ?_
 refine stepK_run rfl ?_
 intro w2 h2 K hK
 go_simp
 refine (hG.out _).mono ?_
 rintro e w3 ⟨rfl, h3⟩
 exact ⟨rfl, rfl, (hE.trans h2).trans h3⟩
set_option maxHeartbeats 1600000 in
set_option maxRecDepth 100000 in
theorem cloPairOk_noF (P D L bx cy : Int) (a : Pr) (C0 C1 : Nat) (w : World) (B0 : Blk w C0 [.int .i64 P, .int .i64 D, .int .i64 L, .int .i64 bx, .int .i64 cy]) (l0 : C0 < w.heap.size) (B1 : Blk w C1 [.int .i64 a.x, .int .i64 a.y]) (l1 : C1 < w.heap.size) (hG : Hid (∀ W : World, Calls Tryz.prog 139 #[.agg #[.int .i64 P, .int .i64 D, .int .i64 L, .int .i64 bx, .int .i64 cy]] W fun e w' => e = .returned (.agg #[.int .i64 0, .int .i64 1, .int .i64 bx, .int .i64 cy, .func (.func 166) #[.agg #[.int .i64 P, .int .i64 D, .int .i64 L, .int .i64 bx, .int .i64 cy]] #[], .func (.func 167) #[.agg #[.int .i64 P, .int .i64 D, .int .i64 L, .int .i64 bx, .int .i64 cy]] #[], .func (.func 168) #[.agg #[.int .i64 P, .int .i64 D, .int .i64 L, .int .i64 bx, .int .i64 cy]] #[], .func (.func 169) #[.agg #[.int .i64 P, .int .i64 D, .int .i64 L, .int .i64 bx, .int .i64 cy]] #[], .func (.func 170) #[] #[]]) ∧ Ext W w')) (hF : Hid (∀ W : World, Calls Tryz.prog 140 #[.agg #[.int .i64 0, .int .i64 1, .int .i64 bx, .int .i64 cy, .func (.func 166) #[.agg #[.int .i64 P, .int .i64 D, .int .i64 L, .int .i64 bx, .int .i64 cy]] #[], .func (.func 167) #[.agg #[.int .i64 P, .int .i64 D, .int .i64 L, .int .i64 bx, .int .i64 cy]] #[], .func (.func 168) #[.agg #[.int .i64 P, .int .i64 D, .int .i64 L, .int .i64 bx, .int .i64 cy]] #[], .func (.func 169) #[.agg #[.int .i64 P, .int .i64 D, .int .i64 L, .int .i64 bx, .int .i64 cy]] #[], .func (.func 170) #[] #[]], .agg #[.int .i64 a.x, .int .i64 a.y]] W fun e w' => e = .panicked [nrE] ∧ Ext W w')) :
  Calls Tryz.prog 138 #[.pointer (some ⟨C0, 0, none⟩), .pointer (some ⟨C1, 0, none⟩)] w fun e w' => e = .panicked [nrE] ∧ Ext w w' := by
 go_enter Tryz.func138, Tryz.ntmps138
 go_wp2
 obtain ⟨V, hV⟩ : ∃ V, w.alloc (.cells #[.int .i64 0, .int .i64 0] 49) = V := ⟨_, rfl⟩
 have hE : Ext w V := hV ▸ Ext.alloc _ _
 obtain ⟨BR, -, hz⟩ := box1 w [.int .i64 0, .int .i64 0] 49 (hV ▸ Ext.refl _ : Ext (w.alloc (.cells #[.int .i64 0, .int .i64 0] 49)) V)
 simp only [hV]
 clear hV
 obtain ⟨X, hX⟩ : ∃ X : Nat → Prop, X = fun k => w.heap.size ≤ k := ⟨_, rfl⟩
 have x0 : ∀ k, k < w.heap.size → ¬ X k := fun k h => by rw [hX]; simp; omega
 have xC : X w.heap.size := by rw [hX]; exact Nat.le_refl _
 clear hX
 have D0 := B0.ext hE l0
 have D1 := B1.ext hE l1
 have c0 := cell_reC (D0 0 _ rfl).1 (x0 _ (by first | omega | (simp only; omega)))
 have c1 := cell_reC (D0 1 _ rfl).1 (x0 _ (by first | omega | (simp only; omega)))
 have c2 := cell_reC (D0 2 _ rfl).1 (x0 _ (by first | omega | (simp only; omega)))
 have c3 := cell_reC (D0 3 _ rfl).1 (x0 _ (by first | omega | (simp only; omega)))
 have c4 := cell_reC (D0 4 _ rfl).1 (x0 _ (by first | omega | (simp only; omega)))
 have d0 := cell_reC (D1 0 _ rfl).1 (x0 _ (by first | omega | (simp only; omega)))
 have d1 := cell_reC (D1 1 _ rfl).1 (x0 _ (by first | omega | (simp only; omega)))
 refine anyK_begin X 5 rfl (by kernel_rfl) ?_
 refine anyK_take 0 3 2 rfl (by decide) (by kernel_rfl) (fun _ _ d _ _ h => by cases d <;> exact h) ?_
 repeat (refine headC_step (fun K hK => ?_); go_simp; first | (refine hK _ ?_; clear hK K) | (apply Exists.intro; refine ⟨fun _ => ?_, hK _ ?_⟩; ((go_at_call 139; exact Calls.re_of (hG.out _))); clear hK K))
 refine headC_nil ?_
 clear c0 c1 c2 c3 c4 d0 d1
 refine anyK_one 3 (by kernel_rfl) ?_
 refine stepK_run rfl ?_
 intro w2 h2 K hK
 go_simp
 refine (hF.out _).mono ?_
 rintro e w3 ⟨rfl, h3⟩
 exact ⟨rfl, rfl, (hE.trans h2).trans h3⟩
set_option maxHeartbeats 1600000 in
set_option maxRecDepth 100000 in
theorem expPairOk_yes (P D L bx cy : Int) (a : Pr) (r : Pr) (hC : Hid (∀ (C0 C1 : Nat) (w : World), Blk w C0 [.int .i64 P, .int .i64 D, .int .i64 L, .int .i64 bx, .int .i64 cy] → C0 < w.heap.size → Blk w C1 [.int .i64 a.x, .int .i64 a.y] → C1 < w.heap.size → Calls Tryz.prog 138 #[.pointer (some ⟨C0, 0, none⟩), .pointer (some ⟨C1, 0, none⟩)] w fun e w' => e = .returned (.agg #[.int .i64 r.x, .int .i64 r.y]) ∧ Ext w w')) (w : World) :
  Calls Tryz.prog 115 #[.agg #[.int .i64 P, .int .i64 D, .int .i64 L, .int .i64 bx, .int .i64 cy], .agg #[.int .i64 a.x, .int .i64 a.y]] w fun e w' => e = .returned (.bool true) ∧ Ext w w' := by
 have hmf : ∀ (fn : Fn) (first cap : Array Value) (w : World), (Instr.makeFunc fn first cap).run Tryz.prog w = .ok (.func fn first cap) w := fun _ _ _ _ => rfl
 go_enter Tryz.func115, Tryz.ntmps115
 go_wp2_with fail
 refine (answPr_yes 138 #[.pointer (some ⟨w.heap.size, 0, none⟩), .pointer (some ⟨w.heap.size + 1, 0, none⟩)] (fun _ _ => rfl) r _ (fun W hW => ?_)).mono ?_
 ·obtain ⟨B0, B1, hE, hz⟩ := box2 w [.int .i64 P, .int .i64 D, .int .i64 L, .int .i64 bx, .int .i64 cy] [.int .i64 a.x, .int .i64 a.y] 48 49 hW
  exact hC.out _ _ _ B0 (by omega) B1 (by omega)
 rintro e w1 ⟨rfl, hw1⟩
 obtain ⟨B0, B1, hE, hz⟩ := box2 w [.int .i64 P, .int .i64 D, .int .i64 L, .int .i64 bx, .int .i64 cy] [.int .i64 a.x, .int .i64 a.y] 48 49 hw1
 clear hw1 hC
 go_wp2
 go_ret
 refine ⟨rfl, hE.trans ?_⟩
 first | exact Ext.alloc _ _ | exact (Ext.alloc _ _).putL (Nat.le_refl _) [.int .i64 r.x, .int .i64 r.y]
set_option maxHeartbeats 1600000 in
set_option maxRecDepth 100000 in
theorem expPairOk_no (P D L bx cy : Int) (a : Pr) (hC : Hid (∀ (C0 C1 : Nat) (w : World), Blk w C0 [.int .i64 P, .int .i64 D, .int .i64 L, .int .i64 bx, .int .i64 cy] → C0 < w.heap.size → Blk w C1 [.int .i64 a.x, .int .i64 a.y] → C1 < w.heap.size → Calls Tryz.prog 138 #[.pointer (some ⟨C0, 0, none⟩), .pointer (some ⟨C1, 0, none⟩)] w fun e w' => e = .panicked [nrE] ∧ Ext w w')) (w : World) :
  Calls Tryz.prog 115 #[.agg #[.int .i64 P, .int .i64 D, .int .i64 L, .int .i64 bx, .int .i64 cy], .agg #[.int .i64 a.x, .int .i64 a.y]] w fun e w' => e = .returned (.bool false) ∧ Ext w w' := by
 have hmf : ∀ (fn : Fn) (first cap : Array Value) (w : World), (Instr.makeFunc fn first cap).run Tryz.prog w = .ok (.func fn first cap) w := fun _ _ _ _ => rfl
 go_enter Tryz.func115, Tryz.ntmps115
 go_wp2_with fail
 refine (answPr_no 138 #[.pointer (some ⟨w.heap.size, 0, none⟩), .pointer (some ⟨w.heap.size + 1, 0, none⟩)] (fun _ _ => rfl) _ (fun W hW => ?_)).mono ?_
 ·obtain ⟨B0, B1, hE, hz⟩ := box2 w [.int .i64 P, .int .i64 D, .int .i64 L, .int .i64 bx, .int .i64 cy] [.int .i64 a.x, .int .i64 a.y] 48 49 hW
  exact hC.out _ _ _ B0 (by omega) B1 (by omega)
 rintro e w1 ⟨rfl, hw1⟩
 obtain ⟨B0, B1, hE, hz⟩ := box2 w [.int .i64 P, .int .i64 D, .int .i64 L, .int .i64 bx, .int .i64 cy] [.int .i64 a.x, .int .i64 a.y] 48 49 hw1
 clear hw1 hC
 go_wp2
 go_ret
 refine ⟨rfl, hE.trans ?_⟩
 first | exact Ext.alloc _ _ | exact (Ext.alloc _ _).putL (Nat.le_refl _) [.int .i64 0, .int .i64 0]
theorem implPairOk_at (P D L bx cy : Int) (a : Pr) (hP1 : P ≤ 9223372036854775807) (hL1 : L ≤ 9223372036854775807) (ok : Bool) (hk : ok = true ↔ EvOk P D L bx cy ∧ OnE P.toNat D a) (w : World) : Calls Tryz.prog 115 #[.agg #[.int .i64 P, .int .i64 D, .int .i64 L, .int .i64 bx, .int .i64 cy], .agg #[.int .i64 a.x, .int .i64 a.y]] w fun r w' => r = .returned (.bool ok) ∧ Ext w w' := by
 by_cases h : EvOk P D L bx cy
 ·by_cases ha : OnE P.toNat D a
  ·rw [hk.2 ⟨h, ha⟩]; exact expPairOk_yes P D L bx cy a a (fun C0 C1 w B0 l0 B1 l1 => cloPairOk_yes P D L bx cy a a C0 C1 w B0 l0 B1 l1 (groupPr_yes P D L bx cy h) (knownPr_yes bx cy h.num ha)) w
  ·have e : ok = false := by cases ok; rfl; exact absurd (hk.1 rfl).2 ha
   rw [e]; exact expPairOk_no P D L bx cy a (fun C0 C1 w B0 l0 B1 l1 => cloPairOk_noF P D L bx cy a C0 C1 w B0 l0 B1 l1 (groupPr_yes P D L bx cy h) (knownPr_no bx cy h.num ha)) w
 ·have e : ok = false := by cases ok; rfl; exact absurd (hk.1 rfl).1 h
  rw [e]; exact expPairOk_no P D L bx cy a (fun C0 C1 w B0 l0 B1 l1 => cloPairOk_noG P D L bx cy a C0 C1 w B0 l0 B1 l1 (groupPr_no P D L bx cy hP1 hL1 h)) w
theorem l1In_any (x lo hi : Int) (w : World) :
  Calls Tryz.prog 23 #[.int .i64 x, .int .i64 lo, .int .i64 hi] w fun e w' => e = .returned (.bool (decide (lo ≤ x) && decide (x ≤ hi))) ∧ w' = w := by
 by_cases h1 : lo ≤ x
 ·by_cases h2 : x ≤ hi
  ·go_enter Tryz.func23, Tryz.ntmps23
   go_wp2
   go_ret
   exact ⟨ret_bool (by simp [h1, h2]), rfl⟩
  ·go_enter Tryz.func23, Tryz.ntmps23
   go_wp2
   go_ret
   exact ⟨ret_bool (by simp; omega), rfl⟩
 ·go_enter Tryz.func23, Tryz.ntmps23
  go_wp2
  go_ret
  exact ⟨ret_bool (by simp; omega), rfl⟩
set_option maxHeartbeats 400000 in
theorem specNatOk_any (a : Option Addr) (b off n cap : Nat) (f : Nat → Int) (w : World) (hs : Seg w a b off n f) (hn : n ≤ 1048576) :
  Calls Tryz.prog 93 #[.slice a n cap] w fun e w' => e = .returned (.bool (natOk n f)) ∧ w' = w := by
 go_enter Tryz.func93, Tryz.ntmps93
 go_wp2
 go_loop [3] (fun i => ∃ k : Nat, k ≤ n ∧ i = .int .i64 k ∧ ∀ j, j < k → 0 ≤ f j ∧ f j ≤ 65535) (fun i => n - (intOf i).toNat)
 case atStart => exact ⟨0, Nat.zero_le _, rfl, fun j hj => absurd hj (Nat.not_lt_zero _)⟩
 case round =>
  obtain ⟨k, hk, rfl, hd⟩ := hrel
  by_cases hlt : k < n
  ·obtain rfl := hs.at' (by omega)
   have hc := hs.cell k hlt
   by_cases hin : 0 ≤ f k ∧ f k ≤ 65535
   ·obtain ⟨h0, h1⟩ := hin
    have hb : (decide (0 ≤ f k) && decide (f k ≤ 65535)) = true := by simp [h0, h1]
    go_wp2_with (go_at_call 23; refine (l1In_any _ _ _ _).mono ?_; rintro e w' ⟨rfl, rfl⟩)
    go_round
    case rel => exact ⟨k + 1, by omega, by go_num, fun j hj => by
           by_cases e : j = k
           ·subst e; exact ⟨h0, h1⟩
           ·exact hd j (by omega)⟩
    case measure => simp [intOf]; omega
   ·have hb : (decide (0 ≤ f k) && decide (f k ≤ 65535)) = false := by simp; omega
    go_wp2_with (go_at_call 23; refine (l1In_any _ _ _ _).mono ?_; rintro e w' ⟨rfl, rfl⟩)
    go_ret
    exact ⟨ret_bool (natOk_false hlt (by omega)).symm, rfl⟩
  ·obtain rfl : k = n := by omega
   have Hfin : Hid (natOk k f = (decide (k ≤ 64) && (k == 0 || f (k - 1) != 0))) := natOk_end hd
   clear hd
   by_cases h64 : k ≤ 64
   ·by_cases h0 : k = 0
    ·subst h0
     go_wp2
     go_ret
     exact ⟨ret_bool (by rw [Hfin.out]; rfl), rfl⟩
    ·obtain ⟨m, rfl⟩ : ∃ m, k = m + 1 := ⟨k - 1, by omega⟩
     obtain rfl := hs.at' (by omega)
     have hc := hs.cell m (by omega)
     have hz : ((m : Int) + 1 == 0) = false := by simp; omega
     go_wp2
     go_ret
     exact ⟨ret_bool (by rw [Hfin.out]; simp [h64]), rfl⟩
   ·have hz : ¬ (k : Int) ≤ 64 := by omega
    go_wp2
    go_ret
    exact ⟨ret_bool (by rw [Hfin.out]; simp [h64]), rfl⟩
set_option maxHeartbeats 400000 in
theorem implNatOk_any (a : Option Addr) (b off n cap : Nat) (f : Nat → Int) (w : World) (hs : Seg w a b off n f) (hn : n ≤ 1048576) :
  Calls Tryz.prog 157 #[.slice a n cap] w fun e w' => e = .returned (.bool (natOk n f)) ∧ w' = w := by
 by_cases h64 : n ≤ 64
 ·have hz64 : ¬ (64 : Int) < (n : Int) := by omega
  go_enter Tryz.func157, Tryz.ntmps157
  go_wp2
  go_loop [10] (fun i => ∃ k : Nat, k ≤ n ∧ i = .int .i64 k ∧ ∀ j, j < k → 0 ≤ f j ∧ f j ≤ 65535) (fun i => n - (intOf i).toNat)
  case atStart => exact ⟨0, Nat.zero_le _, rfl, fun j hj => absurd hj (Nat.not_lt_zero _)⟩
  case round =>
   obtain ⟨k, hk, rfl, hd⟩ := hrel
   by_cases hlt : k < n
   ·obtain rfl := hs.at' (by omega)
    have hc := hs.cell k hlt
    by_cases h0 : f k < 0
    ·go_wp2
     go_ret
     exact ⟨ret_bool (natOk_false hlt (by omega)).symm, rfl⟩
    ·by_cases h1 : 65535 < f k
     ·go_wp2
      go_ret
      exact ⟨ret_bool (natOk_false hlt (by omega)).symm, rfl⟩
     ·go_wp2
      go_round
      case rel => exact ⟨k + 1, by omega, by go_num, fun j hj => by
             by_cases e : j = k
             ·subst e; omega
             ·exact hd j (by omega)⟩
      case measure => simp [intOf]; omega
   ·obtain rfl : k = n := by omega
    have Hfin : Hid (natOk k f = (decide (k ≤ 64) && (k == 0 || f (k - 1) != 0))) := natOk_end hd
    clear hd
    by_cases h0 : k = 0
    ·subst h0
     go_wp2
     go_ret
     exact ⟨ret_bool (by rw [Hfin.out]; rfl), rfl⟩
    ·obtain ⟨m, rfl⟩ : ∃ m, k = m + 1 := ⟨k - 1, by omega⟩
     obtain rfl := hs.at' (by omega)
     have hc := hs.cell m (by omega)
     have hz : ((m : Int) + 1 == 0) = false := by simp; omega
     go_wp2
     go_ret
     exact ⟨ret_bool (by rw [Hfin.out]; simp [h64]), rfl⟩
 ·have hz64 : (64 : Int) < (n : Int) := by omega
  go_enter Tryz.func157, Tryz.ntmps157
  go_wp2
  go_ret
  exact ⟨ret_bool (natOk_long (by omega)).symm, rfl⟩
set_option maxHeartbeats 400000 in
theorem l1Bits_any (a : Option Addr) (b off n cap : Nat) (f : Nat → Int) (w : World) (hs : Seg w a b off n f) (hn : n ≤ 1048576) (hd : n = 0 ∨ (0 ≤ f (n - 1) ∧ f (n - 1) ≤ 65535)) :
  Calls Tryz.prog 94 #[.slice a n cap] w fun e w' => e = .returned (.int .i64 (bitsOf n f)) ∧ w' = w := by
 by_cases h0 : n = 0
 ·subst h0
  go_enter Tryz.func94, Tryz.ntmps94
  go_wp2
  go_ret
  exact ⟨rfl, rfl⟩
 ·obtain ⟨m, rfl⟩ : ∃ m, n = m + 1 := ⟨n - 1, by omega⟩
  obtain rfl := hs.at' (by omega)
  have hc := hs.cell m (by omega)
  have hdm : 0 ≤ f m ∧ f m ≤ 65535 := by simpa using hd.resolve_left h0
  obtain ⟨d0, d1⟩ := hdm
  clear hd
  have hz : ((m : Int) + 1 == 0) = false := by simp; omega
  have Hfin : Hid (bitsOf (m + 1) f = 16 * (m : Int) + Lib.bitLen (f m).toNat) := by
   show bitsOf (m + 1) f = _
   simp [bitsOf]
  have hl := bitLen_le16 (f m) d0 d1
  generalize f m = top at *
  obtain ⟨t, rfl⟩ := Int.eq_ofNat_of_zero_le d0
  have Ht : Hid (((t : Int)).toNat = t) := Int.toNat_natCast t
  go_enter Tryz.func94, Tryz.ntmps94
  go_wp2
  go_loop [3, 4] (fun c x => ∃ y : Nat, y ≤ t ∧ Lib.bitLen y ≤ Lib.bitLen t ∧ x = .int .i64 y ∧ c = .int .i64 (16 * (m : Int) + (Lib.bitLen t - Lib.bitLen y : Nat))) (fun _ x => (intOf x).toNat)
  case atStart => exact ⟨t, by omega, by omega, rfl, by go_num⟩
  case round =>
   obtain ⟨y, hy, hb, rfl, rfl⟩ := hrel
   by_cases hy0 : y = 0
   ·subst hy0
    have Hz : Hid (Lib.bitLen 0 = 0) := by show _ = _; decide
    go_wp2
    go_ret
    exact ⟨ret_int (by rw [Hfin.out, Ht.out, Hz.out]; omega), rfl⟩
   ·have Hh : Hid (Lib.bitLen y = 1 + Lib.bitLen (y / 2)) := Lib.bitLen_half y hy0 (by omega)
    have hh := Hh.out
    have hb2 : Lib.bitLen t ≤ 16 := by simpa using hl
    have hm0 : 16 * (m : Int) + ((Lib.bitLen t - Lib.bitLen y : Nat) : Int) ≤ 16777300 := by omega
    have hm1 : 0 ≤ 16 * (m : Int) + ((Lib.bitLen t - Lib.bitLen y : Nat) : Int) := by omega
    have Hn : Hid (16 * (m : Int) + ((Lib.bitLen t - Lib.bitLen y : Nat) : Int) + 1 = 16 * (m : Int) + ((Lib.bitLen t - Lib.bitLen (y / 2) : Nat) : Int)) := by show _ = _; omega
    have hb3 : Lib.bitLen (y / 2) ≤ Lib.bitLen t := by omega
    have hyp : 0 < (y : Int) := by omega
    clear hh
    generalize 16 * (m : Int) + ((Lib.bitLen t - Lib.bitLen y : Nat) : Int) = c at *
    go_wp2
    go_round
    case rel => exact ⟨y / 2, by omega, hb3, by go_num, by rw [← Hn.out]⟩
    case measure => simp [intOf]; omega
theorem ok_top {n : Nat} {f : Nat → Int} (h : natOk n f = true) : n = 0 ∨ (0 ≤ f (n - 1) ∧ f (n - 1) ≤ 65535) := by
 by_cases h0 : n = 0
 ·exact .inl h0
 ·exact .inr (((natOk_iff n f).1 h).1 _ (by omega))
end
end Go.Proofs.YtfhiiakoilkbkaaGreatDoor
