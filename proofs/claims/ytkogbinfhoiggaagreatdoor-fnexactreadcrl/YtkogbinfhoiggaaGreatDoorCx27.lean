/- Walks: the program's contentLengths. -/
import Derived.Test.YtkogbinfhoiggaaGreatDoorCx26
namespace Go.Proofs.YtkogbinfhoiggaaGreatDoor
set_option linter.unusedVariables false
set_option linter.unusedSimpArgs false
set_option maxRecDepth 100000
open Go.RowKit Go.Shelf
attribute [local go_sem] Oper.semAt_some
theorem backward_any (a : Option Addr) (n c : Nat) (w : World) : Calls Tryz.prog 124 #[.slice a n c] w fun e w' => e = .returned (.func (.func 144) #[] #[.pointer (some ⟨w.heap.size, 0, none⟩)]) ∧ w' = w.alloc (.cells #[.slice a n c] 35) := by
 go_enter Tryz.func124, Tryz.ntmps124
 go_wp2
 go_ret
 exact ⟨rfl, rfl⟩
structure ClI (w : World) (x : Nat → It) (n : Nat) (X O : Nat → Prop) (p : Nat) (W : World) : Prop where
 lens : W.rowIs w.heap.size 3 n (fun j => .int .i64 (if n - p ≤ j then (clF x n j : Int) else 0))
 b3 : W.cell? ⟨w.heap.size + 1, 0, none⟩ = some (.slice (some ⟨w.heap.size, 0, none⟩) n n)
 it : ∃ g vc, W.cell? ⟨w.heap.size + 1 + 1 + 1, 0, none⟩ = some (.slice (some ⟨g, 0, none⟩) (wlL x n (n - p)).length vc) ∧ W.ownsRow (w.heap.size + 1 + 1) 3 1 (.slice (some ⟨g, 0, none⟩) (wlL x n (n - p)).length vc) (wlL x n (n - p)).length (iys (wlL x n (n - p))) ∧ ¬ O g ∧ ¬ X g ∧ g ≠ w.heap.size + 1 + 1 + 1
 fz : W.frozen? ⟨w.heap.size + 1 + 1 + 1, 0, none⟩ = false
 ours : ∀ k, O k → w.heap.size + 5 ≤ k
 big : w.heap.size + 5 ≤ W.heap.size
 ext : Ext w W
theorem ClI.keep {w : World} {x : Nat → It} {n p : Nat} {X O O' : Nat → Prop} {A C : World} (h : ClI w x n X O p A) (hs : A.heap.size ≤ C.heap.size) (h1 : C.os = A.os) (h2 : C.tape = A.tape) (h3 : C.output = A.output) (hb : ∀ k, k < A.heap.size → ¬ O k → C.heap[k]? = A.heap[k]?) (hO : ∀ k, O' k → O k ∨ A.heap.size ≤ k) : ClI w x n X O' p C := by
 obtain ⟨l1, l2, ⟨g, vc, i1, i2, i3, i4, i5⟩, l4, l5, l6, l7⟩ := h
 have nO : ∀ k, k < w.heap.size + 5 → ¬ O k := fun k hk h => by have := l5 k h; omega
 have bk : ∀ k, k < w.heap.size + 5 → C.heap[k]? = A.heap[k]? := fun k hk => hb k (by omega) (nO k hk)
 obtain ⟨-, gl, -, -, -⟩ := owns_cells i2
 refine ⟨l1.of_block (bk _ (by omega)), (World.cell?_of_block (a := ⟨w.heap.size + 1, 0, none⟩) (bk (w.heap.size + 1) (by omega))).trans l2, ⟨g, vc, (World.cell?_of_block (a := ⟨w.heap.size + 1 + 1 + 1, 0, none⟩) (bk (w.heap.size + 1 + 1 + 1) (by omega))).trans i1, ?_, fun h => ?_, i4, i5⟩, (World.frozen?_of_block (a := ⟨w.heap.size + 1 + 1 + 1, 0, none⟩) (bk (w.heap.size + 1 + 1 + 1) (by omega))).trans l4, fun k hk => ?_, by omega, ⟨h1.trans l7.os, h2.trans l7.tape, h3.trans l7.output, Nat.le_trans l7.size hs, fun k hk => (bk k (by omega)).trans (l7.block k hk)⟩⟩
 ·refine ⟨i2.1, ?_⟩
  rcases i2.2 with h0 | ⟨g', cap, cur, hv, hbg, hg, rest⟩
  ·exact .inl h0
  ·simp only [Value.slice.injEq, Option.some.injEq, Addr.mk.injEq] at hv
   obtain ⟨⟨rfl, -, -⟩, -, rfl⟩ := hv
   exact .inr ⟨g, vc, cur, rfl, hbg, (hb g gl i3).trans hg, rest⟩
 ·rcases hO g h with h | h
  ·exact i3 h
  ·omega
 ·rcases hO k hk with h | h
  ·exact l5 k h
  ·omega
theorem ClI.ab {w : World} {x : Nat → It} {n : Nat} (X : Nat → Prop) (p : Nat) : AbO (fun O W => ClI w x n X O p W) := fun O O' A C h hs =>
 h.keep hs.size hs.os hs.tape hs.output hs.same (fun k hk => ((hs.own k).1 hk).imp id (·.1))
theorem ClI.grow {w : World} {x : Nat → It} {n p : Nat} {X O : Nat → Prop} {A C : World} (h : ClI w x n X O p A) (e : Ext A C) : ClI w x n X O p C :=
 h.keep e.size e.os e.tape e.output (fun k hk _ => e.block k hk) (fun k hk => .inl hk)
theorem sum_step (M : List Int) : ∀ q, q < M.length → (M.take (q + 1)).sum = (M.take q).sum + M.getD q 0 := by
 induction M with
 | nil => intro q h; simp at h
 | cons a M ih =>
  intro q h
  cases q with
  | zero => simp
  | succ q =>
   have := ih q (by simpa using h)
   rw [List.take_succ_cons, List.take_succ_cons, List.sum_cons, List.sum_cons, this, List.getD_cons_succ]
   omega
theorem sum_mono (M : List Int) (hM : ∀ z ∈ M, 0 ≤ z) : ∀ q, 0 ≤ (M.take q).sum ∧ (M.take q).sum ≤ M.sum := by
 induction M with
 | nil => intro q; simp
 | cons a M ih =>
  intro q
  have ha := hM a (by simp)
  cases q with
  | zero =>
   have := ih (fun z hz => hM z (by simp [hz])) M.length
   rw [List.take_length] at this
   rw [List.take_zero, List.sum_nil, List.sum_cons]
   omega
  | succ q =>
   have := ih (fun z hz => hM z (by simp [hz])) q
   rw [List.take_succ_cons, List.sum_cons, List.sum_cons]
   omega
theorem wlL_pos (x : Nat → It) (n i : Nat) : ∀ z ∈ wlL x n i, 0 ≤ z := by
 intro z hz
 unfold wlL at hz
 rw [List.mem_reverse, List.mem_map] at hz
 obtain ⟨j, -, rfl⟩ := hz
 exact Int.natCast_nonneg _
theorem chF_len (f : Nat → Int) (n : Nat) : ∀ m i, (chF f n m i).length ≤ m
 | 0, _ => Nat.le_refl _
 | m + 1, i => by
  rw [chF]
  split
  ·exact Nat.zero_le _
  ·have := chF_len f n m (f i).toNat
   rw [List.length_cons]
   omega
theorem wlL_len (x : Nat → It) (n i : Nat) : (wlL x n i).length ≤ n := by
 unfold wlL chn
 rw [List.length_reverse, List.length_map]
 exact chF_len _ _ _ _
theorem ClI.next {w : World} {x : Nat → It} {n p i b g vc : Nat} {O : Nat → Prop} {W W' : World} (h : ClI w x n (XC (w.heap.size + 1 + 1 + 1 + 1) b) O p W) (hb : b < w.heap.size) (hi : i < n) (hp : n - (p + 1) = i)
  (nO : ¬ O g) (nX : ¬ XC (w.heap.size + 1 + 1 + 1 + 1) b g) (gB : w.heap.size + 1 + 1 ≤ g) (hO : ∀ k, O k → k < W.heap.size)
  (k1 : W'.os = W.os) (k2 : W'.tape = W.tape) (k3 : W'.output = W.output) (k4 : W.heap.size ≤ W'.heap.size)
  (hk : ∀ k, k < W.heap.size → k ≠ w.heap.size → k ≠ w.heap.size + 1 + 1 + 1 → k ≠ g → W'.heap[k]? = W.heap[k]?)
  (hr : W'.rowIs w.heap.size 3 n (fun j => .int .i64 (if i ≤ j then (clF x n j : Int) else 0)))
  (g' vc' : Nat) (hc : W'.cell? ⟨w.heap.size + 1 + 1 + 1, 0, none⟩ = some (.slice (some ⟨g', 0, none⟩) (wlL x n i).length vc')) (hf : W'.frozen? ⟨w.heap.size + 1 + 1 + 1, 0, none⟩ = false)
  (ho : W'.ownsRow (w.heap.size + 1 + 1) 3 1 (.slice (some ⟨g', 0, none⟩) (wlL x n i).length vc') (wlL x n i).length (iys (wlL x n i))) (hg : g' = g ∨ W.heap.size ≤ g') (hg4 : g' ≠ w.heap.size + 1 + 1 + 1) :
  RdO (XC (w.heap.size + 1 + 1 + 1 + 1) b) O W W' ∧ ClI w x n (XC (w.heap.size + 1 + 1 + 1 + 1) b) O (p + 1) W' := by
 have hbig := h.big
 refine ⟨⟨k1, k2, k3, k4, fun k hx hl => ?_⟩, ⟨?_, ?_, ⟨g', vc', ?_, ?_, ?_, ?_, hg4⟩, hf, h.ours, by omega, ⟨k1.trans h.ext.os, k2.trans h.ext.tape, k3.trans h.ext.output, Nat.le_trans h.ext.size k4, fun k hl => ?_⟩⟩⟩
 ·refine hk k hl ?_ ?_ ?_
  ·rintro rfl
   rcases hx with hx | hx | hx
   ·have := h.ours _ hx; omega
   ·omega
   ·omega
  ·rintro rfl
   rcases hx with hx | hx | hx
   ·have := h.ours _ hx; omega
   ·omega
   ·omega
  ·rintro rfl
   rcases hx with hx | hx
   ·exact nO hx
   ·exact nX hx
 ·rw [hp]; exact hr
 ·rw [World.cell?_of_block (a := ⟨w.heap.size + 1, 0, none⟩) (hk (w.heap.size + 1) (by omega) (by omega) (by omega) (by omega))]
  exact h.b3
 ·rw [hp]; exact hc
 ·rw [hp]; exact ho
 ·rcases hg with rfl | hg
  ·exact nO
  ·intro ho2; have := hO _ ho2; omega
 ·rcases hg with rfl | hg
  ·exact nX
  ·rintro (e | e) <;> omega
 ·exact (hk k (by omega) (by omega) (by omega) (by omega)).trans (h.ext.block k hl)
set_option maxHeartbeats 12800000 in
theorem contentLengths_any (b off n cap : Nat) (x : Nat → It) (w : World) (hs : ISeg w (some ⟨b, off, none⟩) b off n x) (ht : treeV x n = true) (hl : ∀ i, i < n → (x i).len ≤ 1048576) :
  Calls Tryz.prog 97 #[.slice (some ⟨b, off, none⟩) n cap] w fun e w' => e = .returned (.slice (some ⟨w.heap.size, 0, none⟩) n n) ∧ Seg w' (some ⟨w.heap.size, 0, none⟩) w.heap.size 0 n (fun i => (clF x n i : Int)) ∧ Ext w w' := by
 obtain ⟨h1, h300, hg⟩ := tree_good ht
 have hT := trO_of ht
 have hmk := run_make_row' (P := Tryz.prog) 24 3 (.int .i64 0) 8 Tryz.underlying24 Tryz.info3 rfl .i64 .i64 n (by omega) (by omega)
 have Hs := hide hs
 have HT := hide hT
 have Hl := hide hl
 have Hg := hide hg
 clear hs hT hl hg
 refine (callsIn_wide (n := 9)).1 ?_
 refine callsIn_of_wp_marks Tryz.func97 rfl trivial ?_
 simp only [Tryz.ntmps97, List.size_toArray, List.length_cons, List.length_nil, Nat.reduceAdd, Nat.reduceSub, Array.replicate_succ, Array.replicate_zero, List.push_toArray, List.append_toArray, List.nil_append, List.cons_append]
 gi_wp2_with (first | (gi_at_call 124; refine (callsIn_wide.2 (backward_any _ _ _ _)).mono ?_; rintro e w3 ⟨rfl, rfl⟩) | (refine ⟨trivial, ?_⟩; gi_at_call 124; refine (callsIn_wide.2 (backward_any _ _ _ _)).mono ?_; rintro e w3 ⟨rfl, rfl⟩))
 have hr0 := World.rowIs_made w (.int .i64 0) n 3
 obtain ⟨w1, hw1⟩ : ∃ z, w.alloc (.cells (madeCells #[.int .i64 0] n) 3) = z := ⟨_, rfl⟩
 have s1 : w1.heap.size = w.heap.size + 1 := by rw [← hw1]; simp
 have e1 : Ext w w1 := by rw [← hw1]; exact Ext.alloc _ _
 rw [hw1] at hr0 ⊢
 obtain ⟨w2, hw2⟩ : ∃ z, w1.alloc (.cells #[.slice (some ⟨w.heap.size, 0, none⟩) n n] 24) = z := ⟨_, rfl⟩
 have s2 : w2.heap.size = w.heap.size + 1 + 1 := by rw [← hw2]; simp [s1]
 have e2 : Ext w1 w2 := by rw [← hw2]; exact Ext.alloc _ _
 have B1 : Blk w2 (w.heap.size + 1) [.slice (some ⟨w.heap.size, 0, none⟩) n n] := by rw [← hw2, ← s1]; exact Blk.alloc w1 [.slice (some ⟨w.heap.size, 0, none⟩) n n] _
 rw [hw2]
 have hO0 := World.ownsRow_made (base := w2.heap.size) (e := 3) (size := 1) w2 #[] 0 (Nat.le_refl _) (by simp) rfl
 obtain ⟨w3, hw3⟩ : ∃ z, w2.alloc (.cells #[] 3) = z := ⟨_, rfl⟩
 have s3 : w3.heap.size = w.heap.size + 1 + 1 + 1 := by rw [← hw3]; simp [s2]
 have e3 : Ext w2 w3 := by rw [← hw3]; exact Ext.alloc _ _
 rw [hw3] at hO0 ⊢
 obtain ⟨w4, hw4⟩ : ∃ z, w3.alloc (.cells #[.slice (some ⟨w.heap.size + 1 + 1, 0, none⟩) 0 0] 24) = z := ⟨_, rfl⟩
 have s4 : w4.heap.size = w.heap.size + 1 + 1 + 1 + 1 := by rw [← hw4]; simp [s3]
 have e4 : Ext w3 w4 := by rw [← hw4]; exact Ext.alloc _ _
 have B3 : Blk w4 (w.heap.size + 1 + 1 + 1) [.slice (some ⟨w.heap.size + 1 + 1, 0, none⟩) 0 0] := by rw [← hw4, ← s3]; exact Blk.alloc w3 [.slice (some ⟨w.heap.size + 1 + 1, 0, none⟩) 0 0] _
 rw [hw4]
 obtain ⟨V, hV⟩ : ∃ z, w4.alloc (.cells #[.slice (some ⟨b, off, none⟩) n cap] 35) = z := ⟨_, rfl⟩
 have s5 : V.heap.size = w.heap.size + 5 := by rw [← hV]; simp [s4]
 have e5 : Ext w4 V := by rw [← hV]; exact Ext.alloc _ _
 have B4 : Blk V (w.heap.size + 1 + 1 + 1 + 1) [.slice (some ⟨b, off, none⟩) n cap] := by rw [← hV, ← s4]; exact Blk.alloc w4 [.slice (some ⟨b, off, none⟩) n cap] _
 rw [hV]
 have eV : Ext w V := Ext.trans e1 (Ext.trans e2 (Ext.trans e3 (Ext.trans e4 e5)))
 have ltb : b < w.heap.size := Hs.out.lt (by omega)
 have hsV := Hs.out.of_all eV
 have hseq := back1_inV 8 (by omega) n (w.heap.size + 1 + 1 + 1 + 1) b off cap x V (by omega) (by omega) (B4 0 _ rfl).1 hsV
 have I0 : ClI w x n (XC (w.heap.size + 1 + 1 + 1 + 1) b) (fun _ => False) 0 V := by
  refine ⟨(rowIs_below hr0 (Ext.trans e2 (Ext.trans e3 (Ext.trans e4 e5))) (by omega)).congr (fun j hj => by rw [if_neg (by omega)]), ((B1.ext (Ext.trans e3 (Ext.trans e4 e5)) (by omega)) 0 _ rfl).1, ⟨w.heap.size + 1 + 1, 0, ?_, ?_, fun h => h, ?_, by omega⟩, ((B3.ext e5 (by omega)) 0 _ rfl).2, fun k h => h.elim, by omega, eV⟩
  ·rw [Nat.sub_zero, wlL_end]
   exact ((B3.ext e5 (by omega)) 0 _ rfl).1
  ·rw [Nat.sub_zero, wlL_end]
   rw [s2] at hO0
   exact iowns_ext0 hO0 (Ext.trans e4 e5)
  ·rintro (h | h) <;> omega
 clear hsV B1 B3 B4 hO0 hr0 hmk e1 e2 e3 e4 e5 hw1 hw2 hw3 hw4 hV s1 s2 s3 s4
 refine range_ownV (n := 9) (by omega) (gf := 144) (lb := #[.pointer (some ⟨w.heap.size + 1 + 1 + 1 + 1, 0, none⟩)]) rfl (enters_of Tryz.func144 (by kernel_rfl) rfl) (w0 := V) (fun k hk => by rcases hk with h | h <;> omega) hseq (Below.refl _ _) (fun _ => rfl)
  (fun O pre W => ClI w x n (XC (w.heap.size + 1 + 1 + 1 + 1) b) O pre.length W) (fun c O pre W => False) (fun s => ClI.ab _ _) (fun c s O O' A C h _ => h) (fun O s A C h e => h.grow e) I0
  (fun p W => W.alloc (.cells #[.int .i64 (x p.1).tag, .slice (x p.1).ad (x p.1).len (x p.1).cap, .int .i64 (x p.1).kid] 40)) (fun p W => Ext.alloc _ _)
  (fun p W => { tmps := #[.slice (some ⟨b, off, none⟩) n cap, undef, .slice none 0 0, .pointer (some ⟨w.heap.size + 1, 0, none⟩), .pointer (some ⟨w.heap.size + 1 + 1 + 1, 0, none⟩), .int .i64 (p.1 : Int), .pointer (some ⟨W.heap.size, 0, none⟩), undef, undef, undef, undef, .slice (some ⟨b, off, none⟩) n cap, .int .i64 (n : Int), .slice (some ⟨w.heap.size, 0, none⟩) n n, .slice (some ⟨w.heap.size + 1 + 1, 0, none⟩) 0 0, .slice (some ⟨b, off, none⟩) n cap, .func (.func 144) #[] #[.pointer (some ⟨w.heap.size + 1 + 1 + 1 + 1, 0, none⟩)], .int .i64 (p.1 : Int), .agg #[.int .i64 (x p.1).tag, .slice (x p.1).ad (x p.1).len (x p.1).cap, .int .i64 (x p.1).kid], undef, undef, undef, undef, undef, undef, undef, undef, undef, undef, undef, undef, undef, undef, undef, undef, undef, undef, undef, undef, undef, undef, undef, undef, undef, undef, undef, undef, undef, undef, undef, undef], defers := [] }) ?assign ?body ?done ?stop
 case assign =>
  intro l p W K hK
  simp only [encI]
  gi_wp2
  exact hK
 case body =>
  rintro l O pre ⟨i, hi⟩ W0 W hI hVx hOk hW0 hblk hszW hlen
  dsimp only at hVx hblk hszW ⊢
  have hni : n - pre.length = i + 1 := by omega
  have hI2 := hI
  obtain ⟨L1, L2, ⟨g, vc, i1, i2, i3, i4, i5⟩, L4, L5, L6, L7⟩ := hI2
  rw [hni] at i1 i2
  obtain ⟨A, a1, a2, a3⟩ := back_step HT.out hi
  obtain ⟨gB, gl, gc1, gc2, gcell⟩ := owns_cells i2
  obtain ⟨q1, q2, q3⟩ := wl_le HT.out h300 Hl.out i hi
  obtain ⟨-, -, -, gk0, -⟩ := Hg.out i hi
  have lW : W.heap.size = W0.heap.size + 1 := by rw [hszW]; simp
  have hBx : Blk W W0.heap.size [.int .i64 (x i).tag, .slice (x i).ad (x i).len (x i).cap, .int .i64 (x i).kid] := fun j v hj => by
   have hb := hblk W0.heap.size (by omega)
   have h0 := Blk.alloc W0 [.int .i64 (x i).tag, .slice (x i).ad (x i).len (x i).cap, .int .i64 (x i).kid] 40 j v hj
   exact ⟨(World.cell?_of_block (a := ⟨W0.heap.size, j, none⟩) hb).trans h0.1, (World.frozen?_of_block (a := ⟨W0.heap.size, j, none⟩) hb).trans h0.2⟩
  have x1 := (hBx 1 _ rfl).1
  have x2 := (hBx 2 _ rfl).1
  obtain ⟨LL, hLL⟩ : ∃ LL, wlL x n (i + 1) = LL := ⟨_, rfl⟩
  rw [hLL] at i1 i2 a1 a2 a3 gc1 gcell
  obtain ⟨kd, hkd⟩ : ∃ kd : Nat, (x i).kid = (kd : Int) := ⟨(x i).kid.toNat, by omega⟩
  rw [hkd] at x2 a1
  rw [Int.toNat_natCast] at a1
  have hsub : (LL.length : Int) - (kd : Int) = (A : Int) := by omega
  have hA1 : (A : Int) ≤ (LL.length : Int) := by omega
  have hc1 : (LL.length : Int) ≤ (vc : Int) := by omega
  have hLn : LL.length ≤ 1048576 := by have := wlL_len x n (i + 1); rw [hLL] at this; omega
  have hpos : ∀ z ∈ LL, 0 ≤ z := by rw [← hLL]; exact wlL_pos x n (i + 1)
  have Hpos := hide hpos
  clear hpos
  have Ha2 := hide a2
  have Ha3 := hide a3
  have Hcell := hide gcell
  have Hi2 := hide i2
  have HI := hide hI
  have Hblk := hide hblk
  have HOk := hide hOk
  have HL1 := hide L1
  have HLL := hide hLL
  have Hkd := hide hkd
  have Hq3 := hide q3
  have HBx := hide hBx
  have hin : (i : Int) < (n : Int) := by omega
  have len1 : (x i).len ≤ 1048576 := Hl.out i hi
  clear a2 a3 gcell i2 hI hblk hOk L1 hLL hkd q3 hBx hseq I0
  by_cases hvA : vc = A
  ·have Hk0 : Hid (kd = 0) := hide (by omega)
   gi_wp2
   gi_loopw [8, 31] (fun acc idx wr => wr = W ∧ ∃ (q : Nat) (z : Int), q ≤ kd ∧ idx = .int .i64 (q : Int) ∧ acc = .int .i64 z ∧ z = ((x i).len : Int) + ((LL.drop A).take q).sum ∧ 0 ≤ z ∧ z ≤ 400000000) (fun _ idx _ => kd - (intOf idx).toNat)
   case atStart => exact ⟨rfl, 0, _, Nat.zero_le _, rfl, rfl, by simp, by omega, by omega⟩
   case round =>
    obtain ⟨hwr, q, z, hq, rfl, rfl, hz, hz0, hz1⟩ := hrel
    obtain rfl := hwr.symm
    have Hz := hide hz
    clear hz hwr
    have hMl : (LL.drop A).length = kd := by rw [List.length_drop]; omega
    have HMl := hide hMl
    have Hsm := hide (sum_mono (LL.drop A) (fun z hz => Hpos.out z (List.mem_of_mem_drop hz)))
    clear hMl
    by_cases hlt : q < kd
    ·exact absurd hlt (by have := Hk0.out; omega)
    ·obtain rfl : q = kd := by omega
     have hzc : z = (clF x n i : Int) := by
      rw [Hz.out, ← Ha2.out, List.take_of_length_le (by have := HMl.out; omega)]
     have Hzc := hide hzc
     clear hzc
     have r0 := HL1.out.cell (i := i) hi
     have f0 := HL1.out.frozen i
     have hrow1 := HL1.out.set i (.int .i64 z)
     obtain ⟨W1, hW1⟩ : ∃ W1, W.setCell ⟨w.heap.size, i, none⟩ (.int .i64 z) = W1 := ⟨_, rfl⟩
     have sW1 : W1.heap.size = W.heap.size := by rw [← hW1]; simp [World.setCell]
     have HW1 : Hid (W1.os = W.os ∧ W1.tape = W.tape ∧ W1.output = W.output) := by rw [← hW1]; exact ⟨rfl, rfl, rfl⟩
     have HB1 : Hid (∀ k, k ≠ w.heap.size → W1.heap[k]? = W.heap[k]?) := fun k hk => by rw [← hW1]; exact Below.heap_setCell _ _ _ _ hk
     rw [hW1] at hrow1
     have HR1 : Hid (W1.rowIs w.heap.size 3 n (fun j => .int .i64 (if i ≤ j then (clF x n j : Int) else 0))) := hide (hrow1.congr (fun j hj => by
      by_cases e : j = i
      ·subst e
       rw [if_pos rfl, if_pos (Nat.le_refl _), Hzc.out]
      ·rw [if_neg e, show n - pre.length = i + 1 by omega]
       by_cases h : i + 1 ≤ j
       ·rw [if_pos h, if_pos (by omega)]
       ·rw [if_neg h, if_neg (by omega)]))
     have c4 := (World.cell?_of_block (a := ⟨w.heap.size + 1 + 1 + 1, 0, none⟩) (HB1.out (w.heap.size + 1 + 1 + 1) (by omega))).trans i1
     have Hc4 := hide c4
     have Hf4 := hide ((World.frozen?_of_block (a := ⟨w.heap.size + 1 + 1 + 1, 0, none⟩) (HB1.out (w.heap.size + 1 + 1 + 1) (by omega))).trans L4)
     have HlA : Hid ((LL.take A).length = A) := hide (by rw [List.length_take]; omega)
     have HOA : Hid (W1.ownsRow (w.heap.size + 1 + 1) 3 1 (.slice (some ⟨g, 0, none⟩) (LL.take A).length vc) (LL.take A).length (iys (LL.take A))) := hide (by
      have h2 := owns_take A (by omega) Hi2.out
      refine ⟨h2.1, ?_⟩
      rcases h2.2 with h0 | ⟨g2, cap2, cur, hv, hbg2, hgg, rest⟩
      ·exact .inl h0
      ·simp only [Value.slice.injEq, Option.some.injEq, Addr.mk.injEq] at hv
       obtain ⟨⟨rfl, -, -⟩, -, rfl⟩ := hv
       exact .inr ⟨g, vc, cur, rfl, hbg2, (HB1.out g (by omega)).trans hgg, rest⟩)
     have HWl : Hid (∀ W, Calls Tryz.prog 98 #[.int .i64 z] W fun e w' => e = .returned (.int .i64 (wlF x n i : Int)) ∧ Ext W w') := fun W => by
      have := wholeLength_any z W hz0 (by omega)
      rw [show 1 + (lgN z : Int) + z = (wlF x n i : Int) by rw [Hq3.out, Hzc.out]; omega] at this
      exact this
     have hAvc : (A : Int) ≤ (vc : Int) := by omega
     clear hrow1 i1
     gi_wp2_with fail
     clear r0 f0 hW1 c4
     replace HOA : Hid (W1.ownsRow (w.heap.size + 1 + 1) 3 1 (.slice (some ⟨g, 0, none⟩) (LL.take A).length A) (LL.take A).length (iys (LL.take A))) := hide (by have h := HOA.out; rw [hvA] at h; exact h)
     refine anyK_beginR (fun k => k = w.heap.size + 1 + 1 + 1 ∨ k = g) 8 rfl (by kernel_rfl) (by kernel_rfl) (fun ⟨_, _, h⟩ => h) l ?_
     refine anyK_take 1 1 7 rfl (by decide) (by kernel_rfl) (fun _ _ _ _ _ h => h) ?_
     repeat (refine headC_step (fun K hK => ?_); go_simp; refine hK _ ?_; clear hK K)
     refine headC_nil ?_
     refine anyK_take 3 2 5 rfl (by decide) (by kernel_rfl) (fun _ _ _ _ _ h => h) ?_
     repeat (refine headC_step (fun K hK => ?_); go_simp; first | (refine hK _ ?_; clear hK K) | (apply Exists.intro; refine ⟨fun _ => ?_, hK _ ?_⟩; (exact Calls.re_of (HWl.out _)); clear hK K))
     refine headC_nil ?_
     refine anyK_two 0 5 (by kernel_rfl) ?_ ?_
     ·refine stepK_run rfl ?_
      intro w3 h3 K2 hK2
      have c3 := (Below.cell h3 (p := ⟨w.heap.size + 1 + 1 + 1, 0, none⟩) (by show w.heap.size + 1 + 1 + 1 < _; omega)).trans Hc4.out
      go_simp
      refine hK2 _ _ (.of_ext h3) ?_
      have H3 := hide h3
      clear hK2 K2 c3 h3
      refine anyK_take 2 1 3 rfl (by decide) (by kernel_rfl) (fun _ _ _ _ _ h => h) ?_
      repeat (refine headC_step (fun K hK => ?_); go_simp; refine hK _ ?_; clear hK K)
      refine headC_nil ?_
      refine anyK_one 5 (by kernel_rfl) ?_
      refine stepK_run rfl ?_
      intro w5 h5 K2 hK2
      go_simp
      refine hK2 _ _ (.of_ext (Ext.trans H3.out (Ext.trans h5 (Ext.alloc _ _)))) ?_
      clear hK2 K2
      have Ye := hide (Ext.trans H3.out (Ext.trans h5 (Ext.alloc w5 (.cells #[.int .i64 (wlF x n i : Int)] 3))))
      have HSL := hide ((Blk.alloc w5 [.int .i64 (wlF x n i : Int)] 3) 0 _ rfl).1
      generalize w5.alloc (.cells #[.int .i64 (wlF x n i : Int)] 3) = Y at *
      generalize w5.heap.size = SL at *
      clear h5
      refine anyK_one 6 (by kernel_rfl) ?_
      refine stepK_run rfl ?_
      intro w7 h7 K2 hK2
      have E7 := hide (Ext.trans Ye.out h7)
      have HO7 := hide (iowns_ext0 HOA.out E7.out)
      have hc7 := (Below.cell h7 (p := ⟨SL, 0, none⟩) (World.block_lt_of_cell? _ _ HSL.out)).trans HSL.out
      rw [if_pos (show _ = true by kernel_rfl)]
      refine wp_app1 _ _ rfl (w.heap.size + 1 + 1) g A (LL.take A) (by rw [HlA.out]; rfl) HO7.out SL (wlF x n i : Int) rfl hc7 (by rw [HlA.out]; omega) (by have := Below.size E7.out; omega) ?_
      intro g' vc' w8 hO8 hg8 hat8
      refine hK2 _ _ ((Grw.of_ext E7.out).trans (grw_grown hg8 (.inr rfl))) ?_
      clear hK2 K2 hc7
      have HB8 : Hid (∀ k, k < W1.heap.size → k ≠ g → w8.heap[k]? = W1.heap[k]?) := fun k hk hn => (hg8.block k (Nat.lt_of_lt_of_le hk (Below.size E7.out)) (by simp; exact fun e => hn e)).trans (Below.block E7.out k hk)
      have HM8 : Hid (w8.os = W1.os ∧ w8.tape = W1.tape ∧ w8.output = W1.output ∧ W1.heap.size ≤ w8.heap.size) := ⟨hg8.os.trans E7.out.os, hg8.tape.trans E7.out.tape, hg8.output.trans E7.out.output, Nat.le_trans (Below.size E7.out) hg8.size⟩
      have Hat8 : Hid (g' = g ∨ W1.heap.size ≤ g') := by
       rcases hat8 with h | h
       ·exact .inl h
       ·exact .inr (by rw [h]; exact Below.size E7.out)
      have HO8 := hide hO8
      have HG8 := hide ((Grw.of_ext (X := fun k => k = w.heap.size + 1 + 1 + 1 ∨ k = g) E7.out).trans (grw_grown hg8 (.inr rfl)))
      clear hO8 hg8 hat8 HO7 h7 E7
      refine anyK_one 7 (by kernel_rfl) ?_
      refine stepK_run rfl ?_
      intro w9 h9 K2 hK2
      have hb9 : w9.heap[w.heap.size + 1 + 1 + 1]? = W1.heap[w.heap.size + 1 + 1 + 1]? := (Below.block h9 _ (by have := HM8.out.2.2.2; omega)).trans (HB8.out _ (by omega) (fun e => i5 e.symm))
      have c9 := (World.cell?_of_block (a := ⟨w.heap.size + 1 + 1 + 1, 0, none⟩) hb9).trans Hc4.out
      have f9 := (World.frozen?_of_block (a := ⟨w.heap.size + 1 + 1 + 1, 0, none⟩) hb9).trans Hf4.out
      have H9 := hide h9
      clear hb9 h9
      obtain ⟨NL, hNL⟩ : ∃ NL, (LL.take A ++ [(wlF x n i : Int)]).length = NL := ⟨_, rfl⟩
      rw [hNL]
      have HNL := hide hNL
      clear hNL
      go_simp
      refine hK2 _ (w9.setCell ⟨w.heap.size + 1 + 1 + 1, 0, none⟩ (.slice (some ⟨g', 0, none⟩) NL vc')) ((HG8.out.trans (Grw.of_ext H9.out)).trans (Grw.of_touch ((Touch.refl _ w9).set 0 _) (.inl rfl))) ?_
      have C9 := hide c9
      have F9 := hide f9
      clear hK2 K2 c9 f9
      refine anyK_done (by kernel_rfl) ?_ 0
      intro w10 h10
      have hg4 : g' ≠ w.heap.size + 1 + 1 + 1 := by
       rcases Hat8.out with h | h
       ·rw [h]; exact i5
       ·omega
      have hgl : g' < w8.heap.size := (owns_cells HO8.out).2.1
      have hbb : ∀ k, k < W.heap.size → k ≠ w.heap.size → k ≠ w.heap.size + 1 + 1 + 1 → k ≠ g → w10.heap[k]? = W.heap[k]? := fun k h1 h2 h3 h4 => by
       have e1 := HM8.out.2.2.2
       have e2 := Below.size H9.out
       rw [Below.block h10 k (by simp [World.setCell]; omega), Below.heap_setCell _ _ _ _ (show k ≠ w.heap.size + 1 + 1 + 1 from h3), Below.block H9.out k (by omega), HB8.out k (by omega) h4]
       exact HB1.out k h2
      have hbg : w10.heap[g']? = w8.heap[g']? := by
       have e2 := Below.size H9.out
       rw [Below.block h10 g' (by simp [World.setCell]; omega), Below.heap_setCell _ _ _ _ (show g' ≠ w.heap.size + 1 + 1 + 1 from hg4), Below.block H9.out g' hgl]
      have hbr : w10.heap[w.heap.size]? = W1.heap[w.heap.size]? := by
       have e1 := HM8.out.2.2.2
       have e2 := Below.size H9.out
       rw [Below.block h10 _ (by simp [World.setCell]; omega), Below.heap_setCell _ _ _ _ (show w.heap.size ≠ w.heap.size + 1 + 1 + 1 by omega), Below.block H9.out _ (by omega), HB8.out _ (by omega) (by omega)]
      have hl4 : w.heap.size + 1 + 1 + 1 < (w9.setCell ⟨w.heap.size + 1 + 1 + 1, 0, none⟩ (.slice (some ⟨g', 0, none⟩) NL vc')).heap.size := by
       have e1 := HM8.out.2.2.2
       have e2 := Below.size H9.out
       simp [World.setCell]
       omega
      have hNL2 : NL = (wlL x n i).length := by rw [← HNL.out, Ha3.out]
      refine (?_ : RdO (XC (w.heap.size + 1 + 1 + 1 + 1) b) O W w10 ∧ ClI w x n (XC (w.heap.size + 1 + 1 + 1 + 1) b) O (pre ++ [(⟨i, hi⟩ : Ix n)]).length w10)
      rw [show (pre ++ [(⟨i, hi⟩ : Ix n)]).length = pre.length + 1 by simp]
      refine ClI.next (i := i) (g := g) (vc := vc) HI.out ltb hi (by rw [show n - (pre.length + 1) = i by omega]) i3 i4 gB (fun k hk => by have := HOk.out k hk; omega) ?_ ?_ ?_ ?_ hbb ?_ g' vc' ?_ ?_ ?_ ?_ hg4
      ·exact h10.os.trans (H9.out.os.trans (HM8.out.1.trans HW1.out.1))
      ·exact h10.tape.trans (H9.out.tape.trans (HM8.out.2.1.trans HW1.out.2.1))
      ·exact h10.output.trans (H9.out.output.trans (HM8.out.2.2.1.trans HW1.out.2.2))
      ·have e1 := HM8.out.2.2.2
       have e2 := Below.size H9.out
       have e3 := Below.size h10
       simp [World.setCell] at e3
       omega
      ·exact HR1.out.of_block hbr
      ·rw [Below.cell h10 (p := ⟨w.heap.size + 1 + 1 + 1, 0, none⟩) hl4, World.cell?_setCell_same _ _ _ C9.out, hNL2]
      ·rw [Below.frozen h10 (p := ⟨w.heap.size + 1 + 1 + 1, 0, none⟩) hl4, World.frozen?_setCell]
       exact F9.out
      ·have h8 := HO8.out
       rw [← Ha3.out] at h8
       refine ⟨h8.1, ?_⟩
       rcases h8.2 with h0 | ⟨g2, cap2, cur, hv, hbg2, hgg, rest⟩
       ·exact .inl h0
       ·simp only [Value.slice.injEq, Option.some.injEq, Addr.mk.injEq] at hv
        obtain ⟨⟨rfl, -, -⟩, -, rfl⟩ := hv
        exact .inr ⟨g', vc', cur, rfl, hbg2, hbg.trans hgg, rest⟩
      ·rcases Hat8.out with h | h
       ·exact .inl h
       ·exact .inr (by omega)
     ·refine stepK_run rfl ?_
      intro w3 h3 K2 hK2
      go_simp
      refine hK2 _ _ (.of_ext (Ext.trans h3 (Ext.alloc _ _))) ?_
      clear hK2 K2
      have H3 := hide (Ext.trans h3 (Ext.alloc w3 (.cells #[.int .i64 (wlF x n i : Int)] 3)))
      have HSL := hide ((Blk.alloc w3 [.int .i64 (wlF x n i : Int)] 3) 0 _ rfl).1
      generalize w3.alloc (.cells #[.int .i64 (wlF x n i : Int)] 3) = Y0 at *
      generalize w3.heap.size = SL at *
      clear h3
      refine anyK_one 0 (by kernel_rfl) ?_
      refine stepK_run rfl ?_
      intro Y h5 K2 hK2
      have c3 := (Below.cell (Ext.trans H3.out h5) (p := ⟨w.heap.size + 1 + 1 + 1, 0, none⟩) (by show w.heap.size + 1 + 1 + 1 < _; omega)).trans Hc4.out
      go_simp
      refine hK2 _ _ (.of_ext (Ext.trans H3.out h5)) ?_
      have Ye := hide (Ext.trans H3.out h5)
      replace HSL := hide ((Below.cell h5 (p := ⟨SL, 0, none⟩) (World.block_lt_of_cell? _ _ HSL.out)).trans HSL.out)
      clear hK2 K2 c3 h5
      refine anyK_take 2 1 2 rfl (by decide) (by kernel_rfl) (fun _ _ _ _ _ h => h) ?_
      repeat (refine headC_step (fun K hK => ?_); go_simp; refine hK _ ?_; clear hK K)
      refine headC_nil ?_
      refine anyK_one 6 (by kernel_rfl) ?_
      refine stepK_run rfl ?_
      intro w7 h7 K2 hK2
      have E7 := hide (Ext.trans Ye.out h7)
      have HO7 := hide (iowns_ext0 HOA.out E7.out)
      have hc7 := (Below.cell h7 (p := ⟨SL, 0, none⟩) (World.block_lt_of_cell? _ _ HSL.out)).trans HSL.out
      rw [if_pos (show _ = true by kernel_rfl)]
      refine wp_app1 _ _ rfl (w.heap.size + 1 + 1) g A (LL.take A) (by rw [HlA.out]; rfl) HO7.out SL (wlF x n i : Int) rfl hc7 (by rw [HlA.out]; omega) (by have := Below.size E7.out; omega) ?_
      intro g' vc' w8 hO8 hg8 hat8
      refine hK2 _ _ ((Grw.of_ext E7.out).trans (grw_grown hg8 (.inr rfl))) ?_
      clear hK2 K2 hc7
      have HB8 : Hid (∀ k, k < W1.heap.size → k ≠ g → w8.heap[k]? = W1.heap[k]?) := fun k hk hn => (hg8.block k (Nat.lt_of_lt_of_le hk (Below.size E7.out)) (by simp; exact fun e => hn e)).trans (Below.block E7.out k hk)
      have HM8 : Hid (w8.os = W1.os ∧ w8.tape = W1.tape ∧ w8.output = W1.output ∧ W1.heap.size ≤ w8.heap.size) := ⟨hg8.os.trans E7.out.os, hg8.tape.trans E7.out.tape, hg8.output.trans E7.out.output, Nat.le_trans (Below.size E7.out) hg8.size⟩
      have Hat8 : Hid (g' = g ∨ W1.heap.size ≤ g') := by
       rcases hat8 with h | h
       ·exact .inl h
       ·exact .inr (by rw [h]; exact Below.size E7.out)
      have HO8 := hide hO8
      have HG8 := hide ((Grw.of_ext (X := fun k => k = w.heap.size + 1 + 1 + 1 ∨ k = g) E7.out).trans (grw_grown hg8 (.inr rfl)))
      clear hO8 hg8 hat8 HO7 h7 E7
      refine anyK_one 7 (by kernel_rfl) ?_
      refine stepK_run rfl ?_
      intro w9 h9 K2 hK2
      have hb9 : w9.heap[w.heap.size + 1 + 1 + 1]? = W1.heap[w.heap.size + 1 + 1 + 1]? := (Below.block h9 _ (by have := HM8.out.2.2.2; omega)).trans (HB8.out _ (by omega) (fun e => i5 e.symm))
      have c9 := (World.cell?_of_block (a := ⟨w.heap.size + 1 + 1 + 1, 0, none⟩) hb9).trans Hc4.out
      have f9 := (World.frozen?_of_block (a := ⟨w.heap.size + 1 + 1 + 1, 0, none⟩) hb9).trans Hf4.out
      have H9 := hide h9
      clear hb9 h9
      obtain ⟨NL, hNL⟩ : ∃ NL, (LL.take A ++ [(wlF x n i : Int)]).length = NL := ⟨_, rfl⟩
      rw [hNL]
      have HNL := hide hNL
      clear hNL
      go_simp
      refine hK2 _ (w9.setCell ⟨w.heap.size + 1 + 1 + 1, 0, none⟩ (.slice (some ⟨g', 0, none⟩) NL vc')) ((HG8.out.trans (Grw.of_ext H9.out)).trans (Grw.of_touch ((Touch.refl _ w9).set 0 _) (.inl rfl))) ?_
      have C9 := hide c9
      have F9 := hide f9
      clear hK2 K2 c9 f9
      refine anyK_done (by kernel_rfl) ?_ 0
      intro w10 h10
      have hg4 : g' ≠ w.heap.size + 1 + 1 + 1 := by
       rcases Hat8.out with h | h
       ·rw [h]; exact i5
       ·omega
      have hgl : g' < w8.heap.size := (owns_cells HO8.out).2.1
      have hbb : ∀ k, k < W.heap.size → k ≠ w.heap.size → k ≠ w.heap.size + 1 + 1 + 1 → k ≠ g → w10.heap[k]? = W.heap[k]? := fun k h1 h2 h3 h4 => by
       have e1 := HM8.out.2.2.2
       have e2 := Below.size H9.out
       rw [Below.block h10 k (by simp [World.setCell]; omega), Below.heap_setCell _ _ _ _ (show k ≠ w.heap.size + 1 + 1 + 1 from h3), Below.block H9.out k (by omega), HB8.out k (by omega) h4]
       exact HB1.out k h2
      have hbg : w10.heap[g']? = w8.heap[g']? := by
       have e2 := Below.size H9.out
       rw [Below.block h10 g' (by simp [World.setCell]; omega), Below.heap_setCell _ _ _ _ (show g' ≠ w.heap.size + 1 + 1 + 1 from hg4), Below.block H9.out g' hgl]
      have hbr : w10.heap[w.heap.size]? = W1.heap[w.heap.size]? := by
       have e1 := HM8.out.2.2.2
       have e2 := Below.size H9.out
       rw [Below.block h10 _ (by simp [World.setCell]; omega), Below.heap_setCell _ _ _ _ (show w.heap.size ≠ w.heap.size + 1 + 1 + 1 by omega), Below.block H9.out _ (by omega), HB8.out _ (by omega) (by omega)]
      have hl4 : w.heap.size + 1 + 1 + 1 < (w9.setCell ⟨w.heap.size + 1 + 1 + 1, 0, none⟩ (.slice (some ⟨g', 0, none⟩) NL vc')).heap.size := by
       have e1 := HM8.out.2.2.2
       have e2 := Below.size H9.out
       simp [World.setCell]
       omega
      have hNL2 : NL = (wlL x n i).length := by rw [← HNL.out, Ha3.out]
      refine (?_ : RdO (XC (w.heap.size + 1 + 1 + 1 + 1) b) O W w10 ∧ ClI w x n (XC (w.heap.size + 1 + 1 + 1 + 1) b) O (pre ++ [(⟨i, hi⟩ : Ix n)]).length w10)
      rw [show (pre ++ [(⟨i, hi⟩ : Ix n)]).length = pre.length + 1 by simp]
      refine ClI.next (i := i) (g := g) (vc := vc) HI.out ltb hi (by rw [show n - (pre.length + 1) = i by omega]) i3 i4 gB (fun k hk => by have := HOk.out k hk; omega) ?_ ?_ ?_ ?_ hbb ?_ g' vc' ?_ ?_ ?_ ?_ hg4
      ·exact h10.os.trans (H9.out.os.trans (HM8.out.1.trans HW1.out.1))
      ·exact h10.tape.trans (H9.out.tape.trans (HM8.out.2.1.trans HW1.out.2.1))
      ·exact h10.output.trans (H9.out.output.trans (HM8.out.2.2.1.trans HW1.out.2.2))
      ·have e1 := HM8.out.2.2.2
       have e2 := Below.size H9.out
       have e3 := Below.size h10
       simp [World.setCell] at e3
       omega
      ·exact HR1.out.of_block hbr
      ·rw [Below.cell h10 (p := ⟨w.heap.size + 1 + 1 + 1, 0, none⟩) hl4, World.cell?_setCell_same _ _ _ C9.out, hNL2]
      ·rw [Below.frozen h10 (p := ⟨w.heap.size + 1 + 1 + 1, 0, none⟩) hl4, World.frozen?_setCell]
       exact F9.out
      ·have h8 := HO8.out
       rw [← Ha3.out] at h8
       refine ⟨h8.1, ?_⟩
       rcases h8.2 with h0 | ⟨g2, cap2, cur, hv, hbg2, hgg, rest⟩
       ·exact .inl h0
       ·simp only [Value.slice.injEq, Option.some.injEq, Addr.mk.injEq] at hv
        obtain ⟨⟨rfl, -, -⟩, -, rfl⟩ := hv
        exact .inr ⟨g', vc', cur, rfl, hbg2, hbg.trans hgg, rest⟩
      ·rcases Hat8.out with h | h
       ·exact .inl h
       ·exact .inr (by omega)
  ·have hvA2 : ¬ A = vc := fun e => hvA e.symm
   gi_wp2
   gi_loopw [8, 31] (fun acc idx wr => wr = W ∧ ∃ (q : Nat) (z : Int), q ≤ kd ∧ idx = .int .i64 (q : Int) ∧ acc = .int .i64 z ∧ z = ((x i).len : Int) + ((LL.drop A).take q).sum ∧ 0 ≤ z ∧ z ≤ 400000000) (fun _ idx _ => kd - (intOf idx).toNat)
   case atStart => exact ⟨rfl, 0, _, Nat.zero_le _, rfl, rfl, by simp, by omega, by omega⟩
   case round =>
    obtain ⟨hwr, q, z, hq, rfl, rfl, hz, hz0, hz1⟩ := hrel
    obtain rfl := hwr.symm
    have Hz := hide hz
    clear hz hwr
    have hMl : (LL.drop A).length = kd := by rw [List.length_drop]; omega
    have HMl := hide hMl
    have Hsm := hide (sum_mono (LL.drop A) (fun z hz => Hpos.out z (List.mem_of_mem_drop hz)))
    clear hMl
    by_cases hlt : q < kd
    ·have hqk : (q : Int) < (kd : Int) := by omega
     have ce := Hcell.out (A + q) (by omega)
     have hst := sum_step (LL.drop A) q (by have := HMl.out; omega)
     have hge : (LL.drop A).getD q 0 = LL.getD (A + q) 0 := by simp [List.getD_eq_getElem?_getD, List.getElem?_drop]
     have h1s := Hsm.out (q + 1)
     rw [hge] at hst
     have hpe : 0 ≤ LL.getD (A + q) 0 := Hpos.out _ (by rw [List.getD_eq_getElem?_getD, List.getElem?_eq_getElem (show A + q < LL.length by omega)]; exact List.getElem_mem _)
     have hzz := Hz.out
     have ha2 := Ha2.out
     obtain ⟨e, he⟩ : ∃ e, LL.getD (A + q) 0 = e := ⟨_, rfl⟩
     rw [he] at ce hst hpe
     obtain ⟨z2, hz2⟩ : ∃ z2, z + e = z2 := ⟨_, rfl⟩
     have b1 : 0 ≤ z2 := by omega
     have b2 : z2 ≤ 400000000 := by omega
     have HZ2 : Hid (z2 = ((x i).len : Int) + ((LL.drop A).take (q + 1)).sum) := by show _ = _; rw [hst]; omega
     clear hst hge h1s hpe hzz ha2 he
     gi_wp2
     go_roundw
     case rel => exact ⟨by trivial, q + 1, z2, by omega, by go_num, rfl, HZ2.out, b1, b2⟩
     case measure => simp [intOf]; omega
    ·obtain rfl : q = kd := by omega
     have hzc : z = (clF x n i : Int) := by
      rw [Hz.out, ← Ha2.out, List.take_of_length_le (by have := HMl.out; omega)]
     have Hzc := hide hzc
     clear hzc
     have r0 := HL1.out.cell (i := i) hi
     have f0 := HL1.out.frozen i
     have hrow1 := HL1.out.set i (.int .i64 z)
     obtain ⟨W1, hW1⟩ : ∃ W1, W.setCell ⟨w.heap.size, i, none⟩ (.int .i64 z) = W1 := ⟨_, rfl⟩
     have sW1 : W1.heap.size = W.heap.size := by rw [← hW1]; simp [World.setCell]
     have HW1 : Hid (W1.os = W.os ∧ W1.tape = W.tape ∧ W1.output = W.output) := by rw [← hW1]; exact ⟨rfl, rfl, rfl⟩
     have HB1 : Hid (∀ k, k ≠ w.heap.size → W1.heap[k]? = W.heap[k]?) := fun k hk => by rw [← hW1]; exact Below.heap_setCell _ _ _ _ hk
     rw [hW1] at hrow1
     have HR1 : Hid (W1.rowIs w.heap.size 3 n (fun j => .int .i64 (if i ≤ j then (clF x n j : Int) else 0))) := hide (hrow1.congr (fun j hj => by
      by_cases e : j = i
      ·subst e
       rw [if_pos rfl, if_pos (Nat.le_refl _), Hzc.out]
      ·rw [if_neg e, show n - pre.length = i + 1 by omega]
       by_cases h : i + 1 ≤ j
       ·rw [if_pos h, if_pos (by omega)]
       ·rw [if_neg h, if_neg (by omega)]))
     have c4 := (World.cell?_of_block (a := ⟨w.heap.size + 1 + 1 + 1, 0, none⟩) (HB1.out (w.heap.size + 1 + 1 + 1) (by omega))).trans i1
     have Hc4 := hide c4
     have Hf4 := hide ((World.frozen?_of_block (a := ⟨w.heap.size + 1 + 1 + 1, 0, none⟩) (HB1.out (w.heap.size + 1 + 1 + 1) (by omega))).trans L4)
     have HlA : Hid ((LL.take A).length = A) := hide (by rw [List.length_take]; omega)
     have HOA : Hid (W1.ownsRow (w.heap.size + 1 + 1) 3 1 (.slice (some ⟨g, 0, none⟩) (LL.take A).length vc) (LL.take A).length (iys (LL.take A))) := hide (by
      have h2 := owns_take A (by omega) Hi2.out
      refine ⟨h2.1, ?_⟩
      rcases h2.2 with h0 | ⟨g2, cap2, cur, hv, hbg2, hgg, rest⟩
      ·exact .inl h0
      ·simp only [Value.slice.injEq, Option.some.injEq, Addr.mk.injEq] at hv
       obtain ⟨⟨rfl, -, -⟩, -, rfl⟩ := hv
       exact .inr ⟨g, vc, cur, rfl, hbg2, (HB1.out g (by omega)).trans hgg, rest⟩)
     have HWl : Hid (∀ W, Calls Tryz.prog 98 #[.int .i64 z] W fun e w' => e = .returned (.int .i64 (wlF x n i : Int)) ∧ Ext W w') := fun W => by
      have := wholeLength_any z W hz0 (by omega)
      rw [show 1 + (lgN z : Int) + z = (wlF x n i : Int) by rw [Hq3.out, Hzc.out]; omega] at this
      exact this
     have hAvc : (A : Int) ≤ (vc : Int) := by omega
     clear hrow1 i1
     gi_wp2_with fail
     clear r0 f0 hW1 c4
     refine anyK_beginR (fun k => k = w.heap.size + 1 + 1 + 1 ∨ k = g) 8 rfl (by kernel_rfl) (by kernel_rfl) (fun ⟨_, _, h⟩ => h) l ?_
     refine anyK_take 1 1 7 rfl (by decide) (by kernel_rfl) (fun _ _ _ _ _ h => h) ?_
     repeat (refine headC_step (fun K hK => ?_); go_simp; refine hK _ ?_; clear hK K)
     refine headC_nil ?_
     refine anyK_take 3 2 5 rfl (by decide) (by kernel_rfl) (fun _ _ _ _ _ h => h) ?_
     repeat (refine headC_step (fun K hK => ?_); go_simp; first | (refine hK _ ?_; clear hK K) | (apply Exists.intro; refine ⟨fun _ => ?_, hK _ ?_⟩; (exact Calls.re_of (HWl.out _)); clear hK K))
     refine headC_nil ?_
     refine anyK_two 0 5 (by kernel_rfl) ?_ ?_
     ·refine stepK_run rfl ?_
      intro w3 h3 K2 hK2
      have c3 := (Below.cell h3 (p := ⟨w.heap.size + 1 + 1 + 1, 0, none⟩) (by show w.heap.size + 1 + 1 + 1 < _; omega)).trans Hc4.out
      go_simp
      refine hK2 _ _ (.of_ext h3) ?_
      have H3 := hide h3
      clear hK2 K2 c3 h3
      refine anyK_take 2 1 3 rfl (by decide) (by kernel_rfl) (fun _ _ _ _ _ h => h) ?_
      repeat (refine headC_step (fun K hK => ?_); go_simp; refine hK _ ?_; clear hK K)
      refine headC_nil ?_
      refine anyK_one 5 (by kernel_rfl) ?_
      refine stepK_run rfl ?_
      intro w5 h5 K2 hK2
      go_simp
      refine hK2 _ _ (.of_ext (Ext.trans H3.out (Ext.trans h5 (Ext.alloc _ _)))) ?_
      clear hK2 K2
      have Ye := hide (Ext.trans H3.out (Ext.trans h5 (Ext.alloc w5 (.cells #[.int .i64 (wlF x n i : Int)] 3))))
      have HSL := hide ((Blk.alloc w5 [.int .i64 (wlF x n i : Int)] 3) 0 _ rfl).1
      generalize w5.alloc (.cells #[.int .i64 (wlF x n i : Int)] 3) = Y at *
      generalize w5.heap.size = SL at *
      clear h5
      refine anyK_one 6 (by kernel_rfl) ?_
      refine stepK_run rfl ?_
      intro w7 h7 K2 hK2
      have E7 := hide (Ext.trans Ye.out h7)
      have HO7 := hide (iowns_ext0 HOA.out E7.out)
      have hc7 := (Below.cell h7 (p := ⟨SL, 0, none⟩) (World.block_lt_of_cell? _ _ HSL.out)).trans HSL.out
      rw [if_pos (show _ = true by kernel_rfl)]
      refine wp_app1 _ _ rfl (w.heap.size + 1 + 1) g vc (LL.take A) (by rw [HlA.out]; rfl) HO7.out SL (wlF x n i : Int) rfl hc7 (by rw [HlA.out]; omega) (by have := Below.size E7.out; omega) ?_
      intro g' vc' w8 hO8 hg8 hat8
      refine hK2 _ _ ((Grw.of_ext E7.out).trans (grw_grown hg8 (.inr rfl))) ?_
      clear hK2 K2 hc7
      have HB8 : Hid (∀ k, k < W1.heap.size → k ≠ g → w8.heap[k]? = W1.heap[k]?) := fun k hk hn => (hg8.block k (Nat.lt_of_lt_of_le hk (Below.size E7.out)) (by simp; exact fun e => hn e)).trans (Below.block E7.out k hk)
      have HM8 : Hid (w8.os = W1.os ∧ w8.tape = W1.tape ∧ w8.output = W1.output ∧ W1.heap.size ≤ w8.heap.size) := ⟨hg8.os.trans E7.out.os, hg8.tape.trans E7.out.tape, hg8.output.trans E7.out.output, Nat.le_trans (Below.size E7.out) hg8.size⟩
      have Hat8 : Hid (g' = g ∨ W1.heap.size ≤ g') := by
       rcases hat8 with h | h
       ·exact .inl h
       ·exact .inr (by rw [h]; exact Below.size E7.out)
      have HO8 := hide hO8
      have HG8 := hide ((Grw.of_ext (X := fun k => k = w.heap.size + 1 + 1 + 1 ∨ k = g) E7.out).trans (grw_grown hg8 (.inr rfl)))
      clear hO8 hg8 hat8 HO7 h7 E7
      refine anyK_one 7 (by kernel_rfl) ?_
      refine stepK_run rfl ?_
      intro w9 h9 K2 hK2
      have hb9 : w9.heap[w.heap.size + 1 + 1 + 1]? = W1.heap[w.heap.size + 1 + 1 + 1]? := (Below.block h9 _ (by have := HM8.out.2.2.2; omega)).trans (HB8.out _ (by omega) (fun e => i5 e.symm))
      have c9 := (World.cell?_of_block (a := ⟨w.heap.size + 1 + 1 + 1, 0, none⟩) hb9).trans Hc4.out
      have f9 := (World.frozen?_of_block (a := ⟨w.heap.size + 1 + 1 + 1, 0, none⟩) hb9).trans Hf4.out
      have H9 := hide h9
      clear hb9 h9
      obtain ⟨NL, hNL⟩ : ∃ NL, (LL.take A ++ [(wlF x n i : Int)]).length = NL := ⟨_, rfl⟩
      rw [hNL]
      have HNL := hide hNL
      clear hNL
      go_simp
      refine hK2 _ (w9.setCell ⟨w.heap.size + 1 + 1 + 1, 0, none⟩ (.slice (some ⟨g', 0, none⟩) NL vc')) ((HG8.out.trans (Grw.of_ext H9.out)).trans (Grw.of_touch ((Touch.refl _ w9).set 0 _) (.inl rfl))) ?_
      have C9 := hide c9
      have F9 := hide f9
      clear hK2 K2 c9 f9
      refine anyK_done (by kernel_rfl) ?_ 0
      intro w10 h10
      have hg4 : g' ≠ w.heap.size + 1 + 1 + 1 := by
       rcases Hat8.out with h | h
       ·rw [h]; exact i5
       ·omega
      have hgl : g' < w8.heap.size := (owns_cells HO8.out).2.1
      have hbb : ∀ k, k < W.heap.size → k ≠ w.heap.size → k ≠ w.heap.size + 1 + 1 + 1 → k ≠ g → w10.heap[k]? = W.heap[k]? := fun k h1 h2 h3 h4 => by
       have e1 := HM8.out.2.2.2
       have e2 := Below.size H9.out
       rw [Below.block h10 k (by simp [World.setCell]; omega), Below.heap_setCell _ _ _ _ (show k ≠ w.heap.size + 1 + 1 + 1 from h3), Below.block H9.out k (by omega), HB8.out k (by omega) h4]
       exact HB1.out k h2
      have hbg : w10.heap[g']? = w8.heap[g']? := by
       have e2 := Below.size H9.out
       rw [Below.block h10 g' (by simp [World.setCell]; omega), Below.heap_setCell _ _ _ _ (show g' ≠ w.heap.size + 1 + 1 + 1 from hg4), Below.block H9.out g' hgl]
      have hbr : w10.heap[w.heap.size]? = W1.heap[w.heap.size]? := by
       have e1 := HM8.out.2.2.2
       have e2 := Below.size H9.out
       rw [Below.block h10 _ (by simp [World.setCell]; omega), Below.heap_setCell _ _ _ _ (show w.heap.size ≠ w.heap.size + 1 + 1 + 1 by omega), Below.block H9.out _ (by omega), HB8.out _ (by omega) (by omega)]
      have hl4 : w.heap.size + 1 + 1 + 1 < (w9.setCell ⟨w.heap.size + 1 + 1 + 1, 0, none⟩ (.slice (some ⟨g', 0, none⟩) NL vc')).heap.size := by
       have e1 := HM8.out.2.2.2
       have e2 := Below.size H9.out
       simp [World.setCell]
       omega
      have hNL2 : NL = (wlL x n i).length := by rw [← HNL.out, Ha3.out]
      refine (?_ : RdO (XC (w.heap.size + 1 + 1 + 1 + 1) b) O W w10 ∧ ClI w x n (XC (w.heap.size + 1 + 1 + 1 + 1) b) O (pre ++ [(⟨i, hi⟩ : Ix n)]).length w10)
      rw [show (pre ++ [(⟨i, hi⟩ : Ix n)]).length = pre.length + 1 by simp]
      refine ClI.next (i := i) (g := g) (vc := vc) HI.out ltb hi (by rw [show n - (pre.length + 1) = i by omega]) i3 i4 gB (fun k hk => by have := HOk.out k hk; omega) ?_ ?_ ?_ ?_ hbb ?_ g' vc' ?_ ?_ ?_ ?_ hg4
      ·exact h10.os.trans (H9.out.os.trans (HM8.out.1.trans HW1.out.1))
      ·exact h10.tape.trans (H9.out.tape.trans (HM8.out.2.1.trans HW1.out.2.1))
      ·exact h10.output.trans (H9.out.output.trans (HM8.out.2.2.1.trans HW1.out.2.2))
      ·have e1 := HM8.out.2.2.2
       have e2 := Below.size H9.out
       have e3 := Below.size h10
       simp [World.setCell] at e3
       omega
      ·exact HR1.out.of_block hbr
      ·rw [Below.cell h10 (p := ⟨w.heap.size + 1 + 1 + 1, 0, none⟩) hl4, World.cell?_setCell_same _ _ _ C9.out, hNL2]
      ·rw [Below.frozen h10 (p := ⟨w.heap.size + 1 + 1 + 1, 0, none⟩) hl4, World.frozen?_setCell]
       exact F9.out
      ·have h8 := HO8.out
       rw [← Ha3.out] at h8
       refine ⟨h8.1, ?_⟩
       rcases h8.2 with h0 | ⟨g2, cap2, cur, hv, hbg2, hgg, rest⟩
       ·exact .inl h0
       ·simp only [Value.slice.injEq, Option.some.injEq, Addr.mk.injEq] at hv
        obtain ⟨⟨rfl, -, -⟩, -, rfl⟩ := hv
        exact .inr ⟨g', vc', cur, rfl, hbg2, hbg.trans hgg, rest⟩
      ·rcases Hat8.out with h | h
       ·exact .inl h
       ·exact .inr (by omega)
     ·refine stepK_run rfl ?_
      intro w3 h3 K2 hK2
      go_simp
      refine hK2 _ _ (.of_ext (Ext.trans h3 (Ext.alloc _ _))) ?_
      clear hK2 K2
      have H3 := hide (Ext.trans h3 (Ext.alloc w3 (.cells #[.int .i64 (wlF x n i : Int)] 3)))
      have HSL := hide ((Blk.alloc w3 [.int .i64 (wlF x n i : Int)] 3) 0 _ rfl).1
      generalize w3.alloc (.cells #[.int .i64 (wlF x n i : Int)] 3) = Y0 at *
      generalize w3.heap.size = SL at *
      clear h3
      refine anyK_one 0 (by kernel_rfl) ?_
      refine stepK_run rfl ?_
      intro Y h5 K2 hK2
      have c3 := (Below.cell (Ext.trans H3.out h5) (p := ⟨w.heap.size + 1 + 1 + 1, 0, none⟩) (by show w.heap.size + 1 + 1 + 1 < _; omega)).trans Hc4.out
      go_simp
      refine hK2 _ _ (.of_ext (Ext.trans H3.out h5)) ?_
      have Ye := hide (Ext.trans H3.out h5)
      replace HSL := hide ((Below.cell h5 (p := ⟨SL, 0, none⟩) (World.block_lt_of_cell? _ _ HSL.out)).trans HSL.out)
      clear hK2 K2 c3 h5
      refine anyK_take 2 1 2 rfl (by decide) (by kernel_rfl) (fun _ _ _ _ _ h => h) ?_
      repeat (refine headC_step (fun K hK => ?_); go_simp; refine hK _ ?_; clear hK K)
      refine headC_nil ?_
      refine anyK_one 6 (by kernel_rfl) ?_
      refine stepK_run rfl ?_
      intro w7 h7 K2 hK2
      have E7 := hide (Ext.trans Ye.out h7)
      have HO7 := hide (iowns_ext0 HOA.out E7.out)
      have hc7 := (Below.cell h7 (p := ⟨SL, 0, none⟩) (World.block_lt_of_cell? _ _ HSL.out)).trans HSL.out
      rw [if_pos (show _ = true by kernel_rfl)]
      refine wp_app1 _ _ rfl (w.heap.size + 1 + 1) g vc (LL.take A) (by rw [HlA.out]; rfl) HO7.out SL (wlF x n i : Int) rfl hc7 (by rw [HlA.out]; omega) (by have := Below.size E7.out; omega) ?_
      intro g' vc' w8 hO8 hg8 hat8
      refine hK2 _ _ ((Grw.of_ext E7.out).trans (grw_grown hg8 (.inr rfl))) ?_
      clear hK2 K2 hc7
      have HB8 : Hid (∀ k, k < W1.heap.size → k ≠ g → w8.heap[k]? = W1.heap[k]?) := fun k hk hn => (hg8.block k (Nat.lt_of_lt_of_le hk (Below.size E7.out)) (by simp; exact fun e => hn e)).trans (Below.block E7.out k hk)
      have HM8 : Hid (w8.os = W1.os ∧ w8.tape = W1.tape ∧ w8.output = W1.output ∧ W1.heap.size ≤ w8.heap.size) := ⟨hg8.os.trans E7.out.os, hg8.tape.trans E7.out.tape, hg8.output.trans E7.out.output, Nat.le_trans (Below.size E7.out) hg8.size⟩
      have Hat8 : Hid (g' = g ∨ W1.heap.size ≤ g') := by
       rcases hat8 with h | h
       ·exact .inl h
       ·exact .inr (by rw [h]; exact Below.size E7.out)
      have HO8 := hide hO8
      have HG8 := hide ((Grw.of_ext (X := fun k => k = w.heap.size + 1 + 1 + 1 ∨ k = g) E7.out).trans (grw_grown hg8 (.inr rfl)))
      clear hO8 hg8 hat8 HO7 h7 E7
      refine anyK_one 7 (by kernel_rfl) ?_
      refine stepK_run rfl ?_
      intro w9 h9 K2 hK2
      have hb9 : w9.heap[w.heap.size + 1 + 1 + 1]? = W1.heap[w.heap.size + 1 + 1 + 1]? := (Below.block h9 _ (by have := HM8.out.2.2.2; omega)).trans (HB8.out _ (by omega) (fun e => i5 e.symm))
      have c9 := (World.cell?_of_block (a := ⟨w.heap.size + 1 + 1 + 1, 0, none⟩) hb9).trans Hc4.out
      have f9 := (World.frozen?_of_block (a := ⟨w.heap.size + 1 + 1 + 1, 0, none⟩) hb9).trans Hf4.out
      have H9 := hide h9
      clear hb9 h9
      obtain ⟨NL, hNL⟩ : ∃ NL, (LL.take A ++ [(wlF x n i : Int)]).length = NL := ⟨_, rfl⟩
      rw [hNL]
      have HNL := hide hNL
      clear hNL
      go_simp
      refine hK2 _ (w9.setCell ⟨w.heap.size + 1 + 1 + 1, 0, none⟩ (.slice (some ⟨g', 0, none⟩) NL vc')) ((HG8.out.trans (Grw.of_ext H9.out)).trans (Grw.of_touch ((Touch.refl _ w9).set 0 _) (.inl rfl))) ?_
      have C9 := hide c9
      have F9 := hide f9
      clear hK2 K2 c9 f9
      refine anyK_done (by kernel_rfl) ?_ 0
      intro w10 h10
      have hg4 : g' ≠ w.heap.size + 1 + 1 + 1 := by
       rcases Hat8.out with h | h
       ·rw [h]; exact i5
       ·omega
      have hgl : g' < w8.heap.size := (owns_cells HO8.out).2.1
      have hbb : ∀ k, k < W.heap.size → k ≠ w.heap.size → k ≠ w.heap.size + 1 + 1 + 1 → k ≠ g → w10.heap[k]? = W.heap[k]? := fun k h1 h2 h3 h4 => by
       have e1 := HM8.out.2.2.2
       have e2 := Below.size H9.out
       rw [Below.block h10 k (by simp [World.setCell]; omega), Below.heap_setCell _ _ _ _ (show k ≠ w.heap.size + 1 + 1 + 1 from h3), Below.block H9.out k (by omega), HB8.out k (by omega) h4]
       exact HB1.out k h2
      have hbg : w10.heap[g']? = w8.heap[g']? := by
       have e2 := Below.size H9.out
       rw [Below.block h10 g' (by simp [World.setCell]; omega), Below.heap_setCell _ _ _ _ (show g' ≠ w.heap.size + 1 + 1 + 1 from hg4), Below.block H9.out g' hgl]
      have hbr : w10.heap[w.heap.size]? = W1.heap[w.heap.size]? := by
       have e1 := HM8.out.2.2.2
       have e2 := Below.size H9.out
       rw [Below.block h10 _ (by simp [World.setCell]; omega), Below.heap_setCell _ _ _ _ (show w.heap.size ≠ w.heap.size + 1 + 1 + 1 by omega), Below.block H9.out _ (by omega), HB8.out _ (by omega) (by omega)]
      have hl4 : w.heap.size + 1 + 1 + 1 < (w9.setCell ⟨w.heap.size + 1 + 1 + 1, 0, none⟩ (.slice (some ⟨g', 0, none⟩) NL vc')).heap.size := by
       have e1 := HM8.out.2.2.2
       have e2 := Below.size H9.out
       simp [World.setCell]
       omega
      have hNL2 : NL = (wlL x n i).length := by rw [← HNL.out, Ha3.out]
      refine (?_ : RdO (XC (w.heap.size + 1 + 1 + 1 + 1) b) O W w10 ∧ ClI w x n (XC (w.heap.size + 1 + 1 + 1 + 1) b) O (pre ++ [(⟨i, hi⟩ : Ix n)]).length w10)
      rw [show (pre ++ [(⟨i, hi⟩ : Ix n)]).length = pre.length + 1 by simp]
      refine ClI.next (i := i) (g := g) (vc := vc) HI.out ltb hi (by rw [show n - (pre.length + 1) = i by omega]) i3 i4 gB (fun k hk => by have := HOk.out k hk; omega) ?_ ?_ ?_ ?_ hbb ?_ g' vc' ?_ ?_ ?_ ?_ hg4
      ·exact h10.os.trans (H9.out.os.trans (HM8.out.1.trans HW1.out.1))
      ·exact h10.tape.trans (H9.out.tape.trans (HM8.out.2.1.trans HW1.out.2.1))
      ·exact h10.output.trans (H9.out.output.trans (HM8.out.2.2.1.trans HW1.out.2.2))
      ·have e1 := HM8.out.2.2.2
       have e2 := Below.size H9.out
       have e3 := Below.size h10
       simp [World.setCell] at e3
       omega
      ·exact HR1.out.of_block hbr
      ·rw [Below.cell h10 (p := ⟨w.heap.size + 1 + 1 + 1, 0, none⟩) hl4, World.cell?_setCell_same _ _ _ C9.out, hNL2]
      ·rw [Below.frozen h10 (p := ⟨w.heap.size + 1 + 1 + 1, 0, none⟩) hl4, World.frozen?_setCell]
       exact F9.out
      ·have h8 := HO8.out
       rw [← Ha3.out] at h8
       refine ⟨h8.1, ?_⟩
       rcases h8.2 with h0 | ⟨g2, cap2, cur, hv, hbg2, hgg, rest⟩
       ·exact .inl h0
       ·simp only [Value.slice.injEq, Option.some.injEq, Addr.mk.injEq] at hv
        obtain ⟨⟨rfl, -, -⟩, -, rfl⟩ := hv
        exact .inr ⟨g', vc', cur, rfl, hbg2, hbg.trans hgg, rest⟩
      ·rcases Hat8.out with h | h
       ·exact .inl h
       ·exact .inr (by omega)
 case done =>
  rintro O xs W hS hI hOd hlt hD
  have hlx : xs.length = n := by
   have := congrArg List.length hS
   simpa using this
  have b3 := hI.b3
  have HSg : Hid (Seg W (some ⟨w.heap.size, 0, none⟩) w.heap.size 0 n (fun i => (clF x n i : Int))) := ⟨fun _ => rfl, fun i hi => by
   rw [Nat.zero_add, hI.lens.cell hi, if_pos (by omega)]⟩
  have HE := hide hI.ext
  clear hI hseq I0
  gi_wp2
  refine ⟨by simp, .inl ⟨_, _, rfl, run_takeDeferred (ds := []) hD, ?_⟩⟩
  refine ⟨_, results_tmp rfl _ _ _, rfl, ?_, ?_⟩
  ·exact ⟨fun _ => rfl, fun i hi => (World.cell?_of_block (a := ⟨w.heap.size, 0 + i, none⟩) (World.putObj_heap_other (by show w.heap.size ≠ V.heap.size; omega))).trans (HSg.out.cell i hi)⟩
  ·exact Below.trans HE.out ((putObj_below V.heap.size _ V.heap.size _ (Nat.le_refl _)).mono (by omega))
 case stop => exact fun c O pre W _ h => h.elim
end Go.Proofs.YtkogbinfhoiggaaGreatDoor
