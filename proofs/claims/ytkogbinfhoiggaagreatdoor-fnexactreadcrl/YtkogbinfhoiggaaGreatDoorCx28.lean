/- Walks: the program's WriteDer. -/
import Derived.Test.YtkogbinfhoiggaaGreatDoorCx27
namespace Go.Proofs.YtkogbinfhoiggaaGreatDoor
set_option linter.unusedVariables false
set_option linter.unusedSimpArgs false
set_option maxRecDepth 100000
open Go.RowKit Go.Shelf
attribute [local go_sem] Oper.semAt_some
theorem bl_one (L : List Int) : ∀ u ∈ bl L, u.oneCell' = true := by
 intro u hu
 unfold bl at hu
 rw [List.mem_map] at hu
 obtain ⟨z, -, rfl⟩ := hu
 rfl
theorem wp_appb {o : Oper} {a0 : Act} {K : Act → World → Prop} {Q : Exit → Act → World → Prop} {w : World} (s x : Operand)
  (ho : o.op = .call { callee := .builtin .append, args := #[s, x], argTypes := #[22, 22] })
  (base g cap : Nat) (L : List Int) (hs : a0.eval s = .slice (some ⟨g, 0, none⟩) L.length cap) (hown : w.ownsRow base 5 1 (.slice (some ⟨g, 0, none⟩) L.length cap) L.length (bl L))
  (a : Option Addr) (b off m c : Nat) (f : Nat → Int) (hx : a0.eval x = .slice a m c) (hB : BSeg w a b off m f) (hlen : L.length + m ≤ 1099511627776) (hbase : base ≤ w.heap.size)
  (h : ∀ g' cap' w', w'.ownsRow base 5 1 (.slice (some ⟨g', 0, none⟩) (L ++ (List.range m).map f).length cap') (L ++ (List.range m).map f).length (bl (L ++ (List.range m).map f)) → w.grownBy w' (some g) → (g' = g ∨ g' = w.heap.size) → K (a0.put o.dst (.slice (some ⟨g', 0, none⟩) (L ++ (List.range m).map f).length cap')) w') : o.wp Tryz.prog a0 w K Q := by
 obtain ⟨i0, hi, hz0, hz1, hz2⟩ := info_parts Tryz.info5
 cases a with
 | none =>
  have hm : m = 0 := by
   cases m with
   | zero => rfl
   | succ m => have := hB.at' (Nat.succ_pos _); cases this
  subst hm
  have hr := run_append_nothing (P := Tryz.prog) base 22 o.type 5 i0 1 Tryz.underlying22 hi _ L.length c (bl L) hown
  have hk := h g cap w (by simpa using hown) (Touch.refl g w).grown (.inl rfl)
  have hk' : K (a0.put o.dst (.slice (some ⟨g, 0, none⟩) L.length cap)) w := by simpa using hk
  unfold Oper.wp
  simp [execOp, ho, resolve, invoke, builtin, hs, hx, hr, Result.andThen]
  exact hk'
 | some ad =>
  obtain ⟨v', w', hr, h2, h3, h4, h5⟩ := run_append_own_at (P := Tryz.prog) w base 22 o.type 5 i0 (.int .u8 0) 1 1 Tryz.underlying22 hi hz0 hz1 hz2 rfl (by decide) _ L.length (bl L) hown ad m c (bl ((List.range m).map f)) (by simp [bl]) (by
   intro j u hj
   have hjm : j < m := by have := (List.getElem?_eq_some_iff.1 hj).1; simpa [bl] using this
   have := hB.at' (by omega)
   obtain rfl := Option.some.inj this
   rw [show (bl ((List.range m).map f))[j]? = some (.int .u8 (f j)) by simp [bl, hjm]] at hj
   obtain rfl := Option.some.inj hj
   have e : Addr.add ⟨b, off, none⟩ j = ⟨b, off + j, none⟩ := by
    by_cases h0 : j = 0
    ·subst h0; simp [Addr.add]
    ·simp [Addr.add, h0]
   rw [e]
   exact hB.cell j hjm) (bl_one _) (by unfold maxLen; omega) (by omega) hbase
  have hl : (L ++ (List.range m).map f).length = L.length + m := by simp
  have h2' : w'.ownsRow base 5 1 v' (L ++ (List.range m).map f).length (bl (L ++ (List.range m).map f)) := by rw [hl, ← bl_app]; exact h2
  rcases h2'.2 with ⟨h0, h1⟩ | ⟨g', cap', cur, rfl, hrest⟩
  ·have := h4.1 h0
   simp at this
  ·unfold Oper.wp execOp
   simp only [ho, resolve, invoke, builtin, Sem.run_bind, Sem.run_pure, Result.andThen_ok, List.map_toArray, List.map_cons, List.map_nil, hs, hx, hr]
   refine h g' cap' w' h2' h3 ?_
   simpa [Value.ownBlock] using h5
theorem bowns_ext0 {w w' : World} {b : Nat} {v : Value} {n : Nat} {xs : List Value} (h : w.ownsRow b 5 1 v n xs) (he : Ext w w') : w'.ownsRow b 5 1 v n xs := by
 refine ⟨h.1, ?_⟩
 rcases h.2 with h | ⟨g, cap, cur, hv, hg, hr, hr'⟩
 ·exact .inl h
 ·refine .inr ⟨g, cap, cur, hv, hg, ?_, hr'⟩
  rw [Below.block he g (Array.getElem?_eq_some_iff.1 hr).1]; exact hr
theorem bowns_at {w w' : World} {B g cap n : Nat} {xs : List Value} (h : w.ownsRow B 5 1 (.slice (some ⟨g, 0, none⟩) n cap) n xs) (hb : w'.heap[g]? = w.heap[g]?) : w'.ownsRow B 5 1 (.slice (some ⟨g, 0, none⟩) n cap) n xs := by
 refine ⟨h.1, ?_⟩
 rcases h.2 with h0 | ⟨g2, cap2, cur, hv, hbg2, hgg, rest⟩
 ·exact .inl h0
 ·simp only [Value.slice.injEq, Option.some.injEq, Addr.mk.injEq] at hv
  obtain ⟨⟨rfl, -, -⟩, -, rfl⟩ := hv
  exact .inr ⟨g, cap, cur, rfl, hbg2, hb.trans hgg, rest⟩
theorem bowns_lt {w : World} {B g cap n : Nat} {xs : List Value} (h : w.ownsRow B 5 1 (.slice (some ⟨g, 0, none⟩) n cap) n xs) : B ≤ g ∧ g < w.heap.size ∧ n ≤ cap := by
 rcases h.2 with ⟨h0, -⟩ | ⟨g2, cap2, cur, hv, hbg2, hgg, hn, rest⟩
 ·cases h0
 ·simp only [Value.slice.injEq, Option.some.injEq, Addr.mk.injEq] at hv
  obtain ⟨⟨rfl, -, -⟩, -, rfl⟩ := hv
  exact ⟨hbg2, (Array.getElem?_eq_some_iff.1 hgg).1, hn⟩
structure BuI (V : World) (R : Nat) (X O : Nat → Prop) (L : List Int) (W : World) : Prop where
 it : ∃ g vc, W.cell? ⟨R + 1, 0, none⟩ = some (.slice (some ⟨g, 0, none⟩) L.length vc) ∧ W.ownsRow R 5 1 (.slice (some ⟨g, 0, none⟩) L.length vc) L.length (bl L) ∧ ¬ O g ∧ ¬ X g ∧ g ≠ R + 1
 fz : W.frozen? ⟨R + 1, 0, none⟩ = false
 ours : ∀ k, O k → R + 4 ≤ k
 big : R + 4 ≤ W.heap.size
 low : Below R V W
theorem BuI.ab {V : World} {R : Nat} (X : Nat → Prop) (L : List Int) : AbO (fun O W => BuI V R X O L W) := by
 rintro O O' A C ⟨⟨g, vc, i1, i2, i3, i4, i5⟩, l4, l5, l6, l7⟩ hs
 have nO : ∀ k, k < R + 4 → ¬ O k := fun k hk h => by have := l5 k h; omega
 have bk : ∀ k, k < R + 4 → C.heap[k]? = A.heap[k]? := fun k hk => hs.same k (by omega) (nO k hk)
 obtain ⟨-, gl, -⟩ := bowns_lt i2
 have h6 := hs.size
 refine ⟨⟨g, vc, (World.cell?_of_block (a := ⟨R + 1, 0, none⟩) (bk (R + 1) (by omega))).trans i1, bowns_at i2 (hs.same g gl i3), fun h => ?_, i4, i5⟩, (World.frozen?_of_block (a := ⟨R + 1, 0, none⟩) (bk (R + 1) (by omega))).trans l4, fun k hk => ?_, by omega, ⟨hs.os.trans l7.os, hs.tape.trans l7.tape, hs.output.trans l7.output, Nat.le_trans l7.size hs.size, fun k hk => (bk k (by omega)).trans (l7.block k hk)⟩⟩
 ·rcases (hs.own g).1 h with h | h
  ·exact i3 h
  ·omega
 ·rcases (hs.own k).1 hk with h | h
  ·exact l5 k h
  ·omega
theorem BuI.next {V : World} {R g : Nat} {X O : Nat → Prop} {L : List Int} {W W' : World} (h : BuI V R X O L W) (hX : ∀ k, X k → k < R + 4 ∧ k ≠ R + 1)
  (nO : ¬ O g) (nX : ¬ X g) (gB : R ≤ g) (hO : ∀ k, O k → k < W.heap.size)
  (k1 : W'.os = W.os) (k2 : W'.tape = W.tape) (k3 : W'.output = W.output) (k4 : W.heap.size ≤ W'.heap.size)
  (hk : ∀ k, k < W.heap.size → k ≠ R + 1 → k ≠ g → W'.heap[k]? = W.heap[k]?) (M : List Int)
  (g' vc' : Nat) (hc : W'.cell? ⟨R + 1, 0, none⟩ = some (.slice (some ⟨g', 0, none⟩) M.length vc')) (hf : W'.frozen? ⟨R + 1, 0, none⟩ = false)
  (ho : W'.ownsRow R 5 1 (.slice (some ⟨g', 0, none⟩) M.length vc') M.length (bl M)) (hg : g' = g ∨ W.heap.size ≤ g') (hg4 : g' ≠ R + 1) :
  RdO X O W W' ∧ BuI V R X O M W' := by
 have hbig := h.big
 refine ⟨⟨k1, k2, k3, k4, fun k hx hl => ?_⟩, ⟨⟨g', vc', hc, ho, ?_, ?_, hg4⟩, hf, h.ours, by omega, ⟨k1.trans h.low.os, k2.trans h.low.tape, k3.trans h.low.output, Nat.le_trans h.low.size k4, fun k hl => (hk k (by omega) (by omega) (by omega)).trans (h.low.block k hl)⟩⟩⟩
 ·refine hk k hl ?_ ?_
  ·rintro rfl
   rcases hx with hx | hx
   ·have := h.ours _ hx; omega
   ·exact (hX _ hx).2 rfl
  ·rintro rfl
   rcases hx with hx | hx
   ·exact nO hx
   ·exact nX hx
 ·rcases hg with rfl | hg
  ·exact nO
  ·intro ho2; have := hO _ ho2; omega
 ·rcases hg with rfl | hg
  ·exact nX
  ·intro hx; have := (hX _ hx).1; omega
theorem hdL_len {x : Nat → It} {n : Nat} (i : Nat) (h1 : (clF x n i : Int) ≤ 9223372036854775807) : (hdL x n i).length = 1 + lgN (clF x n i : Int) + (x i).len := by
 simp [hdL, lgL, boL]
 omega
def prL (x : Nat → It) (n : Nat) {m : Nat} (pre : List (Pl m)) : List Int := (pre.map (fun p => hdL x n p.1.1)).flatten
theorem prL_push (x : Nat → It) (n : Nat) {m : Nat} (pre : List (Pl m)) (p : Pl m) : prL x n (pre ++ [p]) = prL x n pre ++ hdL x n p.1.1 := by
 unfold prL
 simp
theorem prL_flt (x : Nat → It) (n s : Nat) {m : Nat} : ∀ (c : Nat) (xs : List (Pl m)), xs.map (·.1.1) = List.range' s c → prL x n xs = flt x n s c
 | 0, xs, h => by
  have : xs = [] := by cases xs with | nil => rfl | cons a l => simp at h
  subst this
  rfl
 | c + 1, [], h => by simp [List.range'] at h
 | c + 1, p :: xs, h => by
  rw [List.map_cons, List.range'_succ, List.cons.injEq] at h
  rw [flt_one, ← prL_flt x n (s + 1) c xs h.2, ← h.1]
  unfold prL
  simp
theorem prL_len {x : Nat → It} {n : Nat} (h : ∀ i, i < n → (hdL x n i).length ≤ 1048600) : ∀ (pre : List (Pl n)), (prL x n pre).length ≤ pre.length * 1048600
 | [] => Nat.zero_le _
 | p :: pre => by
  have h1 := prL_len h pre
  have h2 := h p.1.1 p.2
  have e : prL x n (p :: pre) = hdL x n p.1.1 ++ prL x n pre := by unfold prL; simp
  rw [e, List.length_append, List.length_cons]
  omega
theorem bowns_low {w : World} {B B' g cap n : Nat} {xs : List Value} (h : w.ownsRow B 5 1 (.slice (some ⟨g, 0, none⟩) n cap) n xs) (hb : B' ≤ B) : w.ownsRow B' 5 1 (.slice (some ⟨g, 0, none⟩) n cap) n xs := by
 refine ⟨h.1, ?_⟩
 rcases h.2 with h0 | ⟨g2, cap2, cur, hv, hbg2, rest⟩
 ·exact .inl h0
 ·exact .inr ⟨g2, cap2, cur, hv, Nat.le_trans hb hbg2, rest⟩
set_option maxHeartbeats 1600000 in
theorem wd_no (a : Option Addr) (b off n cap : Nat) (x : Nat → It) (w : World) (ht : treeV x n = false) (HT : Hid (∀ W, Ext w W → Calls Tryz.prog 96 #[.slice a n cap] W fun e w' => e = .returned (.bool false) ∧ Ext W w')) :
  Calls Tryz.prog 57 #[.slice a n cap] w fun e w' => GivesWd w [] false e w' := by
 obtain ⟨V, hV⟩ : ∃ V, w.alloc (.cells #[.slice a n cap] 35) = V := ⟨_, rfl⟩
 obtain ⟨B0, hE, -⟩ := box1 w [.slice a n cap] 35 (w1 := V) (by rw [← hV]; exact Ext.refl _)
 have c0 := (B0 0 _ rfl).1
 have HE := hide hE
 have H1 := hide (HT.out V hE)
 clear B0 hE HT
 go_enter Tryz.func57, Tryz.ntmps57
 go_wp2_with (go_at_call 96; refine H1.out.mono ?_; rintro e w1 ⟨rfl, hE1⟩; have HE1 := hide hE1; clear hE1)
 go_ret2
 exact ⟨_, rfl, World.ownsRow_made (base := w.heap.size) (e := 5) (size := 1) _ #[] 0 (Nat.le_trans (Below.size HE.out) (Below.size HE1.out)) (by simp) rfl, Ext.trans HE.out (Ext.trans HE1.out (Ext.alloc _ _))⟩
set_option maxHeartbeats 12800000 in
theorem wd_yes (b off n cap : Nat) (x : Nat → It) (w : World) (hs : ISeg w (some ⟨b, off, none⟩) b off n x) (ht : treeV x n = true) (hl : ∀ i, i < n → (x i).len ≤ 1048576) (hk : ∀ i, i < n → (x i).kid ≤ 9223372036854775807)
  (HT : Hid (∀ W, Ext w W → Calls Tryz.prog 96 #[.slice (some ⟨b, off, none⟩) n cap] W fun e w' => e = .returned (.bool true) ∧ Ext W w')) :
  Calls Tryz.prog 57 #[.slice (some ⟨b, off, none⟩) n cap] w fun e w' => GivesWd w (wdL x n) (wdB x n) e w' := by
 obtain ⟨h1, h300, hg⟩ := tree_good ht
 have hT := trO_of ht
 have hwB : wdB x n = decide (wlF x n 0 ≤ 4000) := by unfold wdB; rw [ht, Bool.true_and]; rfl
 obtain ⟨q1, q2, q3⟩ := wl_le hT h300 hl 0 (by omega)
 obtain ⟨w0, hw0⟩ : ∃ V, w.alloc (.cells #[.slice (some ⟨b, off, none⟩) n cap] 35) = V := ⟨_, rfl⟩
 obtain ⟨B0, hE0, hs0⟩ := box1 w [.slice (some ⟨b, off, none⟩) n cap] 35 (w1 := w0) (by rw [← hw0]; exact Ext.refl _)
 have HB0 := hide B0
 have HE := hide hE0
 have H1 := hide (HT.out w0 hE0)
 have HC : Hid (∀ W, Ext w W → Calls Tryz.prog 97 #[.slice (some ⟨b, off, none⟩) n cap] W fun e w' => e = .returned (.slice (some ⟨W.heap.size, 0, none⟩) n n) ∧ Seg w' (some ⟨W.heap.size, 0, none⟩) W.heap.size 0 n (fun i => (clF x n i : Int)) ∧ Ext W w') := fun W hW => contentLengths_any b off n cap x W (hs.of_all hW) ht hl
 have HW : Hid (∀ W, Calls Tryz.prog 98 #[.int .i64 (clF x n 0 : Int)] W fun e w' => e = .returned (.int .i64 (wlF x n 0 : Int)) ∧ Ext W w') := fun W => by
  have := wholeLength_any (clF x n 0 : Int) W (by omega) (by omega)
  rw [show 1 + (lgN (clF x n 0 : Int) : Int) + (clF x n 0 : Int) = (wlF x n 0 : Int) by rw [q3]; omega] at this
  exact this
 have Hs := hide hs
 have HTr := hide hT
 have Hl := hide hl
 have Hk := hide hk
 have HwB := hide hwB
 have Ht := hide ht
 have c0 := (B0 0 _ rfl).1
 have hn0 : (0 : Int) < (n : Int) := by omega
 clear B0 hE0 HT hs hT hl hk hwB ht q1 q3
 by_cases hbig : wlF x n 0 ≤ 4000
 case neg =>
  have g4 : (4000 : Int) < (wlF x n 0 : Int) := by omega
  have HL : Hid (wdL x n = []) := hide (by unfold wdL; rw [HwB.out, decide_eq_false hbig]; rfl)
  rw [HL.out, HwB.out, decide_eq_false hbig]
  clear hbig
  generalize wlF x n 0 = WL at *
  go_enter Tryz.func57, Tryz.ntmps57
  go_wp2_with fail
  refine H1.out.mono ?_
  rintro e w1 ⟨rfl, hE1⟩
  replace HB0 := hide (Blk.ext HB0.out hE1 (by omega))
  replace HE := hide (Ext.trans HE.out hE1)
  have sz1 := Below.size hE1
  clear hE1 H1 c0
  have c0 := (HB0.out 0 _ rfl).1
  go_wp2_with fail
  refine (HC.out _ HE.out).mono ?_
  rintro e w2 ⟨rfl, hsg, hE2⟩
  replace HE := hide (Ext.trans HE.out hE2)
  have cr := (hsg.of_all (Ext.alloc w2 (.cells #[.slice (some ⟨w1.heap.size, 0, none⟩) n n] 24))).cell 0 (by omega)
  clear hE2 c0 hsg
  generalize clF x n 0 = CL at *
  go_wp2_with fail
  refine (HW.out _).mono ?_
  rintro e w3 ⟨rfl, hE3⟩
  replace HE := hide (Ext.trans HE.out (Ext.trans (Ext.alloc _ _) hE3))
  clear hE3 cr
  go_wp2
  go_ret2
  exact ⟨_, rfl, World.ownsRow_made (base := w.heap.size) (e := 5) (size := 1) _ #[] 0 (Below.size HE.out) (by simp) rfl, Ext.trans HE.out (Ext.alloc _ _)⟩
 have g4 : ¬ (4000 : Int) < (wlF x n 0 : Int) := by omega
 have HL : Hid (wdL x n = flt x n 0 n) := hide (by
  unfold wdL
  rw [HwB.out, decide_eq_true hbig, if_pos rfl]
  have := (wrF_flt x n 13 (Nat.le_refl _) 0 (HTr.out.ok 0 (by omega))).2
  rw [HTr.out.top] at this
  simpa using this)
 rw [HL.out, HwB.out, decide_eq_true hbig]
 clear hbig
 generalize wlF x n 0 = WL at *
 refine (callsIn_wide (n := 9)).1 ?_
 refine callsIn_of_wp_marks Tryz.func57 rfl trivial ?_
 simp only [Tryz.ntmps57, List.size_toArray, List.length_cons, List.length_nil, Nat.reduceAdd, Nat.reduceSub, Array.replicate_succ, Array.replicate_zero, List.push_toArray, List.append_toArray, List.nil_append, List.cons_append]
 gi_wp2_with (first | (gi_at_call 96; refine (callsIn_wide.2 H1.out).mono ?_; rintro e w1 ⟨rfl, hE1⟩; have HE1 := hide hE1; have c1 := ((Blk.ext HB0.out hE1 (by omega)) 0 _ rfl).1; clear hE1) | (refine ⟨trivial, ?_⟩; gi_at_call 96; refine (callsIn_wide.2 H1.out).mono ?_; rintro e w1 ⟨rfl, hE1⟩; have HE1 := hide hE1; have c1 := ((Blk.ext HB0.out hE1 (by omega)) 0 _ rfl).1; clear hE1) | (gi_at_call 97; refine (callsIn_wide.2 (HC.out _ (Ext.trans HE.out HE1.out))).mono ?_; rintro e w2 ⟨rfl, hsg, hE2⟩; have HE2 := hide hE2; have Hsg := hide hsg; have cr := (hsg.of_all (Ext.alloc w2 (.cells #[.slice (some ⟨w1.heap.size, 0, none⟩) n n] 24))).cell 0 (by omega); clear hE2 hsg) | (refine ⟨trivial, ?_⟩; gi_at_call 97; refine (callsIn_wide.2 (HC.out _ (Ext.trans HE.out HE1.out))).mono ?_; rintro e w2 ⟨rfl, hsg, hE2⟩; have HE2 := hide hE2; have Hsg := hide hsg; have cr := (hsg.of_all (Ext.alloc w2 (.cells #[.slice (some ⟨w1.heap.size, 0, none⟩) n n] 24))).cell 0 (by omega); clear hE2 hsg) | (gi_at_call 98; refine (callsIn_wide.2 (HW.out _)).mono ?_; rintro e w3 ⟨rfl, hE3⟩; have HE3 := hide hE3; have c3 := ((Blk.ext HB0.out (Ext.trans HE1.out (Ext.trans HE2.out (Ext.trans (Ext.alloc w2 (.cells #[.slice (some ⟨w1.heap.size, 0, none⟩) n n] 24)) (Ext.trans hE3 (Ext.trans (Ext.alloc w3 (.cells #[] 5)) (Ext.alloc _ (.cells #[.slice (some ⟨w3.heap.size, 0, none⟩) 0 0] 22))))))) (by omega)) 0 _ rfl).1; clear hE3) | (refine ⟨trivial, ?_⟩; gi_at_call 98; refine (callsIn_wide.2 (HW.out _)).mono ?_; rintro e w3 ⟨rfl, hE3⟩; have HE3 := hide hE3; have c3 := ((Blk.ext HB0.out (Ext.trans HE1.out (Ext.trans HE2.out (Ext.trans (Ext.alloc w2 (.cells #[.slice (some ⟨w1.heap.size, 0, none⟩) n n] 24)) (Ext.trans hE3 (Ext.trans (Ext.alloc w3 (.cells #[] 5)) (Ext.alloc _ (.cells #[.slice (some ⟨w3.heap.size, 0, none⟩) 0 0] 22))))))) (by omega)) 0 _ rfl).1; clear hE3) | (gi_at_call 99; refine (callsIn_wide.2 (below_any _ _ _ _ _)).mono ?_; rintro e w4 ⟨rfl, rfl⟩) | (refine ⟨trivial, ?_⟩; gi_at_call 99; refine (callsIn_wide.2 (below_any _ _ _ _ _)).mono ?_; rintro e w4 ⟨rfl, rfl⟩))
 have eW3 : Ext w w3 := Ext.trans HE.out (Ext.trans HE1.out (Ext.trans HE2.out (Ext.trans (Ext.alloc w2 (.cells #[.slice (some ⟨w1.heap.size, 0, none⟩) n n] 24)) HE3.out)))
 have z1 := Below.size HE1.out
 have z2 := Below.size HE2.out
 have z3 := Below.size HE3.out
 rw [World.size_alloc] at z3
 have hO0 := World.ownsRow_made (base := w3.heap.size) (e := 5) (size := 1) w3 #[] 0 (Nat.le_refl _) (by simp) rfl
 obtain ⟨V, hV⟩ : ∃ z, (((w3.alloc (.cells #[] 5)).alloc (.cells #[.slice (some ⟨w3.heap.size, 0, none⟩) 0 0] 22)).alloc (.cells #[.slice (some ⟨b, off, none⟩) n cap] 35)).alloc (.cells #[.int .i64 0] 3) = z := ⟨_, rfl⟩
 obtain ⟨-, B5, B6, B7, eV, -⟩ := box4 w3 [] [.slice (some ⟨w3.heap.size, 0, none⟩) 0 0] [.slice (some ⟨b, off, none⟩) n cap] [.int .i64 0] 5 22 35 3 (w1 := V) (by rw [← hV]; exact Ext.refl _)
 have sV : V.heap.size = w3.heap.size + 4 := by rw [← hV]; simp
 have hO1 : V.ownsRow w3.heap.size 5 1 (.slice (some ⟨w3.heap.size, 0, none⟩) 0 0) 0 [] := by
  rw [← hV]
  exact bowns_ext0 hO0 (Ext.trans (Ext.alloc _ _) (Ext.trans (Ext.alloc _ _) (Ext.alloc _ _)))
 rw [hV]
 have eVw : Ext w V := Ext.trans eW3 eV
 have hsV := Hs.out.of_all eVw
 have ltb : b < w.heap.size := Hs.out.lt (by omega)
 have HcL : Hid (V.cell? ⟨w.heap.size, 0, none⟩ = some (.slice (some ⟨b, off, none⟩) n cap)) := hide ((Blk.ext HB0.out (Ext.trans HE1.out (Ext.trans HE2.out (Ext.trans (Ext.alloc w2 (.cells #[.slice (some ⟨w1.heap.size, 0, none⟩) n n] 24)) (Ext.trans HE3.out eV)))) (by omega)) 0 _ rfl).1
 have HcP : Hid (V.cell? ⟨w2.heap.size, 0, none⟩ = some (.slice (some ⟨w1.heap.size, 0, none⟩) n n)) := hide (((Blk.alloc w2 [.slice (some ⟨w1.heap.size, 0, none⟩) n n] 24).ext (Ext.trans HE3.out eV) (by simp)) 0 _ rfl).1
 have HsL := hide (Hsg.out.of_all (Ext.trans (Ext.alloc w2 (.cells #[.slice (some ⟨w1.heap.size, 0, none⟩) n n] 24)) (Ext.trans HE3.out eV)))
 have lt1 : w.heap.size < w3.heap.size := by omega
 have lt2 : w2.heap.size < w3.heap.size := by omega
 have lt3 : w1.heap.size < w3.heap.size := by omega
 have hw3 : w.heap.size ≤ w3.heap.size := by omega
 have HeW := hide eVw
 have HsV := hide hsV
 generalize w2.heap.size = P4 at *
 generalize w1.heap.size = PR at *
 generalize w3.heap.size = R at *
 clear hV hO0 eV eW3 HE HE1 HE2 HE3 Hsg HB0 H1 HC HW hsV eVw cr c0 c1 c3 hw0
 have hX : ∀ k, XB (R + 1 + 1 + 1) (R + 1 + 1) b k → k < R + 4 ∧ k ≠ R + 1 := by
  rintro k (h | h | h) <;> omega
 have HX := hide hX
 have hseq := below1_inO 8 (by omega) n 0 (R + 1 + 1 + 1) (R + 1 + 1) b off cap (fun i => (x i).kid) V (by omega) (by omega) (by omega) (B7 0 _ rfl).1 (B6 0 _ rfl).1 (fun i hi => HsV.out.c2 i hi) Hk.out
 have I0 : BuI V R (XB (R + 1 + 1 + 1) (R + 1 + 1) b) (fun _ => False) (prL x n ([] : List (Pl n))) V := ⟨⟨R, 0, (B5 0 _ rfl).1, hO1, fun h => h, by rintro (h | h | h) <;> omega, by omega⟩, (B5 0 _ rfl).2, fun k h => h.elim, by omega, Below.refl _ _⟩
 clear B5 B6 B7 hO1 hX
 refine range_ownO (n := 9) (by omega) (gf := 125) (lb := #[.pointer (some ⟨R + 1 + 1 + 1, 0, none⟩), .pointer (some ⟨R + 1 + 1, 0, none⟩)]) rfl (enters_of Tryz.func125 (by kernel_rfl) rfl) (w0 := V) (fun k hk => by rcases hk with h | h | h <;> omega) hseq (Below.refl _ _) (fun _ => rfl)
  (fun O pre W => BuI V R (XB (R + 1 + 1 + 1) (R + 1 + 1) b) O (prL x n pre) W) (fun c O pre W => False) (fun s => BuI.ab _ _) (fun c s O O' A C h _ => h) I0
  (fun p => { tmps := #[.slice (some ⟨b, off, none⟩) n cap, .pointer (some ⟨w.heap.size, 0, none⟩), .slice none 0 0, .bool false, .pointer (some ⟨P4, 0, none⟩), .pointer (some ⟨R + 1, 0, none⟩), .int .i64 (p.1.1 : Int), .slice (some ⟨b, off, none⟩) n cap, .bool true, .bool false, undef, .slice (some ⟨b, off, none⟩) n cap, .slice (some ⟨PR, 0, none⟩) n n, .slice (some ⟨PR, 0, none⟩) n n, .pointer (some ⟨PR, 0, none⟩), .int .i64 (clF x n 0 : Int), .int .i64 (WL : Int), .bool (decide ((4000 : Int) < (WL : Int))), undef, .slice (some ⟨R, 0, none⟩) 0 0, .slice (some ⟨b, off, none⟩) n cap, .func (.func 125) #[] #[.pointer (some ⟨R + 1 + 1 + 1, 0, none⟩), .pointer (some ⟨R + 1 + 1, 0, none⟩)], .int .i64 (p.1.1 : Int), .int .i64 (p.1.2 : Int), undef, undef, undef, undef, undef, undef, undef, undef, undef, undef, undef, undef, undef, undef, undef, undef, undef, undef, undef, undef, undef, undef, undef, undef], defers := [] }) ?assign ?body ?done ?stop
 case assign =>
  intro l p W K hK
  simp only [encP]
  gi_wp2
  exact hK
 case body =>
  rintro l O pre ⟨⟨j, r⟩, hj⟩ W hI hOk hW2 hlen
  dsimp only at hj ⊢
  have HI := hide hI
  have HRd : Hid (RdO (XB (R + 1 + 1 + 1) (R + 1 + 1) b) O W W) := hide (RdO.refl _ _ _)
  have HOA : Hid (∀ k, O k → k < W.heap.size) := fun k hk => (hOk k hk).2
  have HsW : Hid (0 < (x j).len → (x j).blk < w.heap.size) := fun h => (Hs.out.body j hj).lt h
  obtain ⟨t1, t2, t3⟩ := wl_le HTr.out h300 Hl.out j hj
  have lgB := lgN_le (n := (clF x n j : Int)) (by omega) (by omega)
  obtain ⟨gt0, gt1, -⟩ := hg j hj
  have hjl := Hl.out j hj
  have HLb : Hid (∀ W, Calls Tryz.prog 100 #[.int .i64 (clF x n j : Int)] W fun e w' => GivesR W (lgN (clF x n j : Int)) (lgF (clF x n j : Int)) e w') := fun W => lengthBytes_any _ W (by omega) (by omega)
  have hwt : IntKind.u8.wrap (x j).tag = (x j).tag := by rw [IntKind.wrap_u8]; omega
  have hjn : (j : Int) < (n : Int) := by omega
  have hL1 := prL_len (x := x) (n := n) (fun i hi => by
   have h1 := (wl_le HTr.out h300 Hl.out i hi).2.1
   have h2 := lgN_le (n := (clF x n i : Int)) (by omega) (by omega)
   have h3 := Hl.out i hi
   have h4 := hdL_len (x := x) (n := n) i (by omega)
   omega) pre
  have hL2 : (prL x n pre).length ≤ 400000000 := by omega
  obtain ⟨L1, hL1e⟩ : ∃ z, prL x n pre = z := ⟨_, rfl⟩
  rw [hL1e] at HI hL2
  have HL1e := hide hL1e
  have HW0 := hide (Eq.refl W)
  clear hI hOk hL1 hL1e hseq I0 t1 t3
  obtain ⟨A1, hA1⟩ : ∃ z, z = W := ⟨_, rfl⟩
  rw [← hA1] at HI HOA ⊢
  have HRd2 : Hid (RdO (XB (R + 1 + 1 + 1) (R + 1 + 1) b) O A1 A1) := hide (RdO.refl _ _ _)
  have HA1 := hide hA1
  clear hA1 HRd HW0
  have HRd := HRd2
  clear HRd2
  obtain ⟨⟨g, vc, i1, i2, i3, i4, i5⟩, l4, l5, l6, l7⟩ := HI.out
  have gB := (bowns_lt i2).1
  have Hi1 := hide i1
  have Hi2 := hide i2
  have Hl4 := hide l4
  have lA := l6
  have HLow := hide l7
  have f1 := fun p => cell_reC (X := fun k => k = R + 1 ∨ k = g) ((Below.cell HLow.out (p := ⟨w.heap.size, 0, none⟩) (by show w.heap.size < R; omega)).trans HcL.out) (by rintro (h | h) <;> simp only at h <;> omega) p
  have f2 := fun p => cell_reC (X := fun k => k = R + 1 ∨ k = g) ((Below.cell HLow.out (p := ⟨b, off + j * 3, none⟩) (by show b < R; omega)).trans (HsV.out.c0 j hj)) (by rintro (h | h) <;> simp only at h <;> omega) p
  clear i1 i2 l4 l7
  gi_wp2_with fail
  refine anyK_beginR (fun k => k = R + 1 ∨ k = g) 10 rfl (by kernel_rfl) (by kernel_rfl) (fun ⟨_, _, h⟩ => h) l ?_
  refine anyK_take 1 6 4 rfl (by decide) (by kernel_rfl) (fun _ _ _ _ _ h => h) ?_
  repeat (refine headC_step (fun K hK => ?_); go_simp; refine hK _ ?_; clear hK K)
  refine headC_nil ?_
  clear f1 f2
  refine anyK_two 0 7 (by kernel_rfl) ?_ ?_
  ·refine stepK_run rfl ?_
   intro w3' h3 K2 hK2
   have cX := (Below.cell h3 (p := ⟨R + 1, 0, none⟩) (by show R + 1 < _; omega)).trans Hi1.out
   go_simp
   refine hK2 _ _ (.of_ext h3) ?_
   have H3 := hide h3
   clear hK2 K2 cX h3
   refine anyK_one 7 (by kernel_rfl) ?_
   refine stepK_run rfl ?_
   intro w5 h5 K2 hK2
   go_simp
   refine hK2 _ _ (.of_ext (Ext.trans H3.out (Ext.trans h5 (Ext.alloc _ _)))) ?_
   clear hK2 K2
   have Ye := hide (Ext.trans H3.out (Ext.trans h5 (Ext.alloc w5 (.cells #[.int .u8 (x j).tag] 5))))
   have HSrc : Hid (BSeg (w5.alloc (.cells #[.int .u8 (x j).tag] 5)) (some ⟨w5.heap.size, 0, none⟩) w5.heap.size 0 1 (fun _ => (x j).tag)) := ⟨fun _ => rfl, fun q hq => by
    obtain rfl : q = 0 := by omega
    exact ((Blk.alloc w5 [.int .u8 (x j).tag] 5) 0 _ rfl).1⟩
   generalize w5.alloc (.cells #[.int .u8 (x j).tag] 5) = Y at *
   generalize w5.heap.size = SL at *
   clear h5 H3
   refine anyK_one 8 (by kernel_rfl) ?_
   refine stepK_run rfl ?_
   intro w7 h7 K2 hK2
   have E7 := hide (Ext.trans Ye.out h7)
   have HO7 := hide (bowns_ext0 Hi2.out E7.out)
   have HS7 := hide (HSrc.out.of_all h7)
   rw [if_pos (show _ = true by kernel_rfl)]
   refine wp_appb _ _ rfl R g vc L1 rfl HO7.out (some ⟨SL, 0, none⟩) SL 0 1 1 (fun _ => (x j).tag) rfl HS7.out (by omega) (by have := Below.size E7.out; omega) ?_
   intro g' vc' w8 hO8 hg8 hat8
   refine hK2 _ _ ((Grw.of_ext E7.out).trans (grw_grown hg8 (.inr rfl))) ?_
   clear hK2 K2
   have HB8 : Hid (∀ k, k < A1.heap.size → k ≠ g → w8.heap[k]? = A1.heap[k]?) := fun k hk hn => (hg8.block k (Nat.lt_of_lt_of_le hk (Below.size E7.out)) (by simp; exact fun e => hn e)).trans (Below.block E7.out k hk)
   have HM8 : Hid (w8.os = A1.os ∧ w8.tape = A1.tape ∧ w8.output = A1.output ∧ A1.heap.size ≤ w8.heap.size) := ⟨hg8.os.trans E7.out.os, hg8.tape.trans E7.out.tape, hg8.output.trans E7.out.output, Nat.le_trans (Below.size E7.out) hg8.size⟩
   have Hat8 : Hid (g' = g ∨ A1.heap.size ≤ g') := by
    rcases hat8 with h | h
    ·exact .inl h
    ·exact .inr (by rw [h]; exact Below.size E7.out)
   have HO8 := hide hO8
   have HG8 := hide ((Grw.of_ext (X := (fun k => k = R + 1 ∨ k = g)) E7.out).trans (grw_grown hg8 (.inr rfl)))
   clear hO8 hg8 hat8 HO7 h7 E7 HS7 HSrc
   refine anyK_one 9 (by kernel_rfl) ?_
   refine stepK_run rfl ?_
   intro w9 h9 K2 hK2
   have hb9 : w9.heap[R + 1]? = A1.heap[R + 1]? := (Below.block h9 _ (by have := HM8.out.2.2.2; omega)).trans (HB8.out _ (by omega) (fun e => i5 e.symm))
   have c9 := (World.cell?_of_block (a := ⟨R + 1, 0, none⟩) hb9).trans Hi1.out
   have f9 := (World.frozen?_of_block (a := ⟨R + 1, 0, none⟩) hb9).trans Hl4.out
   have H9 := hide h9
   clear hb9 h9
   obtain ⟨LN, hLN⟩ : ∃ LN, L1 ++ (List.range 1).map (fun _ => (x j).tag) = LN := ⟨_, rfl⟩
   rw [hLN] at HO8 ⊢
   have HLN := hide hLN
   obtain ⟨NL, hNL⟩ : ∃ NL, LN.length = NL := ⟨_, rfl⟩
   rw [hNL]
   have HNL := hide hNL
   clear hNL hLN
   go_simp
   refine hK2 _ (w9.setCell ⟨R + 1, 0, none⟩ (.slice (some ⟨g', 0, none⟩) NL vc')) ((HG8.out.trans (Grw.of_ext H9.out)).trans (Grw.of_touch ((Touch.refl _ w9).set 0 _) (.inl rfl))) ?_
   have C9 := hide c9
   have F9 := hide f9
   clear hK2 K2 c9 f9
   refine anyK_done (by kernel_rfl) ?_ 0
   intro w10 h10
   have hg4 : g' ≠ R + 1 := by
    rcases Hat8.out with h | h
    ·rw [h]; exact i5
    ·omega
   have hgl : g' < w8.heap.size := (bowns_lt HO8.out).2.1
   have hbb : ∀ k, k < A1.heap.size → k ≠ R + 1 → k ≠ g → w10.heap[k]? = A1.heap[k]? := fun k h1 h3 h4 => by
    have e1 := HM8.out.2.2.2
    have e2 := Below.size H9.out
    rw [Below.block h10 k (by simp [World.setCell]; omega), Below.heap_setCell _ _ _ _ (show k ≠ R + 1 from h3), Below.block H9.out k (by omega)]
    exact HB8.out k h1 h4
   have hbg : w10.heap[g']? = w8.heap[g']? := by
    have e2 := Below.size H9.out
    rw [Below.block h10 g' (by simp [World.setCell]; omega), Below.heap_setCell _ _ _ _ (show g' ≠ R + 1 from hg4), Below.block H9.out g' hgl]
   have hl4 : R + 1 < (w9.setCell ⟨R + 1, 0, none⟩ (.slice (some ⟨g', 0, none⟩) NL vc')).heap.size := by
    have e1 := HM8.out.2.2.2
    have e2 := Below.size H9.out
    simp [World.setCell]
    omega
   have hst := BuI.next (g := g) HI.out HX.out i3 i4 gB HOA.out (h10.os.trans (H9.out.os.trans HM8.out.1)) (h10.tape.trans (H9.out.tape.trans HM8.out.2.1)) (h10.output.trans (H9.out.output.trans HM8.out.2.2.1)) (by
    have e1 := HM8.out.2.2.2
    have e2 := Below.size H9.out
    have e3 := Below.size h10
    simp [World.setCell] at e3
    omega) hbb LN g' vc' (by rw [Below.cell h10 (p := ⟨R + 1, 0, none⟩) hl4, World.cell?_setCell_same _ _ _ C9.out, HNL.out]) (by
    rw [Below.frozen h10 (p := ⟨R + 1, 0, none⟩) hl4, World.frozen?_setCell]
    exact F9.out) (bowns_at HO8.out hbg) Hat8.out hg4
   have HRn := hide (RdO.trans HRd.out hst.1)
   have HIn := hide hst.2
   have HLn : Hid (LN = L1 ++ [(x j).tag]) := hide (by rw [← HLN.out]; rfl)
   have HOn : Hid (∀ k, O k → k < w10.heap.size) := fun k hk => Nat.lt_of_lt_of_le (HOA.out k hk) hst.1.size
   have hlN : LN.length ≤ L1.length + 1 := by rw [← HLN.out]; simp
   clear hst hbb hbg hl4 h10 H9 HB8 HM8 Hat8 HO8 HG8 C9 F9 hgl hg4 HLN HNL
   replace HI := HIn
   replace HRd := HRn
   replace HOA := HOn
   have HQ1 := HLn
   clear HIn HRn HOn HLn i3 i4 i5 gB Hi1 Hi2 Hl4 lA HLow l5 l6 Ye
   generalize w10 = A2 at *
   generalize LN = L2 at *
   obtain ⟨⟨g, vc, i1, i2, i3, i4, i5⟩, l4, l5, l6, l7⟩ := HI.out
   have gB := (bowns_lt i2).1
   have Hi1 := hide i1
   have Hi2 := hide i2
   have Hl4 := hide l4
   have lA := l6
   have HLow := hide l7
   have f1 := fun p => cell_reC (X := fun k => k = R + 1 ∨ k = g) ((Below.cell HLow.out (p := ⟨P4, 0, none⟩) (by show P4 < R; omega)).trans HcP.out) (by rintro (h | h) <;> simp only at h <;> omega) p
   have f2 := fun p => cell_reC (X := fun k => k = R + 1 ∨ k = g) ((Below.cell HLow.out (p := ⟨PR, 0 + j, none⟩) (by show PR < R; omega)).trans (HsL.out.cell j hj)) (by rintro (h | h) <;> simp only at h <;> omega) p
   rw [Nat.zero_add] at f2
   clear i1 i2 l4 l7
   gi_wp2_with fail
   refine anyK_beginR (fun k => k = R + 1 ∨ k = g) 8 rfl (by kernel_rfl) (by kernel_rfl) (fun ⟨_, _, h⟩ => h) l ?_
   refine anyK_take 1 4 4 rfl (by decide) (by kernel_rfl) (fun _ _ _ _ _ h => h) ?_
   repeat (refine headC_step (fun K hK => ?_); go_simp; refine hK _ ?_; clear hK K)
   refine headC_nil ?_
   clear f1 f2
   refine anyK_two 0 5 (by kernel_rfl) ?_ ?_
   ·refine stepK_run rfl ?_
    intro w3' h3 K2 hK2
    have cX := (Below.cell h3 (p := ⟨R + 1, 0, none⟩) (by show R + 1 < _; omega)).trans Hi1.out
    go_simp
    refine hK2 _ _ (.of_ext h3) ?_
    have H3 := hide h3
    clear hK2 K2 cX h3
    refine anyK_one 5 (by kernel_rfl) ?_
    refine stepK_run rfl ?_
    intro w5 h5 K2 hK2
    go_simp
    refine (HLb.out w5).mono ?_
    rintro e Y ⟨vv, rfl, hvo, hvE⟩
    obtain ⟨sa, sg, sc, rfl, -, -, -, hvb⟩ := owns_seg hvo
    go_simp
    refine hK2 _ _ (.of_ext (Ext.trans H3.out (Ext.trans h5 hvE))) ?_
    have Ye := hide (Ext.trans H3.out (Ext.trans h5 hvE))
    have HSrc := hide hvb.toBSeg
    clear hK2 K2 hvo hvE hvb h5 H3
    refine anyK_one 6 (by kernel_rfl) ?_
    refine stepK_run rfl ?_
    intro w7 h7 K2 hK2
    have E7 := hide (Ext.trans Ye.out h7)
    have HO7 := hide (bowns_ext0 Hi2.out E7.out)
    have HS7 := hide (HSrc.out.of_all h7)
    rw [if_pos (show _ = true by kernel_rfl)]
    refine wp_appb _ _ rfl R g vc L2 rfl HO7.out sa sg 0 (lgN (clF x n j : Int)) sc (lgF (clF x n j : Int)) rfl HS7.out (by omega) (by have := Below.size E7.out; omega) ?_
    intro g' vc' w8 hO8 hg8 hat8
    refine hK2 _ _ ((Grw.of_ext E7.out).trans (grw_grown hg8 (.inr rfl))) ?_
    clear hK2 K2
    have HB8 : Hid (∀ k, k < A2.heap.size → k ≠ g → w8.heap[k]? = A2.heap[k]?) := fun k hk hn => (hg8.block k (Nat.lt_of_lt_of_le hk (Below.size E7.out)) (by simp; exact fun e => hn e)).trans (Below.block E7.out k hk)
    have HM8 : Hid (w8.os = A2.os ∧ w8.tape = A2.tape ∧ w8.output = A2.output ∧ A2.heap.size ≤ w8.heap.size) := ⟨hg8.os.trans E7.out.os, hg8.tape.trans E7.out.tape, hg8.output.trans E7.out.output, Nat.le_trans (Below.size E7.out) hg8.size⟩
    have Hat8 : Hid (g' = g ∨ A2.heap.size ≤ g') := by
     rcases hat8 with h | h
     ·exact .inl h
     ·exact .inr (by rw [h]; exact Below.size E7.out)
    have HO8 := hide hO8
    have HG8 := hide ((Grw.of_ext (X := (fun k => k = R + 1 ∨ k = g)) E7.out).trans (grw_grown hg8 (.inr rfl)))
    clear hO8 hg8 hat8 HO7 h7 E7 HS7 HSrc
    refine anyK_one 7 (by kernel_rfl) ?_
    refine stepK_run rfl ?_
    intro w9 h9 K2 hK2
    have hb9 : w9.heap[R + 1]? = A2.heap[R + 1]? := (Below.block h9 _ (by have := HM8.out.2.2.2; omega)).trans (HB8.out _ (by omega) (fun e => i5 e.symm))
    have c9 := (World.cell?_of_block (a := ⟨R + 1, 0, none⟩) hb9).trans Hi1.out
    have f9 := (World.frozen?_of_block (a := ⟨R + 1, 0, none⟩) hb9).trans Hl4.out
    have H9 := hide h9
    clear hb9 h9
    obtain ⟨LN, hLN⟩ : ∃ LN, L2 ++ (List.range (lgN (clF x n j : Int))).map (lgF (clF x n j : Int)) = LN := ⟨_, rfl⟩
    rw [hLN] at HO8 ⊢
    have HLN := hide hLN
    obtain ⟨NL, hNL⟩ : ∃ NL, LN.length = NL := ⟨_, rfl⟩
    rw [hNL]
    have HNL := hide hNL
    clear hNL hLN
    go_simp
    refine hK2 _ (w9.setCell ⟨R + 1, 0, none⟩ (.slice (some ⟨g', 0, none⟩) NL vc')) ((HG8.out.trans (Grw.of_ext H9.out)).trans (Grw.of_touch ((Touch.refl _ w9).set 0 _) (.inl rfl))) ?_
    have C9 := hide c9
    have F9 := hide f9
    clear hK2 K2 c9 f9
    refine anyK_done (by kernel_rfl) ?_ 0
    intro w10 h10
    have hg4 : g' ≠ R + 1 := by
     rcases Hat8.out with h | h
     ·rw [h]; exact i5
     ·omega
    have hgl : g' < w8.heap.size := (bowns_lt HO8.out).2.1
    have hbb : ∀ k, k < A2.heap.size → k ≠ R + 1 → k ≠ g → w10.heap[k]? = A2.heap[k]? := fun k h1 h3 h4 => by
     have e1 := HM8.out.2.2.2
     have e2 := Below.size H9.out
     rw [Below.block h10 k (by simp [World.setCell]; omega), Below.heap_setCell _ _ _ _ (show k ≠ R + 1 from h3), Below.block H9.out k (by omega)]
     exact HB8.out k h1 h4
    have hbg : w10.heap[g']? = w8.heap[g']? := by
     have e2 := Below.size H9.out
     rw [Below.block h10 g' (by simp [World.setCell]; omega), Below.heap_setCell _ _ _ _ (show g' ≠ R + 1 from hg4), Below.block H9.out g' hgl]
    have hl4 : R + 1 < (w9.setCell ⟨R + 1, 0, none⟩ (.slice (some ⟨g', 0, none⟩) NL vc')).heap.size := by
     have e1 := HM8.out.2.2.2
     have e2 := Below.size H9.out
     simp [World.setCell]
     omega
    have hst := BuI.next (g := g) HI.out HX.out i3 i4 gB HOA.out (h10.os.trans (H9.out.os.trans HM8.out.1)) (h10.tape.trans (H9.out.tape.trans HM8.out.2.1)) (h10.output.trans (H9.out.output.trans HM8.out.2.2.1)) (by
     have e1 := HM8.out.2.2.2
     have e2 := Below.size H9.out
     have e3 := Below.size h10
     simp [World.setCell] at e3
     omega) hbb LN g' vc' (by rw [Below.cell h10 (p := ⟨R + 1, 0, none⟩) hl4, World.cell?_setCell_same _ _ _ C9.out, HNL.out]) (by
     rw [Below.frozen h10 (p := ⟨R + 1, 0, none⟩) hl4, World.frozen?_setCell]
     exact F9.out) (bowns_at HO8.out hbg) Hat8.out hg4
    have HRn := hide (RdO.trans HRd.out hst.1)
    have HIn := hide hst.2
    have HLn : Hid (LN = L2 ++ lgL (clF x n j)) := hide (by rw [← HLN.out]; rfl)
    have HOn : Hid (∀ k, O k → k < w10.heap.size) := fun k hk => Nat.lt_of_lt_of_le (HOA.out k hk) hst.1.size
    have hlN : LN.length ≤ L2.length + (lgN (clF x n j : Int)) := by rw [← HLN.out]; simp
    clear hst hbb hbg hl4 h10 H9 HB8 HM8 Hat8 HO8 HG8 C9 F9 hgl hg4 HLN HNL
    replace HI := HIn
    replace HRd := HRn
    replace HOA := HOn
    have HQ2 := HLn
    clear HIn HRn HOn HLn i3 i4 i5 gB Hi1 Hi2 Hl4 lA HLow l5 l6 Ye
    generalize w10 = A3 at *
    generalize LN = L3 at *
    obtain ⟨⟨g, vc, i1, i2, i3, i4, i5⟩, l4, l5, l6, l7⟩ := HI.out
    have gB := (bowns_lt i2).1
    have Hi1 := hide i1
    have Hi2 := hide i2
    have Hl4 := hide l4
    have lA := l6
    have HLow := hide l7
    have f1 := fun p => cell_reC (X := fun k => k = R + 1 ∨ k = g) ((Below.cell HLow.out (p := ⟨w.heap.size, 0, none⟩) (by show w.heap.size < R; omega)).trans HcL.out) (by rintro (h | h) <;> simp only at h <;> omega) p
    have f2 := fun p => cell_reC (X := fun k => k = R + 1 ∨ k = g) ((Below.cell HLow.out (p := ⟨b, off + j * 3 + 1, none⟩) (by show b < R; omega)).trans (HsV.out.c1 j hj)) (by rintro (h | h) <;> simp only at h <;> omega) p
    have HBd : Hid (BSeg A3 (x j).ad (x j).blk (x j).off (x j).len (x j).f) := hide ((HsV.out.body j hj).below HLow.out (fun h => by have := HsW.out h; omega))
    clear i1 i2 l4 l7
    gi_wp2_with fail
    refine anyK_beginR (fun k => k = R + 1 ∨ k = g) 8 rfl (by kernel_rfl) (by kernel_rfl) (fun ⟨_, _, h⟩ => h) l ?_
    refine anyK_take 1 5 3 rfl (by decide) (by kernel_rfl) (fun _ _ _ _ _ h => h) ?_
    repeat (refine headC_step (fun K hK => ?_); go_simp; refine hK _ ?_; clear hK K)
    refine headC_nil ?_
    clear f1 f2
    refine anyK_one 0 (by kernel_rfl) ?_
    refine stepK_run rfl ?_
    intro Y h3 K2 hK2
    have cX := (Below.cell h3 (p := ⟨R + 1, 0, none⟩) (by show R + 1 < _; omega)).trans Hi1.out
    go_simp
    refine hK2 _ _ (.of_ext h3) ?_
    have Ye := hide h3
    have HSrc := hide (HBd.out.of_all h3)
    clear hK2 K2 cX h3 HBd
    refine anyK_one 6 (by kernel_rfl) ?_
    refine stepK_run rfl ?_
    intro w7 h7 K2 hK2
    have E7 := hide (Ext.trans Ye.out h7)
    have HO7 := hide (bowns_ext0 Hi2.out E7.out)
    have HS7 := hide (HSrc.out.of_all h7)
    rw [if_pos (show _ = true by kernel_rfl)]
    refine wp_appb _ _ rfl R g vc L3 rfl HO7.out (x j).ad (x j).blk (x j).off (x j).len (x j).cap (x j).f rfl HS7.out (by omega) (by have := Below.size E7.out; omega) ?_
    intro g' vc' w8 hO8 hg8 hat8
    refine hK2 _ _ ((Grw.of_ext E7.out).trans (grw_grown hg8 (.inr rfl))) ?_
    clear hK2 K2
    have HB8 : Hid (∀ k, k < A3.heap.size → k ≠ g → w8.heap[k]? = A3.heap[k]?) := fun k hk hn => (hg8.block k (Nat.lt_of_lt_of_le hk (Below.size E7.out)) (by simp; exact fun e => hn e)).trans (Below.block E7.out k hk)
    have HM8 : Hid (w8.os = A3.os ∧ w8.tape = A3.tape ∧ w8.output = A3.output ∧ A3.heap.size ≤ w8.heap.size) := ⟨hg8.os.trans E7.out.os, hg8.tape.trans E7.out.tape, hg8.output.trans E7.out.output, Nat.le_trans (Below.size E7.out) hg8.size⟩
    have Hat8 : Hid (g' = g ∨ A3.heap.size ≤ g') := by
     rcases hat8 with h | h
     ·exact .inl h
     ·exact .inr (by rw [h]; exact Below.size E7.out)
    have HO8 := hide hO8
    have HG8 := hide ((Grw.of_ext (X := (fun k => k = R + 1 ∨ k = g)) E7.out).trans (grw_grown hg8 (.inr rfl)))
    clear hO8 hg8 hat8 HO7 h7 E7 HS7 HSrc
    refine anyK_one 7 (by kernel_rfl) ?_
    refine stepK_run rfl ?_
    intro w9 h9 K2 hK2
    have hb9 : w9.heap[R + 1]? = A3.heap[R + 1]? := (Below.block h9 _ (by have := HM8.out.2.2.2; omega)).trans (HB8.out _ (by omega) (fun e => i5 e.symm))
    have c9 := (World.cell?_of_block (a := ⟨R + 1, 0, none⟩) hb9).trans Hi1.out
    have f9 := (World.frozen?_of_block (a := ⟨R + 1, 0, none⟩) hb9).trans Hl4.out
    have H9 := hide h9
    clear hb9 h9
    obtain ⟨LN, hLN⟩ : ∃ LN, L3 ++ (List.range (x j).len).map (x j).f = LN := ⟨_, rfl⟩
    rw [hLN] at HO8 ⊢
    have HLN := hide hLN
    obtain ⟨NL, hNL⟩ : ∃ NL, LN.length = NL := ⟨_, rfl⟩
    rw [hNL]
    have HNL := hide hNL
    clear hNL hLN
    go_simp
    refine hK2 _ (w9.setCell ⟨R + 1, 0, none⟩ (.slice (some ⟨g', 0, none⟩) NL vc')) ((HG8.out.trans (Grw.of_ext H9.out)).trans (Grw.of_touch ((Touch.refl _ w9).set 0 _) (.inl rfl))) ?_
    have C9 := hide c9
    have F9 := hide f9
    clear hK2 K2 c9 f9
    refine anyK_done (by kernel_rfl) ?_ 0
    intro w10 h10
    have hg4 : g' ≠ R + 1 := by
     rcases Hat8.out with h | h
     ·rw [h]; exact i5
     ·omega
    have hgl : g' < w8.heap.size := (bowns_lt HO8.out).2.1
    have hbb : ∀ k, k < A3.heap.size → k ≠ R + 1 → k ≠ g → w10.heap[k]? = A3.heap[k]? := fun k h1 h3 h4 => by
     have e1 := HM8.out.2.2.2
     have e2 := Below.size H9.out
     rw [Below.block h10 k (by simp [World.setCell]; omega), Below.heap_setCell _ _ _ _ (show k ≠ R + 1 from h3), Below.block H9.out k (by omega)]
     exact HB8.out k h1 h4
    have hbg : w10.heap[g']? = w8.heap[g']? := by
     have e2 := Below.size H9.out
     rw [Below.block h10 g' (by simp [World.setCell]; omega), Below.heap_setCell _ _ _ _ (show g' ≠ R + 1 from hg4), Below.block H9.out g' hgl]
    have hl4 : R + 1 < (w9.setCell ⟨R + 1, 0, none⟩ (.slice (some ⟨g', 0, none⟩) NL vc')).heap.size := by
     have e1 := HM8.out.2.2.2
     have e2 := Below.size H9.out
     simp [World.setCell]
     omega
    have hst := BuI.next (g := g) HI.out HX.out i3 i4 gB HOA.out (h10.os.trans (H9.out.os.trans HM8.out.1)) (h10.tape.trans (H9.out.tape.trans HM8.out.2.1)) (h10.output.trans (H9.out.output.trans HM8.out.2.2.1)) (by
     have e1 := HM8.out.2.2.2
     have e2 := Below.size H9.out
     have e3 := Below.size h10
     simp [World.setCell] at e3
     omega) hbb LN g' vc' (by rw [Below.cell h10 (p := ⟨R + 1, 0, none⟩) hl4, World.cell?_setCell_same _ _ _ C9.out, HNL.out]) (by
     rw [Below.frozen h10 (p := ⟨R + 1, 0, none⟩) hl4, World.frozen?_setCell]
     exact F9.out) (bowns_at HO8.out hbg) Hat8.out hg4
    have HRn := hide (RdO.trans HRd.out hst.1)
    have HIn := hide hst.2
    have HLn : Hid (LN = L3 ++ boL (x j)) := hide (by rw [← HLN.out]; rfl)
    have HOn : Hid (∀ k, O k → k < w10.heap.size) := fun k hk => Nat.lt_of_lt_of_le (HOA.out k hk) hst.1.size
    have hlN : LN.length ≤ L3.length + (x j).len := by rw [← HLN.out]; simp
    clear hst hbb hbg hl4 h10 H9 HB8 HM8 Hat8 HO8 HG8 C9 F9 hgl hg4 HLN HNL
    refine (?_ : RdO (XB (R + 1 + 1 + 1) (R + 1 + 1) b) O A1 w10 ∧ BuI V R (XB (R + 1 + 1 + 1) (R + 1 + 1) b) O (prL x n (pre ++ [(⟨(j, r), hj⟩ : Pl n)])) w10)
    have hfin : prL x n (pre ++ [(⟨(j, r), hj⟩ : Pl n)]) = LN := by
     rw [prL_push, HL1e.out, HLn.out, HQ2.out, HQ1.out]
     show L1 ++ hdL x n j = _
     simp [hdL]
    rw [hfin]
    exact ⟨HRn.out, HIn.out⟩
   ·refine stepK_run rfl ?_
    intro w5 h5 K2 hK2
    go_simp
    refine (HLb.out w5).mono ?_
    rintro e Y0 ⟨vv, rfl, hvo, hvE⟩
    obtain ⟨sa, sg, sc, rfl, -, -, -, hvb⟩ := owns_seg hvo
    go_simp
    refine hK2 _ _ (.of_ext (Ext.trans h5 hvE)) ?_
    have H3 := hide (Ext.trans h5 hvE)
    have HS0 := hide hvb.toBSeg
    clear hK2 K2 hvo hvE hvb h5
    refine anyK_one 0 (by kernel_rfl) ?_
    refine stepK_run rfl ?_
    intro Y h3 K2 hK2
    have cX := (Below.cell (Ext.trans H3.out h3) (p := ⟨R + 1, 0, none⟩) (by show R + 1 < _; omega)).trans Hi1.out
    go_simp
    refine hK2 _ _ (.of_ext (Ext.trans H3.out h3)) ?_
    have Ye := hide (Ext.trans H3.out h3)
    have HSrc := hide (HS0.out.of_all h3)
    clear hK2 K2 cX h3 HS0 H3
    refine anyK_one 6 (by kernel_rfl) ?_
    refine stepK_run rfl ?_
    intro w7 h7 K2 hK2
    have E7 := hide (Ext.trans Ye.out h7)
    have HO7 := hide (bowns_ext0 Hi2.out E7.out)
    have HS7 := hide (HSrc.out.of_all h7)
    rw [if_pos (show _ = true by kernel_rfl)]
    refine wp_appb _ _ rfl R g vc L2 rfl HO7.out sa sg 0 (lgN (clF x n j : Int)) sc (lgF (clF x n j : Int)) rfl HS7.out (by omega) (by have := Below.size E7.out; omega) ?_
    intro g' vc' w8 hO8 hg8 hat8
    refine hK2 _ _ ((Grw.of_ext E7.out).trans (grw_grown hg8 (.inr rfl))) ?_
    clear hK2 K2
    have HB8 : Hid (∀ k, k < A2.heap.size → k ≠ g → w8.heap[k]? = A2.heap[k]?) := fun k hk hn => (hg8.block k (Nat.lt_of_lt_of_le hk (Below.size E7.out)) (by simp; exact fun e => hn e)).trans (Below.block E7.out k hk)
    have HM8 : Hid (w8.os = A2.os ∧ w8.tape = A2.tape ∧ w8.output = A2.output ∧ A2.heap.size ≤ w8.heap.size) := ⟨hg8.os.trans E7.out.os, hg8.tape.trans E7.out.tape, hg8.output.trans E7.out.output, Nat.le_trans (Below.size E7.out) hg8.size⟩
    have Hat8 : Hid (g' = g ∨ A2.heap.size ≤ g') := by
     rcases hat8 with h | h
     ·exact .inl h
     ·exact .inr (by rw [h]; exact Below.size E7.out)
    have HO8 := hide hO8
    have HG8 := hide ((Grw.of_ext (X := (fun k => k = R + 1 ∨ k = g)) E7.out).trans (grw_grown hg8 (.inr rfl)))
    clear hO8 hg8 hat8 HO7 h7 E7 HS7 HSrc
    refine anyK_one 7 (by kernel_rfl) ?_
    refine stepK_run rfl ?_
    intro w9 h9 K2 hK2
    have hb9 : w9.heap[R + 1]? = A2.heap[R + 1]? := (Below.block h9 _ (by have := HM8.out.2.2.2; omega)).trans (HB8.out _ (by omega) (fun e => i5 e.symm))
    have c9 := (World.cell?_of_block (a := ⟨R + 1, 0, none⟩) hb9).trans Hi1.out
    have f9 := (World.frozen?_of_block (a := ⟨R + 1, 0, none⟩) hb9).trans Hl4.out
    have H9 := hide h9
    clear hb9 h9
    obtain ⟨LN, hLN⟩ : ∃ LN, L2 ++ (List.range (lgN (clF x n j : Int))).map (lgF (clF x n j : Int)) = LN := ⟨_, rfl⟩
    rw [hLN] at HO8 ⊢
    have HLN := hide hLN
    obtain ⟨NL, hNL⟩ : ∃ NL, LN.length = NL := ⟨_, rfl⟩
    rw [hNL]
    have HNL := hide hNL
    clear hNL hLN
    go_simp
    refine hK2 _ (w9.setCell ⟨R + 1, 0, none⟩ (.slice (some ⟨g', 0, none⟩) NL vc')) ((HG8.out.trans (Grw.of_ext H9.out)).trans (Grw.of_touch ((Touch.refl _ w9).set 0 _) (.inl rfl))) ?_
    have C9 := hide c9
    have F9 := hide f9
    clear hK2 K2 c9 f9
    refine anyK_done (by kernel_rfl) ?_ 0
    intro w10 h10
    have hg4 : g' ≠ R + 1 := by
     rcases Hat8.out with h | h
     ·rw [h]; exact i5
     ·omega
    have hgl : g' < w8.heap.size := (bowns_lt HO8.out).2.1
    have hbb : ∀ k, k < A2.heap.size → k ≠ R + 1 → k ≠ g → w10.heap[k]? = A2.heap[k]? := fun k h1 h3 h4 => by
     have e1 := HM8.out.2.2.2
     have e2 := Below.size H9.out
     rw [Below.block h10 k (by simp [World.setCell]; omega), Below.heap_setCell _ _ _ _ (show k ≠ R + 1 from h3), Below.block H9.out k (by omega)]
     exact HB8.out k h1 h4
    have hbg : w10.heap[g']? = w8.heap[g']? := by
     have e2 := Below.size H9.out
     rw [Below.block h10 g' (by simp [World.setCell]; omega), Below.heap_setCell _ _ _ _ (show g' ≠ R + 1 from hg4), Below.block H9.out g' hgl]
    have hl4 : R + 1 < (w9.setCell ⟨R + 1, 0, none⟩ (.slice (some ⟨g', 0, none⟩) NL vc')).heap.size := by
     have e1 := HM8.out.2.2.2
     have e2 := Below.size H9.out
     simp [World.setCell]
     omega
    have hst := BuI.next (g := g) HI.out HX.out i3 i4 gB HOA.out (h10.os.trans (H9.out.os.trans HM8.out.1)) (h10.tape.trans (H9.out.tape.trans HM8.out.2.1)) (h10.output.trans (H9.out.output.trans HM8.out.2.2.1)) (by
     have e1 := HM8.out.2.2.2
     have e2 := Below.size H9.out
     have e3 := Below.size h10
     simp [World.setCell] at e3
     omega) hbb LN g' vc' (by rw [Below.cell h10 (p := ⟨R + 1, 0, none⟩) hl4, World.cell?_setCell_same _ _ _ C9.out, HNL.out]) (by
     rw [Below.frozen h10 (p := ⟨R + 1, 0, none⟩) hl4, World.frozen?_setCell]
     exact F9.out) (bowns_at HO8.out hbg) Hat8.out hg4
    have HRn := hide (RdO.trans HRd.out hst.1)
    have HIn := hide hst.2
    have HLn : Hid (LN = L2 ++ lgL (clF x n j)) := hide (by rw [← HLN.out]; rfl)
    have HOn : Hid (∀ k, O k → k < w10.heap.size) := fun k hk => Nat.lt_of_lt_of_le (HOA.out k hk) hst.1.size
    have hlN : LN.length ≤ L2.length + (lgN (clF x n j : Int)) := by rw [← HLN.out]; simp
    clear hst hbb hbg hl4 h10 H9 HB8 HM8 Hat8 HO8 HG8 C9 F9 hgl hg4 HLN HNL
    replace HI := HIn
    replace HRd := HRn
    replace HOA := HOn
    have HQ2 := HLn
    clear HIn HRn HOn HLn i3 i4 i5 gB Hi1 Hi2 Hl4 lA HLow l5 l6 Ye
    generalize w10 = A3 at *
    generalize LN = L3 at *
    obtain ⟨⟨g, vc, i1, i2, i3, i4, i5⟩, l4, l5, l6, l7⟩ := HI.out
    have gB := (bowns_lt i2).1
    have Hi1 := hide i1
    have Hi2 := hide i2
    have Hl4 := hide l4
    have lA := l6
    have HLow := hide l7
    have f1 := fun p => cell_reC (X := fun k => k = R + 1 ∨ k = g) ((Below.cell HLow.out (p := ⟨w.heap.size, 0, none⟩) (by show w.heap.size < R; omega)).trans HcL.out) (by rintro (h | h) <;> simp only at h <;> omega) p
    have f2 := fun p => cell_reC (X := fun k => k = R + 1 ∨ k = g) ((Below.cell HLow.out (p := ⟨b, off + j * 3 + 1, none⟩) (by show b < R; omega)).trans (HsV.out.c1 j hj)) (by rintro (h | h) <;> simp only at h <;> omega) p
    have HBd : Hid (BSeg A3 (x j).ad (x j).blk (x j).off (x j).len (x j).f) := hide ((HsV.out.body j hj).below HLow.out (fun h => by have := HsW.out h; omega))
    clear i1 i2 l4 l7
    gi_wp2_with fail
    refine anyK_beginR (fun k => k = R + 1 ∨ k = g) 8 rfl (by kernel_rfl) (by kernel_rfl) (fun ⟨_, _, h⟩ => h) l ?_
    refine anyK_take 1 5 3 rfl (by decide) (by kernel_rfl) (fun _ _ _ _ _ h => h) ?_
    repeat (refine headC_step (fun K hK => ?_); go_simp; refine hK _ ?_; clear hK K)
    refine headC_nil ?_
    clear f1 f2
    refine anyK_one 0 (by kernel_rfl) ?_
    refine stepK_run rfl ?_
    intro Y h3 K2 hK2
    have cX := (Below.cell h3 (p := ⟨R + 1, 0, none⟩) (by show R + 1 < _; omega)).trans Hi1.out
    go_simp
    refine hK2 _ _ (.of_ext h3) ?_
    have Ye := hide h3
    have HSrc := hide (HBd.out.of_all h3)
    clear hK2 K2 cX h3 HBd
    refine anyK_one 6 (by kernel_rfl) ?_
    refine stepK_run rfl ?_
    intro w7 h7 K2 hK2
    have E7 := hide (Ext.trans Ye.out h7)
    have HO7 := hide (bowns_ext0 Hi2.out E7.out)
    have HS7 := hide (HSrc.out.of_all h7)
    rw [if_pos (show _ = true by kernel_rfl)]
    refine wp_appb _ _ rfl R g vc L3 rfl HO7.out (x j).ad (x j).blk (x j).off (x j).len (x j).cap (x j).f rfl HS7.out (by omega) (by have := Below.size E7.out; omega) ?_
    intro g' vc' w8 hO8 hg8 hat8
    refine hK2 _ _ ((Grw.of_ext E7.out).trans (grw_grown hg8 (.inr rfl))) ?_
    clear hK2 K2
    have HB8 : Hid (∀ k, k < A3.heap.size → k ≠ g → w8.heap[k]? = A3.heap[k]?) := fun k hk hn => (hg8.block k (Nat.lt_of_lt_of_le hk (Below.size E7.out)) (by simp; exact fun e => hn e)).trans (Below.block E7.out k hk)
    have HM8 : Hid (w8.os = A3.os ∧ w8.tape = A3.tape ∧ w8.output = A3.output ∧ A3.heap.size ≤ w8.heap.size) := ⟨hg8.os.trans E7.out.os, hg8.tape.trans E7.out.tape, hg8.output.trans E7.out.output, Nat.le_trans (Below.size E7.out) hg8.size⟩
    have Hat8 : Hid (g' = g ∨ A3.heap.size ≤ g') := by
     rcases hat8 with h | h
     ·exact .inl h
     ·exact .inr (by rw [h]; exact Below.size E7.out)
    have HO8 := hide hO8
    have HG8 := hide ((Grw.of_ext (X := (fun k => k = R + 1 ∨ k = g)) E7.out).trans (grw_grown hg8 (.inr rfl)))
    clear hO8 hg8 hat8 HO7 h7 E7 HS7 HSrc
    refine anyK_one 7 (by kernel_rfl) ?_
    refine stepK_run rfl ?_
    intro w9 h9 K2 hK2
    have hb9 : w9.heap[R + 1]? = A3.heap[R + 1]? := (Below.block h9 _ (by have := HM8.out.2.2.2; omega)).trans (HB8.out _ (by omega) (fun e => i5 e.symm))
    have c9 := (World.cell?_of_block (a := ⟨R + 1, 0, none⟩) hb9).trans Hi1.out
    have f9 := (World.frozen?_of_block (a := ⟨R + 1, 0, none⟩) hb9).trans Hl4.out
    have H9 := hide h9
    clear hb9 h9
    obtain ⟨LN, hLN⟩ : ∃ LN, L3 ++ (List.range (x j).len).map (x j).f = LN := ⟨_, rfl⟩
    rw [hLN] at HO8 ⊢
    have HLN := hide hLN
    obtain ⟨NL, hNL⟩ : ∃ NL, LN.length = NL := ⟨_, rfl⟩
    rw [hNL]
    have HNL := hide hNL
    clear hNL hLN
    go_simp
    refine hK2 _ (w9.setCell ⟨R + 1, 0, none⟩ (.slice (some ⟨g', 0, none⟩) NL vc')) ((HG8.out.trans (Grw.of_ext H9.out)).trans (Grw.of_touch ((Touch.refl _ w9).set 0 _) (.inl rfl))) ?_
    have C9 := hide c9
    have F9 := hide f9
    clear hK2 K2 c9 f9
    refine anyK_done (by kernel_rfl) ?_ 0
    intro w10 h10
    have hg4 : g' ≠ R + 1 := by
     rcases Hat8.out with h | h
     ·rw [h]; exact i5
     ·omega
    have hgl : g' < w8.heap.size := (bowns_lt HO8.out).2.1
    have hbb : ∀ k, k < A3.heap.size → k ≠ R + 1 → k ≠ g → w10.heap[k]? = A3.heap[k]? := fun k h1 h3 h4 => by
     have e1 := HM8.out.2.2.2
     have e2 := Below.size H9.out
     rw [Below.block h10 k (by simp [World.setCell]; omega), Below.heap_setCell _ _ _ _ (show k ≠ R + 1 from h3), Below.block H9.out k (by omega)]
     exact HB8.out k h1 h4
    have hbg : w10.heap[g']? = w8.heap[g']? := by
     have e2 := Below.size H9.out
     rw [Below.block h10 g' (by simp [World.setCell]; omega), Below.heap_setCell _ _ _ _ (show g' ≠ R + 1 from hg4), Below.block H9.out g' hgl]
    have hl4 : R + 1 < (w9.setCell ⟨R + 1, 0, none⟩ (.slice (some ⟨g', 0, none⟩) NL vc')).heap.size := by
     have e1 := HM8.out.2.2.2
     have e2 := Below.size H9.out
     simp [World.setCell]
     omega
    have hst := BuI.next (g := g) HI.out HX.out i3 i4 gB HOA.out (h10.os.trans (H9.out.os.trans HM8.out.1)) (h10.tape.trans (H9.out.tape.trans HM8.out.2.1)) (h10.output.trans (H9.out.output.trans HM8.out.2.2.1)) (by
     have e1 := HM8.out.2.2.2
     have e2 := Below.size H9.out
     have e3 := Below.size h10
     simp [World.setCell] at e3
     omega) hbb LN g' vc' (by rw [Below.cell h10 (p := ⟨R + 1, 0, none⟩) hl4, World.cell?_setCell_same _ _ _ C9.out, HNL.out]) (by
     rw [Below.frozen h10 (p := ⟨R + 1, 0, none⟩) hl4, World.frozen?_setCell]
     exact F9.out) (bowns_at HO8.out hbg) Hat8.out hg4
    have HRn := hide (RdO.trans HRd.out hst.1)
    have HIn := hide hst.2
    have HLn : Hid (LN = L3 ++ boL (x j)) := hide (by rw [← HLN.out]; rfl)
    have HOn : Hid (∀ k, O k → k < w10.heap.size) := fun k hk => Nat.lt_of_lt_of_le (HOA.out k hk) hst.1.size
    have hlN : LN.length ≤ L3.length + (x j).len := by rw [← HLN.out]; simp
    clear hst hbb hbg hl4 h10 H9 HB8 HM8 Hat8 HO8 HG8 C9 F9 hgl hg4 HLN HNL
    refine (?_ : RdO (XB (R + 1 + 1 + 1) (R + 1 + 1) b) O A1 w10 ∧ BuI V R (XB (R + 1 + 1 + 1) (R + 1 + 1) b) O (prL x n (pre ++ [(⟨(j, r), hj⟩ : Pl n)])) w10)
    have hfin : prL x n (pre ++ [(⟨(j, r), hj⟩ : Pl n)]) = LN := by
     rw [prL_push, HL1e.out, HLn.out, HQ2.out, HQ1.out]
     show L1 ++ hdL x n j = _
     simp [hdL]
    rw [hfin]
    exact ⟨HRn.out, HIn.out⟩
  ·refine stepK_run rfl ?_
   intro w5 h5 K2 hK2
   go_simp
   refine hK2 _ _ (.of_ext (Ext.trans h5 (Ext.alloc _ _))) ?_
   clear hK2 K2
   have H3 := hide (Ext.trans h5 (Ext.alloc w5 (.cells #[.int .u8 (x j).tag] 5)))
   have HS0 : Hid (BSeg (w5.alloc (.cells #[.int .u8 (x j).tag] 5)) (some ⟨w5.heap.size, 0, none⟩) w5.heap.size 0 1 (fun _ => (x j).tag)) := ⟨fun _ => rfl, fun q hq => by
    obtain rfl : q = 0 := by omega
    exact ((Blk.alloc w5 [.int .u8 (x j).tag] 5) 0 _ rfl).1⟩
   generalize w5.alloc (.cells #[.int .u8 (x j).tag] 5) = Y0 at *
   generalize w5.heap.size = SL at *
   clear h5
   refine anyK_one 0 (by kernel_rfl) ?_
   refine stepK_run rfl ?_
   intro Y h3 K2 hK2
   have cX := (Below.cell (Ext.trans H3.out h3) (p := ⟨R + 1, 0, none⟩) (by show R + 1 < _; omega)).trans Hi1.out
   go_simp
   refine hK2 _ _ (.of_ext (Ext.trans H3.out h3)) ?_
   have Ye := hide (Ext.trans H3.out h3)
   have HSrc := hide (HS0.out.of_all h3)
   clear hK2 K2 cX h3 HS0 H3
   refine anyK_one 8 (by kernel_rfl) ?_
   refine stepK_run rfl ?_
   intro w7 h7 K2 hK2
   have E7 := hide (Ext.trans Ye.out h7)
   have HO7 := hide (bowns_ext0 Hi2.out E7.out)
   have HS7 := hide (HSrc.out.of_all h7)
   rw [if_pos (show _ = true by kernel_rfl)]
   refine wp_appb _ _ rfl R g vc L1 rfl HO7.out (some ⟨SL, 0, none⟩) SL 0 1 1 (fun _ => (x j).tag) rfl HS7.out (by omega) (by have := Below.size E7.out; omega) ?_
   intro g' vc' w8 hO8 hg8 hat8
   refine hK2 _ _ ((Grw.of_ext E7.out).trans (grw_grown hg8 (.inr rfl))) ?_
   clear hK2 K2
   have HB8 : Hid (∀ k, k < A1.heap.size → k ≠ g → w8.heap[k]? = A1.heap[k]?) := fun k hk hn => (hg8.block k (Nat.lt_of_lt_of_le hk (Below.size E7.out)) (by simp; exact fun e => hn e)).trans (Below.block E7.out k hk)
   have HM8 : Hid (w8.os = A1.os ∧ w8.tape = A1.tape ∧ w8.output = A1.output ∧ A1.heap.size ≤ w8.heap.size) := ⟨hg8.os.trans E7.out.os, hg8.tape.trans E7.out.tape, hg8.output.trans E7.out.output, Nat.le_trans (Below.size E7.out) hg8.size⟩
   have Hat8 : Hid (g' = g ∨ A1.heap.size ≤ g') := by
    rcases hat8 with h | h
    ·exact .inl h
    ·exact .inr (by rw [h]; exact Below.size E7.out)
   have HO8 := hide hO8
   have HG8 := hide ((Grw.of_ext (X := (fun k => k = R + 1 ∨ k = g)) E7.out).trans (grw_grown hg8 (.inr rfl)))
   clear hO8 hg8 hat8 HO7 h7 E7 HS7 HSrc
   refine anyK_one 9 (by kernel_rfl) ?_
   refine stepK_run rfl ?_
   intro w9 h9 K2 hK2
   have hb9 : w9.heap[R + 1]? = A1.heap[R + 1]? := (Below.block h9 _ (by have := HM8.out.2.2.2; omega)).trans (HB8.out _ (by omega) (fun e => i5 e.symm))
   have c9 := (World.cell?_of_block (a := ⟨R + 1, 0, none⟩) hb9).trans Hi1.out
   have f9 := (World.frozen?_of_block (a := ⟨R + 1, 0, none⟩) hb9).trans Hl4.out
   have H9 := hide h9
   clear hb9 h9
   obtain ⟨LN, hLN⟩ : ∃ LN, L1 ++ (List.range 1).map (fun _ => (x j).tag) = LN := ⟨_, rfl⟩
   rw [hLN] at HO8 ⊢
   have HLN := hide hLN
   obtain ⟨NL, hNL⟩ : ∃ NL, LN.length = NL := ⟨_, rfl⟩
   rw [hNL]
   have HNL := hide hNL
   clear hNL hLN
   go_simp
   refine hK2 _ (w9.setCell ⟨R + 1, 0, none⟩ (.slice (some ⟨g', 0, none⟩) NL vc')) ((HG8.out.trans (Grw.of_ext H9.out)).trans (Grw.of_touch ((Touch.refl _ w9).set 0 _) (.inl rfl))) ?_
   have C9 := hide c9
   have F9 := hide f9
   clear hK2 K2 c9 f9
   refine anyK_done (by kernel_rfl) ?_ 0
   intro w10 h10
   have hg4 : g' ≠ R + 1 := by
    rcases Hat8.out with h | h
    ·rw [h]; exact i5
    ·omega
   have hgl : g' < w8.heap.size := (bowns_lt HO8.out).2.1
   have hbb : ∀ k, k < A1.heap.size → k ≠ R + 1 → k ≠ g → w10.heap[k]? = A1.heap[k]? := fun k h1 h3 h4 => by
    have e1 := HM8.out.2.2.2
    have e2 := Below.size H9.out
    rw [Below.block h10 k (by simp [World.setCell]; omega), Below.heap_setCell _ _ _ _ (show k ≠ R + 1 from h3), Below.block H9.out k (by omega)]
    exact HB8.out k h1 h4
   have hbg : w10.heap[g']? = w8.heap[g']? := by
    have e2 := Below.size H9.out
    rw [Below.block h10 g' (by simp [World.setCell]; omega), Below.heap_setCell _ _ _ _ (show g' ≠ R + 1 from hg4), Below.block H9.out g' hgl]
   have hl4 : R + 1 < (w9.setCell ⟨R + 1, 0, none⟩ (.slice (some ⟨g', 0, none⟩) NL vc')).heap.size := by
    have e1 := HM8.out.2.2.2
    have e2 := Below.size H9.out
    simp [World.setCell]
    omega
   have hst := BuI.next (g := g) HI.out HX.out i3 i4 gB HOA.out (h10.os.trans (H9.out.os.trans HM8.out.1)) (h10.tape.trans (H9.out.tape.trans HM8.out.2.1)) (h10.output.trans (H9.out.output.trans HM8.out.2.2.1)) (by
    have e1 := HM8.out.2.2.2
    have e2 := Below.size H9.out
    have e3 := Below.size h10
    simp [World.setCell] at e3
    omega) hbb LN g' vc' (by rw [Below.cell h10 (p := ⟨R + 1, 0, none⟩) hl4, World.cell?_setCell_same _ _ _ C9.out, HNL.out]) (by
    rw [Below.frozen h10 (p := ⟨R + 1, 0, none⟩) hl4, World.frozen?_setCell]
    exact F9.out) (bowns_at HO8.out hbg) Hat8.out hg4
   have HRn := hide (RdO.trans HRd.out hst.1)
   have HIn := hide hst.2
   have HLn : Hid (LN = L1 ++ [(x j).tag]) := hide (by rw [← HLN.out]; rfl)
   have HOn : Hid (∀ k, O k → k < w10.heap.size) := fun k hk => Nat.lt_of_lt_of_le (HOA.out k hk) hst.1.size
   have hlN : LN.length ≤ L1.length + 1 := by rw [← HLN.out]; simp
   clear hst hbb hbg hl4 h10 H9 HB8 HM8 Hat8 HO8 HG8 C9 F9 hgl hg4 HLN HNL
   replace HI := HIn
   replace HRd := HRn
   replace HOA := HOn
   have HQ1 := HLn
   clear HIn HRn HOn HLn i3 i4 i5 gB Hi1 Hi2 Hl4 lA HLow l5 l6 Ye
   generalize w10 = A2 at *
   generalize LN = L2 at *
   obtain ⟨⟨g, vc, i1, i2, i3, i4, i5⟩, l4, l5, l6, l7⟩ := HI.out
   have gB := (bowns_lt i2).1
   have Hi1 := hide i1
   have Hi2 := hide i2
   have Hl4 := hide l4
   have lA := l6
   have HLow := hide l7
   have f1 := fun p => cell_reC (X := fun k => k = R + 1 ∨ k = g) ((Below.cell HLow.out (p := ⟨P4, 0, none⟩) (by show P4 < R; omega)).trans HcP.out) (by rintro (h | h) <;> simp only at h <;> omega) p
   have f2 := fun p => cell_reC (X := fun k => k = R + 1 ∨ k = g) ((Below.cell HLow.out (p := ⟨PR, 0 + j, none⟩) (by show PR < R; omega)).trans (HsL.out.cell j hj)) (by rintro (h | h) <;> simp only at h <;> omega) p
   rw [Nat.zero_add] at f2
   clear i1 i2 l4 l7
   gi_wp2_with fail
   refine anyK_beginR (fun k => k = R + 1 ∨ k = g) 8 rfl (by kernel_rfl) (by kernel_rfl) (fun ⟨_, _, h⟩ => h) l ?_
   refine anyK_take 1 4 4 rfl (by decide) (by kernel_rfl) (fun _ _ _ _ _ h => h) ?_
   repeat (refine headC_step (fun K hK => ?_); go_simp; refine hK _ ?_; clear hK K)
   refine headC_nil ?_
   clear f1 f2
   refine anyK_two 0 5 (by kernel_rfl) ?_ ?_
   ·refine stepK_run rfl ?_
    intro w3' h3 K2 hK2
    have cX := (Below.cell h3 (p := ⟨R + 1, 0, none⟩) (by show R + 1 < _; omega)).trans Hi1.out
    go_simp
    refine hK2 _ _ (.of_ext h3) ?_
    have H3 := hide h3
    clear hK2 K2 cX h3
    refine anyK_one 5 (by kernel_rfl) ?_
    refine stepK_run rfl ?_
    intro w5 h5 K2 hK2
    go_simp
    refine (HLb.out w5).mono ?_
    rintro e Y ⟨vv, rfl, hvo, hvE⟩
    obtain ⟨sa, sg, sc, rfl, -, -, -, hvb⟩ := owns_seg hvo
    go_simp
    refine hK2 _ _ (.of_ext (Ext.trans H3.out (Ext.trans h5 hvE))) ?_
    have Ye := hide (Ext.trans H3.out (Ext.trans h5 hvE))
    have HSrc := hide hvb.toBSeg
    clear hK2 K2 hvo hvE hvb h5 H3
    refine anyK_one 6 (by kernel_rfl) ?_
    refine stepK_run rfl ?_
    intro w7 h7 K2 hK2
    have E7 := hide (Ext.trans Ye.out h7)
    have HO7 := hide (bowns_ext0 Hi2.out E7.out)
    have HS7 := hide (HSrc.out.of_all h7)
    rw [if_pos (show _ = true by kernel_rfl)]
    refine wp_appb _ _ rfl R g vc L2 rfl HO7.out sa sg 0 (lgN (clF x n j : Int)) sc (lgF (clF x n j : Int)) rfl HS7.out (by omega) (by have := Below.size E7.out; omega) ?_
    intro g' vc' w8 hO8 hg8 hat8
    refine hK2 _ _ ((Grw.of_ext E7.out).trans (grw_grown hg8 (.inr rfl))) ?_
    clear hK2 K2
    have HB8 : Hid (∀ k, k < A2.heap.size → k ≠ g → w8.heap[k]? = A2.heap[k]?) := fun k hk hn => (hg8.block k (Nat.lt_of_lt_of_le hk (Below.size E7.out)) (by simp; exact fun e => hn e)).trans (Below.block E7.out k hk)
    have HM8 : Hid (w8.os = A2.os ∧ w8.tape = A2.tape ∧ w8.output = A2.output ∧ A2.heap.size ≤ w8.heap.size) := ⟨hg8.os.trans E7.out.os, hg8.tape.trans E7.out.tape, hg8.output.trans E7.out.output, Nat.le_trans (Below.size E7.out) hg8.size⟩
    have Hat8 : Hid (g' = g ∨ A2.heap.size ≤ g') := by
     rcases hat8 with h | h
     ·exact .inl h
     ·exact .inr (by rw [h]; exact Below.size E7.out)
    have HO8 := hide hO8
    have HG8 := hide ((Grw.of_ext (X := (fun k => k = R + 1 ∨ k = g)) E7.out).trans (grw_grown hg8 (.inr rfl)))
    clear hO8 hg8 hat8 HO7 h7 E7 HS7 HSrc
    refine anyK_one 7 (by kernel_rfl) ?_
    refine stepK_run rfl ?_
    intro w9 h9 K2 hK2
    have hb9 : w9.heap[R + 1]? = A2.heap[R + 1]? := (Below.block h9 _ (by have := HM8.out.2.2.2; omega)).trans (HB8.out _ (by omega) (fun e => i5 e.symm))
    have c9 := (World.cell?_of_block (a := ⟨R + 1, 0, none⟩) hb9).trans Hi1.out
    have f9 := (World.frozen?_of_block (a := ⟨R + 1, 0, none⟩) hb9).trans Hl4.out
    have H9 := hide h9
    clear hb9 h9
    obtain ⟨LN, hLN⟩ : ∃ LN, L2 ++ (List.range (lgN (clF x n j : Int))).map (lgF (clF x n j : Int)) = LN := ⟨_, rfl⟩
    rw [hLN] at HO8 ⊢
    have HLN := hide hLN
    obtain ⟨NL, hNL⟩ : ∃ NL, LN.length = NL := ⟨_, rfl⟩
    rw [hNL]
    have HNL := hide hNL
    clear hNL hLN
    go_simp
    refine hK2 _ (w9.setCell ⟨R + 1, 0, none⟩ (.slice (some ⟨g', 0, none⟩) NL vc')) ((HG8.out.trans (Grw.of_ext H9.out)).trans (Grw.of_touch ((Touch.refl _ w9).set 0 _) (.inl rfl))) ?_
    have C9 := hide c9
    have F9 := hide f9
    clear hK2 K2 c9 f9
    refine anyK_done (by kernel_rfl) ?_ 0
    intro w10 h10
    have hg4 : g' ≠ R + 1 := by
     rcases Hat8.out with h | h
     ·rw [h]; exact i5
     ·omega
    have hgl : g' < w8.heap.size := (bowns_lt HO8.out).2.1
    have hbb : ∀ k, k < A2.heap.size → k ≠ R + 1 → k ≠ g → w10.heap[k]? = A2.heap[k]? := fun k h1 h3 h4 => by
     have e1 := HM8.out.2.2.2
     have e2 := Below.size H9.out
     rw [Below.block h10 k (by simp [World.setCell]; omega), Below.heap_setCell _ _ _ _ (show k ≠ R + 1 from h3), Below.block H9.out k (by omega)]
     exact HB8.out k h1 h4
    have hbg : w10.heap[g']? = w8.heap[g']? := by
     have e2 := Below.size H9.out
     rw [Below.block h10 g' (by simp [World.setCell]; omega), Below.heap_setCell _ _ _ _ (show g' ≠ R + 1 from hg4), Below.block H9.out g' hgl]
    have hl4 : R + 1 < (w9.setCell ⟨R + 1, 0, none⟩ (.slice (some ⟨g', 0, none⟩) NL vc')).heap.size := by
     have e1 := HM8.out.2.2.2
     have e2 := Below.size H9.out
     simp [World.setCell]
     omega
    have hst := BuI.next (g := g) HI.out HX.out i3 i4 gB HOA.out (h10.os.trans (H9.out.os.trans HM8.out.1)) (h10.tape.trans (H9.out.tape.trans HM8.out.2.1)) (h10.output.trans (H9.out.output.trans HM8.out.2.2.1)) (by
     have e1 := HM8.out.2.2.2
     have e2 := Below.size H9.out
     have e3 := Below.size h10
     simp [World.setCell] at e3
     omega) hbb LN g' vc' (by rw [Below.cell h10 (p := ⟨R + 1, 0, none⟩) hl4, World.cell?_setCell_same _ _ _ C9.out, HNL.out]) (by
     rw [Below.frozen h10 (p := ⟨R + 1, 0, none⟩) hl4, World.frozen?_setCell]
     exact F9.out) (bowns_at HO8.out hbg) Hat8.out hg4
    have HRn := hide (RdO.trans HRd.out hst.1)
    have HIn := hide hst.2
    have HLn : Hid (LN = L2 ++ lgL (clF x n j)) := hide (by rw [← HLN.out]; rfl)
    have HOn : Hid (∀ k, O k → k < w10.heap.size) := fun k hk => Nat.lt_of_lt_of_le (HOA.out k hk) hst.1.size
    have hlN : LN.length ≤ L2.length + (lgN (clF x n j : Int)) := by rw [← HLN.out]; simp
    clear hst hbb hbg hl4 h10 H9 HB8 HM8 Hat8 HO8 HG8 C9 F9 hgl hg4 HLN HNL
    replace HI := HIn
    replace HRd := HRn
    replace HOA := HOn
    have HQ2 := HLn
    clear HIn HRn HOn HLn i3 i4 i5 gB Hi1 Hi2 Hl4 lA HLow l5 l6 Ye
    generalize w10 = A3 at *
    generalize LN = L3 at *
    obtain ⟨⟨g, vc, i1, i2, i3, i4, i5⟩, l4, l5, l6, l7⟩ := HI.out
    have gB := (bowns_lt i2).1
    have Hi1 := hide i1
    have Hi2 := hide i2
    have Hl4 := hide l4
    have lA := l6
    have HLow := hide l7
    have f1 := fun p => cell_reC (X := fun k => k = R + 1 ∨ k = g) ((Below.cell HLow.out (p := ⟨w.heap.size, 0, none⟩) (by show w.heap.size < R; omega)).trans HcL.out) (by rintro (h | h) <;> simp only at h <;> omega) p
    have f2 := fun p => cell_reC (X := fun k => k = R + 1 ∨ k = g) ((Below.cell HLow.out (p := ⟨b, off + j * 3 + 1, none⟩) (by show b < R; omega)).trans (HsV.out.c1 j hj)) (by rintro (h | h) <;> simp only at h <;> omega) p
    have HBd : Hid (BSeg A3 (x j).ad (x j).blk (x j).off (x j).len (x j).f) := hide ((HsV.out.body j hj).below HLow.out (fun h => by have := HsW.out h; omega))
    clear i1 i2 l4 l7
    gi_wp2_with fail
    refine anyK_beginR (fun k => k = R + 1 ∨ k = g) 8 rfl (by kernel_rfl) (by kernel_rfl) (fun ⟨_, _, h⟩ => h) l ?_
    refine anyK_take 1 5 3 rfl (by decide) (by kernel_rfl) (fun _ _ _ _ _ h => h) ?_
    repeat (refine headC_step (fun K hK => ?_); go_simp; refine hK _ ?_; clear hK K)
    refine headC_nil ?_
    clear f1 f2
    refine anyK_one 0 (by kernel_rfl) ?_
    refine stepK_run rfl ?_
    intro Y h3 K2 hK2
    have cX := (Below.cell h3 (p := ⟨R + 1, 0, none⟩) (by show R + 1 < _; omega)).trans Hi1.out
    go_simp
    refine hK2 _ _ (.of_ext h3) ?_
    have Ye := hide h3
    have HSrc := hide (HBd.out.of_all h3)
    clear hK2 K2 cX h3 HBd
    refine anyK_one 6 (by kernel_rfl) ?_
    refine stepK_run rfl ?_
    intro w7 h7 K2 hK2
    have E7 := hide (Ext.trans Ye.out h7)
    have HO7 := hide (bowns_ext0 Hi2.out E7.out)
    have HS7 := hide (HSrc.out.of_all h7)
    rw [if_pos (show _ = true by kernel_rfl)]
    refine wp_appb _ _ rfl R g vc L3 rfl HO7.out (x j).ad (x j).blk (x j).off (x j).len (x j).cap (x j).f rfl HS7.out (by omega) (by have := Below.size E7.out; omega) ?_
    intro g' vc' w8 hO8 hg8 hat8
    refine hK2 _ _ ((Grw.of_ext E7.out).trans (grw_grown hg8 (.inr rfl))) ?_
    clear hK2 K2
    have HB8 : Hid (∀ k, k < A3.heap.size → k ≠ g → w8.heap[k]? = A3.heap[k]?) := fun k hk hn => (hg8.block k (Nat.lt_of_lt_of_le hk (Below.size E7.out)) (by simp; exact fun e => hn e)).trans (Below.block E7.out k hk)
    have HM8 : Hid (w8.os = A3.os ∧ w8.tape = A3.tape ∧ w8.output = A3.output ∧ A3.heap.size ≤ w8.heap.size) := ⟨hg8.os.trans E7.out.os, hg8.tape.trans E7.out.tape, hg8.output.trans E7.out.output, Nat.le_trans (Below.size E7.out) hg8.size⟩
    have Hat8 : Hid (g' = g ∨ A3.heap.size ≤ g') := by
     rcases hat8 with h | h
     ·exact .inl h
     ·exact .inr (by rw [h]; exact Below.size E7.out)
    have HO8 := hide hO8
    have HG8 := hide ((Grw.of_ext (X := (fun k => k = R + 1 ∨ k = g)) E7.out).trans (grw_grown hg8 (.inr rfl)))
    clear hO8 hg8 hat8 HO7 h7 E7 HS7 HSrc
    refine anyK_one 7 (by kernel_rfl) ?_
    refine stepK_run rfl ?_
    intro w9 h9 K2 hK2
    have hb9 : w9.heap[R + 1]? = A3.heap[R + 1]? := (Below.block h9 _ (by have := HM8.out.2.2.2; omega)).trans (HB8.out _ (by omega) (fun e => i5 e.symm))
    have c9 := (World.cell?_of_block (a := ⟨R + 1, 0, none⟩) hb9).trans Hi1.out
    have f9 := (World.frozen?_of_block (a := ⟨R + 1, 0, none⟩) hb9).trans Hl4.out
    have H9 := hide h9
    clear hb9 h9
    obtain ⟨LN, hLN⟩ : ∃ LN, L3 ++ (List.range (x j).len).map (x j).f = LN := ⟨_, rfl⟩
    rw [hLN] at HO8 ⊢
    have HLN := hide hLN
    obtain ⟨NL, hNL⟩ : ∃ NL, LN.length = NL := ⟨_, rfl⟩
    rw [hNL]
    have HNL := hide hNL
    clear hNL hLN
    go_simp
    refine hK2 _ (w9.setCell ⟨R + 1, 0, none⟩ (.slice (some ⟨g', 0, none⟩) NL vc')) ((HG8.out.trans (Grw.of_ext H9.out)).trans (Grw.of_touch ((Touch.refl _ w9).set 0 _) (.inl rfl))) ?_
    have C9 := hide c9
    have F9 := hide f9
    clear hK2 K2 c9 f9
    refine anyK_done (by kernel_rfl) ?_ 0
    intro w10 h10
    have hg4 : g' ≠ R + 1 := by
     rcases Hat8.out with h | h
     ·rw [h]; exact i5
     ·omega
    have hgl : g' < w8.heap.size := (bowns_lt HO8.out).2.1
    have hbb : ∀ k, k < A3.heap.size → k ≠ R + 1 → k ≠ g → w10.heap[k]? = A3.heap[k]? := fun k h1 h3 h4 => by
     have e1 := HM8.out.2.2.2
     have e2 := Below.size H9.out
     rw [Below.block h10 k (by simp [World.setCell]; omega), Below.heap_setCell _ _ _ _ (show k ≠ R + 1 from h3), Below.block H9.out k (by omega)]
     exact HB8.out k h1 h4
    have hbg : w10.heap[g']? = w8.heap[g']? := by
     have e2 := Below.size H9.out
     rw [Below.block h10 g' (by simp [World.setCell]; omega), Below.heap_setCell _ _ _ _ (show g' ≠ R + 1 from hg4), Below.block H9.out g' hgl]
    have hl4 : R + 1 < (w9.setCell ⟨R + 1, 0, none⟩ (.slice (some ⟨g', 0, none⟩) NL vc')).heap.size := by
     have e1 := HM8.out.2.2.2
     have e2 := Below.size H9.out
     simp [World.setCell]
     omega
    have hst := BuI.next (g := g) HI.out HX.out i3 i4 gB HOA.out (h10.os.trans (H9.out.os.trans HM8.out.1)) (h10.tape.trans (H9.out.tape.trans HM8.out.2.1)) (h10.output.trans (H9.out.output.trans HM8.out.2.2.1)) (by
     have e1 := HM8.out.2.2.2
     have e2 := Below.size H9.out
     have e3 := Below.size h10
     simp [World.setCell] at e3
     omega) hbb LN g' vc' (by rw [Below.cell h10 (p := ⟨R + 1, 0, none⟩) hl4, World.cell?_setCell_same _ _ _ C9.out, HNL.out]) (by
     rw [Below.frozen h10 (p := ⟨R + 1, 0, none⟩) hl4, World.frozen?_setCell]
     exact F9.out) (bowns_at HO8.out hbg) Hat8.out hg4
    have HRn := hide (RdO.trans HRd.out hst.1)
    have HIn := hide hst.2
    have HLn : Hid (LN = L3 ++ boL (x j)) := hide (by rw [← HLN.out]; rfl)
    have HOn : Hid (∀ k, O k → k < w10.heap.size) := fun k hk => Nat.lt_of_lt_of_le (HOA.out k hk) hst.1.size
    have hlN : LN.length ≤ L3.length + (x j).len := by rw [← HLN.out]; simp
    clear hst hbb hbg hl4 h10 H9 HB8 HM8 Hat8 HO8 HG8 C9 F9 hgl hg4 HLN HNL
    refine (?_ : RdO (XB (R + 1 + 1 + 1) (R + 1 + 1) b) O A1 w10 ∧ BuI V R (XB (R + 1 + 1 + 1) (R + 1 + 1) b) O (prL x n (pre ++ [(⟨(j, r), hj⟩ : Pl n)])) w10)
    have hfin : prL x n (pre ++ [(⟨(j, r), hj⟩ : Pl n)]) = LN := by
     rw [prL_push, HL1e.out, HLn.out, HQ2.out, HQ1.out]
     show L1 ++ hdL x n j = _
     simp [hdL]
    rw [hfin]
    exact ⟨HRn.out, HIn.out⟩
   ·refine stepK_run rfl ?_
    intro w5 h5 K2 hK2
    go_simp
    refine (HLb.out w5).mono ?_
    rintro e Y0 ⟨vv, rfl, hvo, hvE⟩
    obtain ⟨sa, sg, sc, rfl, -, -, -, hvb⟩ := owns_seg hvo
    go_simp
    refine hK2 _ _ (.of_ext (Ext.trans h5 hvE)) ?_
    have H3 := hide (Ext.trans h5 hvE)
    have HS0 := hide hvb.toBSeg
    clear hK2 K2 hvo hvE hvb h5
    refine anyK_one 0 (by kernel_rfl) ?_
    refine stepK_run rfl ?_
    intro Y h3 K2 hK2
    have cX := (Below.cell (Ext.trans H3.out h3) (p := ⟨R + 1, 0, none⟩) (by show R + 1 < _; omega)).trans Hi1.out
    go_simp
    refine hK2 _ _ (.of_ext (Ext.trans H3.out h3)) ?_
    have Ye := hide (Ext.trans H3.out h3)
    have HSrc := hide (HS0.out.of_all h3)
    clear hK2 K2 cX h3 HS0 H3
    refine anyK_one 6 (by kernel_rfl) ?_
    refine stepK_run rfl ?_
    intro w7 h7 K2 hK2
    have E7 := hide (Ext.trans Ye.out h7)
    have HO7 := hide (bowns_ext0 Hi2.out E7.out)
    have HS7 := hide (HSrc.out.of_all h7)
    rw [if_pos (show _ = true by kernel_rfl)]
    refine wp_appb _ _ rfl R g vc L2 rfl HO7.out sa sg 0 (lgN (clF x n j : Int)) sc (lgF (clF x n j : Int)) rfl HS7.out (by omega) (by have := Below.size E7.out; omega) ?_
    intro g' vc' w8 hO8 hg8 hat8
    refine hK2 _ _ ((Grw.of_ext E7.out).trans (grw_grown hg8 (.inr rfl))) ?_
    clear hK2 K2
    have HB8 : Hid (∀ k, k < A2.heap.size → k ≠ g → w8.heap[k]? = A2.heap[k]?) := fun k hk hn => (hg8.block k (Nat.lt_of_lt_of_le hk (Below.size E7.out)) (by simp; exact fun e => hn e)).trans (Below.block E7.out k hk)
    have HM8 : Hid (w8.os = A2.os ∧ w8.tape = A2.tape ∧ w8.output = A2.output ∧ A2.heap.size ≤ w8.heap.size) := ⟨hg8.os.trans E7.out.os, hg8.tape.trans E7.out.tape, hg8.output.trans E7.out.output, Nat.le_trans (Below.size E7.out) hg8.size⟩
    have Hat8 : Hid (g' = g ∨ A2.heap.size ≤ g') := by
     rcases hat8 with h | h
     ·exact .inl h
     ·exact .inr (by rw [h]; exact Below.size E7.out)
    have HO8 := hide hO8
    have HG8 := hide ((Grw.of_ext (X := (fun k => k = R + 1 ∨ k = g)) E7.out).trans (grw_grown hg8 (.inr rfl)))
    clear hO8 hg8 hat8 HO7 h7 E7 HS7 HSrc
    refine anyK_one 7 (by kernel_rfl) ?_
    refine stepK_run rfl ?_
    intro w9 h9 K2 hK2
    have hb9 : w9.heap[R + 1]? = A2.heap[R + 1]? := (Below.block h9 _ (by have := HM8.out.2.2.2; omega)).trans (HB8.out _ (by omega) (fun e => i5 e.symm))
    have c9 := (World.cell?_of_block (a := ⟨R + 1, 0, none⟩) hb9).trans Hi1.out
    have f9 := (World.frozen?_of_block (a := ⟨R + 1, 0, none⟩) hb9).trans Hl4.out
    have H9 := hide h9
    clear hb9 h9
    obtain ⟨LN, hLN⟩ : ∃ LN, L2 ++ (List.range (lgN (clF x n j : Int))).map (lgF (clF x n j : Int)) = LN := ⟨_, rfl⟩
    rw [hLN] at HO8 ⊢
    have HLN := hide hLN
    obtain ⟨NL, hNL⟩ : ∃ NL, LN.length = NL := ⟨_, rfl⟩
    rw [hNL]
    have HNL := hide hNL
    clear hNL hLN
    go_simp
    refine hK2 _ (w9.setCell ⟨R + 1, 0, none⟩ (.slice (some ⟨g', 0, none⟩) NL vc')) ((HG8.out.trans (Grw.of_ext H9.out)).trans (Grw.of_touch ((Touch.refl _ w9).set 0 _) (.inl rfl))) ?_
    have C9 := hide c9
    have F9 := hide f9
    clear hK2 K2 c9 f9
    refine anyK_done (by kernel_rfl) ?_ 0
    intro w10 h10
    have hg4 : g' ≠ R + 1 := by
     rcases Hat8.out with h | h
     ·rw [h]; exact i5
     ·omega
    have hgl : g' < w8.heap.size := (bowns_lt HO8.out).2.1
    have hbb : ∀ k, k < A2.heap.size → k ≠ R + 1 → k ≠ g → w10.heap[k]? = A2.heap[k]? := fun k h1 h3 h4 => by
     have e1 := HM8.out.2.2.2
     have e2 := Below.size H9.out
     rw [Below.block h10 k (by simp [World.setCell]; omega), Below.heap_setCell _ _ _ _ (show k ≠ R + 1 from h3), Below.block H9.out k (by omega)]
     exact HB8.out k h1 h4
    have hbg : w10.heap[g']? = w8.heap[g']? := by
     have e2 := Below.size H9.out
     rw [Below.block h10 g' (by simp [World.setCell]; omega), Below.heap_setCell _ _ _ _ (show g' ≠ R + 1 from hg4), Below.block H9.out g' hgl]
    have hl4 : R + 1 < (w9.setCell ⟨R + 1, 0, none⟩ (.slice (some ⟨g', 0, none⟩) NL vc')).heap.size := by
     have e1 := HM8.out.2.2.2
     have e2 := Below.size H9.out
     simp [World.setCell]
     omega
    have hst := BuI.next (g := g) HI.out HX.out i3 i4 gB HOA.out (h10.os.trans (H9.out.os.trans HM8.out.1)) (h10.tape.trans (H9.out.tape.trans HM8.out.2.1)) (h10.output.trans (H9.out.output.trans HM8.out.2.2.1)) (by
     have e1 := HM8.out.2.2.2
     have e2 := Below.size H9.out
     have e3 := Below.size h10
     simp [World.setCell] at e3
     omega) hbb LN g' vc' (by rw [Below.cell h10 (p := ⟨R + 1, 0, none⟩) hl4, World.cell?_setCell_same _ _ _ C9.out, HNL.out]) (by
     rw [Below.frozen h10 (p := ⟨R + 1, 0, none⟩) hl4, World.frozen?_setCell]
     exact F9.out) (bowns_at HO8.out hbg) Hat8.out hg4
    have HRn := hide (RdO.trans HRd.out hst.1)
    have HIn := hide hst.2
    have HLn : Hid (LN = L2 ++ lgL (clF x n j)) := hide (by rw [← HLN.out]; rfl)
    have HOn : Hid (∀ k, O k → k < w10.heap.size) := fun k hk => Nat.lt_of_lt_of_le (HOA.out k hk) hst.1.size
    have hlN : LN.length ≤ L2.length + (lgN (clF x n j : Int)) := by rw [← HLN.out]; simp
    clear hst hbb hbg hl4 h10 H9 HB8 HM8 Hat8 HO8 HG8 C9 F9 hgl hg4 HLN HNL
    replace HI := HIn
    replace HRd := HRn
    replace HOA := HOn
    have HQ2 := HLn
    clear HIn HRn HOn HLn i3 i4 i5 gB Hi1 Hi2 Hl4 lA HLow l5 l6 Ye
    generalize w10 = A3 at *
    generalize LN = L3 at *
    obtain ⟨⟨g, vc, i1, i2, i3, i4, i5⟩, l4, l5, l6, l7⟩ := HI.out
    have gB := (bowns_lt i2).1
    have Hi1 := hide i1
    have Hi2 := hide i2
    have Hl4 := hide l4
    have lA := l6
    have HLow := hide l7
    have f1 := fun p => cell_reC (X := fun k => k = R + 1 ∨ k = g) ((Below.cell HLow.out (p := ⟨w.heap.size, 0, none⟩) (by show w.heap.size < R; omega)).trans HcL.out) (by rintro (h | h) <;> simp only at h <;> omega) p
    have f2 := fun p => cell_reC (X := fun k => k = R + 1 ∨ k = g) ((Below.cell HLow.out (p := ⟨b, off + j * 3 + 1, none⟩) (by show b < R; omega)).trans (HsV.out.c1 j hj)) (by rintro (h | h) <;> simp only at h <;> omega) p
    have HBd : Hid (BSeg A3 (x j).ad (x j).blk (x j).off (x j).len (x j).f) := hide ((HsV.out.body j hj).below HLow.out (fun h => by have := HsW.out h; omega))
    clear i1 i2 l4 l7
    gi_wp2_with fail
    refine anyK_beginR (fun k => k = R + 1 ∨ k = g) 8 rfl (by kernel_rfl) (by kernel_rfl) (fun ⟨_, _, h⟩ => h) l ?_
    refine anyK_take 1 5 3 rfl (by decide) (by kernel_rfl) (fun _ _ _ _ _ h => h) ?_
    repeat (refine headC_step (fun K hK => ?_); go_simp; refine hK _ ?_; clear hK K)
    refine headC_nil ?_
    clear f1 f2
    refine anyK_one 0 (by kernel_rfl) ?_
    refine stepK_run rfl ?_
    intro Y h3 K2 hK2
    have cX := (Below.cell h3 (p := ⟨R + 1, 0, none⟩) (by show R + 1 < _; omega)).trans Hi1.out
    go_simp
    refine hK2 _ _ (.of_ext h3) ?_
    have Ye := hide h3
    have HSrc := hide (HBd.out.of_all h3)
    clear hK2 K2 cX h3 HBd
    refine anyK_one 6 (by kernel_rfl) ?_
    refine stepK_run rfl ?_
    intro w7 h7 K2 hK2
    have E7 := hide (Ext.trans Ye.out h7)
    have HO7 := hide (bowns_ext0 Hi2.out E7.out)
    have HS7 := hide (HSrc.out.of_all h7)
    rw [if_pos (show _ = true by kernel_rfl)]
    refine wp_appb _ _ rfl R g vc L3 rfl HO7.out (x j).ad (x j).blk (x j).off (x j).len (x j).cap (x j).f rfl HS7.out (by omega) (by have := Below.size E7.out; omega) ?_
    intro g' vc' w8 hO8 hg8 hat8
    refine hK2 _ _ ((Grw.of_ext E7.out).trans (grw_grown hg8 (.inr rfl))) ?_
    clear hK2 K2
    have HB8 : Hid (∀ k, k < A3.heap.size → k ≠ g → w8.heap[k]? = A3.heap[k]?) := fun k hk hn => (hg8.block k (Nat.lt_of_lt_of_le hk (Below.size E7.out)) (by simp; exact fun e => hn e)).trans (Below.block E7.out k hk)
    have HM8 : Hid (w8.os = A3.os ∧ w8.tape = A3.tape ∧ w8.output = A3.output ∧ A3.heap.size ≤ w8.heap.size) := ⟨hg8.os.trans E7.out.os, hg8.tape.trans E7.out.tape, hg8.output.trans E7.out.output, Nat.le_trans (Below.size E7.out) hg8.size⟩
    have Hat8 : Hid (g' = g ∨ A3.heap.size ≤ g') := by
     rcases hat8 with h | h
     ·exact .inl h
     ·exact .inr (by rw [h]; exact Below.size E7.out)
    have HO8 := hide hO8
    have HG8 := hide ((Grw.of_ext (X := (fun k => k = R + 1 ∨ k = g)) E7.out).trans (grw_grown hg8 (.inr rfl)))
    clear hO8 hg8 hat8 HO7 h7 E7 HS7 HSrc
    refine anyK_one 7 (by kernel_rfl) ?_
    refine stepK_run rfl ?_
    intro w9 h9 K2 hK2
    have hb9 : w9.heap[R + 1]? = A3.heap[R + 1]? := (Below.block h9 _ (by have := HM8.out.2.2.2; omega)).trans (HB8.out _ (by omega) (fun e => i5 e.symm))
    have c9 := (World.cell?_of_block (a := ⟨R + 1, 0, none⟩) hb9).trans Hi1.out
    have f9 := (World.frozen?_of_block (a := ⟨R + 1, 0, none⟩) hb9).trans Hl4.out
    have H9 := hide h9
    clear hb9 h9
    obtain ⟨LN, hLN⟩ : ∃ LN, L3 ++ (List.range (x j).len).map (x j).f = LN := ⟨_, rfl⟩
    rw [hLN] at HO8 ⊢
    have HLN := hide hLN
    obtain ⟨NL, hNL⟩ : ∃ NL, LN.length = NL := ⟨_, rfl⟩
    rw [hNL]
    have HNL := hide hNL
    clear hNL hLN
    go_simp
    refine hK2 _ (w9.setCell ⟨R + 1, 0, none⟩ (.slice (some ⟨g', 0, none⟩) NL vc')) ((HG8.out.trans (Grw.of_ext H9.out)).trans (Grw.of_touch ((Touch.refl _ w9).set 0 _) (.inl rfl))) ?_
    have C9 := hide c9
    have F9 := hide f9
    clear hK2 K2 c9 f9
    refine anyK_done (by kernel_rfl) ?_ 0
    intro w10 h10
    have hg4 : g' ≠ R + 1 := by
     rcases Hat8.out with h | h
     ·rw [h]; exact i5
     ·omega
    have hgl : g' < w8.heap.size := (bowns_lt HO8.out).2.1
    have hbb : ∀ k, k < A3.heap.size → k ≠ R + 1 → k ≠ g → w10.heap[k]? = A3.heap[k]? := fun k h1 h3 h4 => by
     have e1 := HM8.out.2.2.2
     have e2 := Below.size H9.out
     rw [Below.block h10 k (by simp [World.setCell]; omega), Below.heap_setCell _ _ _ _ (show k ≠ R + 1 from h3), Below.block H9.out k (by omega)]
     exact HB8.out k h1 h4
    have hbg : w10.heap[g']? = w8.heap[g']? := by
     have e2 := Below.size H9.out
     rw [Below.block h10 g' (by simp [World.setCell]; omega), Below.heap_setCell _ _ _ _ (show g' ≠ R + 1 from hg4), Below.block H9.out g' hgl]
    have hl4 : R + 1 < (w9.setCell ⟨R + 1, 0, none⟩ (.slice (some ⟨g', 0, none⟩) NL vc')).heap.size := by
     have e1 := HM8.out.2.2.2
     have e2 := Below.size H9.out
     simp [World.setCell]
     omega
    have hst := BuI.next (g := g) HI.out HX.out i3 i4 gB HOA.out (h10.os.trans (H9.out.os.trans HM8.out.1)) (h10.tape.trans (H9.out.tape.trans HM8.out.2.1)) (h10.output.trans (H9.out.output.trans HM8.out.2.2.1)) (by
     have e1 := HM8.out.2.2.2
     have e2 := Below.size H9.out
     have e3 := Below.size h10
     simp [World.setCell] at e3
     omega) hbb LN g' vc' (by rw [Below.cell h10 (p := ⟨R + 1, 0, none⟩) hl4, World.cell?_setCell_same _ _ _ C9.out, HNL.out]) (by
     rw [Below.frozen h10 (p := ⟨R + 1, 0, none⟩) hl4, World.frozen?_setCell]
     exact F9.out) (bowns_at HO8.out hbg) Hat8.out hg4
    have HRn := hide (RdO.trans HRd.out hst.1)
    have HIn := hide hst.2
    have HLn : Hid (LN = L3 ++ boL (x j)) := hide (by rw [← HLN.out]; rfl)
    have HOn : Hid (∀ k, O k → k < w10.heap.size) := fun k hk => Nat.lt_of_lt_of_le (HOA.out k hk) hst.1.size
    have hlN : LN.length ≤ L3.length + (x j).len := by rw [← HLN.out]; simp
    clear hst hbb hbg hl4 h10 H9 HB8 HM8 Hat8 HO8 HG8 C9 F9 hgl hg4 HLN HNL
    refine (?_ : RdO (XB (R + 1 + 1 + 1) (R + 1 + 1) b) O A1 w10 ∧ BuI V R (XB (R + 1 + 1 + 1) (R + 1 + 1) b) O (prL x n (pre ++ [(⟨(j, r), hj⟩ : Pl n)])) w10)
    have hfin : prL x n (pre ++ [(⟨(j, r), hj⟩ : Pl n)]) = LN := by
     rw [prL_push, HL1e.out, HLn.out, HQ2.out, HQ1.out]
     show L1 ++ hdL x n j = _
     simp [hdL]
    rw [hfin]
    exact ⟨HRn.out, HIn.out⟩
 case done =>
  rintro O xs W hS ⟨⟨g, vc, i1, i2, i3, i4, i5⟩, l4, l5, l6, l7⟩ hOd hlt hD
  have HF : Hid (prL x n xs = flt x n 0 n) := hide (by
   refine prL_flt x n 0 n xs ?_
   rw [show (xs.map (·.1.1)) = (xs.map (·.1)).map (·.1) by rw [List.map_map]; rfl, hS]
   obtain ⟨e, T, he, hie, hen, hT, hST⟩ := tree_part Ht.out (show 0 < n by omega)
   rw [HTr.out.top] at he
   obtain rfl : n = e := by omega
   rw [Nat.sub_zero] at hT ⊢
   rw [hT, List.map_cons, hST.places, show n = (n - 1) + 1 by omega, List.range'_succ]
   simp)
  have HO := hide i2
  have H3 := hide i3
  have HL7 := hide l7
  clear i2 i3 i4 l7 hseq I0
  gi_wp2
  refine ⟨by simp, .inl ⟨_, _, rfl, run_takeDeferred (ds := []) hD, ?_⟩⟩
  refine ⟨_, results_tmp2 rfl _ _ _, .slice (some ⟨g, 0, none⟩) (prL x n xs).length vc, rfl, ?_, ?_⟩
  ·rw [← HF.out]
   exact bowns_low (bowns_at HO.out (World.putObj_heap_other (fun e => H3.out (by rw [e]; exact hOd)))) hw3
  ·refine Below.trans HeW.out (Below.trans (HL7.out.mono (by omega)) ((putObj_below V.heap.size _ V.heap.size _ (Nat.le_refl _)).mono (by omega)))
 case stop => exact fun c O pre W _ h => h.elim
set_option maxHeartbeats 1600000 in
theorem implWriteDer_any (a : Option Addr) (b off n cap : Nat) (x : Nat → It) (w : World) (hs : ISeg w a b off n x) (hn : n ≤ 1048576) (hl : ∀ i, i < n → (x i).len ≤ 1048576) (hk : ∀ i, i < n → (x i).kid ≤ 9223372036854775807) :
  Calls Tryz.prog 57 #[.slice a n cap] w fun e w' => GivesWd w (wdL x n) (wdB x n) e w' := by
 cases ht : treeV x n
 ·have h1 : wdB x n = false := by unfold wdB; rw [ht]; rfl
  have h2 : wdL x n = [] := by unfold wdL; rw [h1]; rfl
  rw [h1, h2]
  exact wd_no a b off n cap x w ht (hide fun W hW => by have := implTree_any a b off n cap x W (hs.of_all hW) hn hk; rw [ht] at this; exact this)
 ·obtain ⟨h1, -, -⟩ := tree_good ht
  obtain rfl := hs.at' (by omega)
  exact wd_yes b off n cap x w hs ht hl hk (hide fun W hW => by have := implTree_any _ b off n cap x W (hs.of_all hW) hn hk; rw [ht] at this; exact this)
end Go.Proofs.YtkogbinfhoiggaaGreatDoor
