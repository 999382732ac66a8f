/- Walks: the law's own helper markItemS over a copied list of items: it turns nothing but the copy. -/
import Derived.Test.YtboaiojapgiedaaTrL
import Derived.Test.YtboaiojapgiedaaBMarks
namespace Go.Proofs.Ytboaiojapgiedaa
set_option linter.unusedVariables false
set_option linter.unusedSimpArgs false
open Go.RowKit

/-- Only blocks from S up to T may have turned; none has come. -/
structure MarkT (S T : Nat) (w w' : World) : Prop where
  os : w'.os = w.os
  tape : w'.tape = w.tape
  output : w'.output = w.output
  size : w'.heap.size = w.heap.size
  same : ∀ k, (k < S ∨ T ≤ k) → w'.heap[k]? = w.heap[k]?
theorem MarkT.refl (S T : Nat) (w : World) : MarkT S T w w := ⟨rfl, rfl, rfl, rfl, fun _ _ => rfl⟩
theorem MarkT.trans {S T : Nat} {a b c : World} (h : MarkT S T a b) (k : MarkT S T b c) : MarkT S T a c := ⟨k.os.trans h.os, k.tape.trans h.tape, k.output.trans h.output, k.size.trans h.size, fun i hi => (k.same i hi).trans (h.same i hi)⟩
theorem MarkT.of_touch {S T g : Nat} {w w' : World} (h : Touch g w w') (h1 : S ≤ g) (h2 : g < T) : MarkT S T w w' :=
  ⟨h.grown.os, h.grown.tape, h.grown.output, h.size, fun k hk => by
    by_cases hl : k < w.heap.size
    · exact h.grown.block k hl (by simp; omega)
    · rw [Array.getElem?_eq_none (by rw [h.size]; omega), Array.getElem?_eq_none (by omega)]⟩
theorem MarkT.set {S T g o : Nat} {w w' : World} (h : MarkT S T w w') (h1 : S ≤ g) (h2 : g < T) (v : Value) : MarkT S T w (w'.setCell ⟨g, o, none⟩ v) := h.trans (MarkT.of_touch ((Touch.refl g w').set o v) h1 h2)
theorem MarkT.below {S T B : Nat} {w0 w w' : World} (h : Below B w0 w) (k : MarkT S T w w') (hB : B ≤ S) : Below B w0 w' := h.trans ⟨k.os, k.tape, k.output, by rw [k.size]; exact Nat.le_refl _, fun i hi => k.same i (.inl (by omega))⟩
theorem Own.mark {S T : Nat} {w w' : World} {a : Option Addr} {g o n : Nat} {f : Nat → Int} (h : Own w a g o n f) (k : MarkT S T w w') (hg : 0 < n → g < S ∨ T ≤ g) : Own w' a g o n f :=
  ⟨⟨h.at', fun i hi => (World.cell?_of_block (a := ⟨g, o + i, none⟩) (k.same g (hg (by omega)))).trans (h.cell i hi)⟩, fun i hi => (World.frozen?_of_block (a := ⟨g, o + i, none⟩) (k.same g (hg (by omega)))).trans (h.free i hi)⟩
theorem Seg.mark {S T : Nat} {w w' : World} {a : Option Addr} {g o n : Nat} {f : Nat → Int} (h : Seg w a g o n f) (k : MarkT S T w w') (hg : 0 < n → g < S ∨ T ≤ g) : Seg w' a g o n f :=
  ⟨h.at', fun i hi => (World.cell?_of_block (a := ⟨g, o + i, none⟩) (k.same g (hg (by omega)))).trans (h.cell i hi)⟩

def sumL (x : Nat → It) : Nat → Nat
  | 0 => 0
  | k + 1 => sumL x k + (x k).len
theorem sumL_mono (x : Nat → It) {j k : Nat} (h : j ≤ k) : sumL x j ≤ sumL x k := by
  induction k with
  | zero => rw [Nat.le_zero.1 h]; exact Nat.le_refl _
  | succ k ih =>
    by_cases e : j = k + 1
    · rw [e]; exact Nat.le_refl _
    · have := ih (by omega); rw [sumL]; omega
theorem szI_sum {x : Nat → It} {l : Int} : ∀ (n : Nat), 0 ≤ szI x n l → szI x n l + (sumL x n : Nat) = l
  | 0, _ => by simp [szI, sumL]
  | n + 1, h0 => by
    unfold szI at h0 ⊢
    split at h0
    · omega
    · rename_i h1
      rw [if_neg h1]
      have ih := szI_sum (x := x) (l := l) n (by omega)
      unfold szL at h0 ⊢
      split at h0
      · omega
      · rename_i h2
        rw [if_neg h2, sumL]
        omega
theorem sz_sum {x : Nat → It} {n : Nat} (h : ¬ (if (1048576 : Int) < n then (-1 : Int) else if szI x n (1048576 - n) < 0 then -1 else szI x n (1048576 - n)) < 0) : n ≤ 1048576 ∧ sumL x n ≤ 1048576 := by
  split at h
  · omega
  · split at h
    · omega
    · have := szI_sum (x := x) (l := 1048576 - (n : Int)) n (by omega)
      omega

/-- A copied list, its items from i on whole. -/
structure Cpy (S n i : Nat) (x : Nat → It) (W : World) : Prop where
  c0 : ∀ j, i ≤ j → j < n → ∃ u, W.cell? ⟨S, j * 3, none⟩ = some (.int .i64 u)
  c1 : ∀ j, i ≤ j → j < n → W.cell? ⟨S, j * 3 + 1, none⟩ = some (.slice (some ⟨S + 4 + 4 * j, 0, none⟩) (x j).len (x j).len)
  c2 : ∀ j, i ≤ j → j < n → ∃ u, W.cell? ⟨S, j * 3 + 2, none⟩ = some (.int .i64 u)
  fz : ∀ o, W.frozen? ⟨S, o, none⟩ = false
  body : ∀ j, i ≤ j → j < n → BOwn W (some ⟨S + 4 + 4 * j, 0, none⟩) (S + 4 + 4 * j) 0 (x j).len (x j).f

theorem ICopying.cpy {w w' : World} {n : Nat} {x : Nat → It} (h : ICopying w w' n n x) : Cpy w.heap.size n 0 x w' := by
  refine ⟨fun j _ hj => ⟨(x j).tag, ?_⟩, fun j _ hj => ?_, fun j _ hj => ⟨(x j).kid, ?_⟩, fun o => h.row.frozen o, fun j _ hj => BOwn.of_row (h.body j hj) (Nat.le_refl _)⟩
  · exact (h.row.cell (i := j * 3) (by omega)).trans (congrArg some (rowC_at (r := 0) hj (by omega)))
  · exact (h.row.cell (by omega)).trans (congrArg some (rowC_at hj 1 (by omega)))
  · exact (h.row.cell (by omega)).trans (congrArg some (rowC_at hj 2 (by omega)))

theorem Cpy.ext {S n i : Nat} {x : Nat → It} {W W' : World} (h : Cpy S n i x W) (e : Ext W W') (hn : 0 < n) (hi : i < n) : Cpy S n i x W' := by
  have hS : S < W.heap.size := World.block_lt_of_cell? _ _ (h.c1 i (Nat.le_refl _) hi)
  have hb : W'.heap[S]? = W.heap[S]? := Below.block e S hS
  have hc : ∀ o, W'.cell? ⟨S, o, none⟩ = W.cell? ⟨S, o, none⟩ := fun o => World.cell?_of_block (a := ⟨S, o, none⟩) hb
  refine ⟨fun j h1 h2 => ?_, fun j h1 h2 => by rw [hc]; exact h.c1 j h1 h2, fun j h1 h2 => ?_, fun o => by rw [World.frozen?_of_block (a := ⟨S, o, none⟩) hb]; exact h.fz o, fun j h1 h2 => BOwn.of_all (h.body j h1 h2) e⟩
  · rw [hc]; exact h.c0 j h1 h2
  · rw [hc]; exact h.c2 j h1 h2

theorem cell_off {W : World} {S o p : Nat} (v : Value) (h : o ≠ p) : (W.setCell ⟨S, o, none⟩ v).cell? ⟨S, p, none⟩ = W.cell? ⟨S, p, none⟩ :=
  World.cell?_setCell_other _ _ _ _ (fun e => h (by have := congrArg Addr.off e; simp at this; omega))

/-- A store into the item at i. -/
theorem Cpy.set {S n i : Nat} {x : Nat → It} {W : World} (h : Cpy S n i x W) (o : Nat) (ho : o = i * 3 ∨ o = i * 3 + 2) (u : Int) : Cpy S n i x (W.setCell ⟨S, o, none⟩ (.int .i64 u)) := by
  have hb : ∀ j, S + 4 + 4 * j ≠ S := fun j => by omega
  refine ⟨fun j h1 h2 => ?_, fun j h1 h2 => ?_, fun j h1 h2 => ?_, fun o' => by rw [World.frozen?_setCell]; exact h.fz o', fun j h1 h2 => BOwn.touch (h.body j h1 h2) ((Touch.refl S W).set o _) (fun _ => hb j)⟩
  · obtain ⟨v, hv⟩ := h.c0 j h1 h2
    by_cases e : o = j * 3
    · subst e; exact ⟨u, World.cell?_setCell_same _ _ _ hv⟩
    · exact ⟨v, by rw [cell_off _ e]; exact hv⟩
  · rw [cell_off _ (by omega)]; exact h.c1 j h1 h2
  · obtain ⟨v, hv⟩ := h.c2 j h1 h2
    by_cases e : o = j * 3 + 2
    · subst e; exact ⟨u, World.cell?_setCell_same _ _ _ hv⟩
    · exact ⟨v, by rw [cell_off _ e]; exact hv⟩
theorem Cpy.next {S n i : Nat} {x : Nat → It} {W : World} (h : Cpy S n i x W) : Cpy S n (i + 1) x W :=
  ⟨fun j h1 h2 => h.c0 j (by omega) h2, fun j h1 h2 => h.c1 j (by omega) h2, fun j h1 h2 => h.c2 j (by omega) h2, h.fz, fun j h1 h2 => h.body j (by omega) h2⟩
/-- The body at i is marked. -/
theorem Cpy.marked {S n i : Nat} {x : Nat → It} {W W' : World} (h : Cpy S n i x W) (hi : i < n) (k : Touch (S + 4 + 4 * i) W W') {f : Nat → Int} : ((∃ u, W'.cell? ⟨S, i * 3 + 2, none⟩ = some (.int .i64 u)) ∧ (∀ o, W'.frozen? ⟨S, o, none⟩ = false)) ∧ Cpy S n (i + 1) x W' := by
  have hS : S < W.heap.size := World.block_lt_of_cell? _ _ (h.c1 i (Nat.le_refl _) hi)
  have hb : W'.heap[S]? = W.heap[S]? := k.grown.block S hS (by simp; omega)
  have hc : ∀ o, W'.cell? ⟨S, o, none⟩ = W.cell? ⟨S, o, none⟩ := fun o => World.cell?_of_block (a := ⟨S, o, none⟩) hb
  have hf : ∀ o, W'.frozen? ⟨S, o, none⟩ = false := fun o => by rw [World.frozen?_of_block (a := ⟨S, o, none⟩) hb]; exact h.fz o
  refine ⟨⟨by rw [hc]; exact h.c2 i (Nat.le_refl _) hi, hf⟩, fun j h1 h2 => by rw [hc]; exact h.c0 j (by omega) h2, fun j h1 h2 => by rw [hc]; exact h.c1 j (by omega) h2, fun j h1 h2 => by rw [hc]; exact h.c2 j (by omega) h2, hf, fun j h1 h2 => BOwn.touch (h.body j (by omega) h2) k (fun _ => by omega)⟩

theorem Cpy.old {S n i : Nat} {x : Nat → It} {W : World} (h : Cpy S n i x W) (o : Nat) (ho : o < i * 3) (u : Int) : Cpy S n i x (W.setCell ⟨S, o, none⟩ (.int .i64 u)) := by
  refine ⟨fun j h1 h2 => ?_, fun j h1 h2 => ?_, fun j h1 h2 => ?_, fun o' => by rw [World.frozen?_setCell]; exact h.fz o', fun j h1 h2 => BOwn.touch (h.body j h1 h2) ((Touch.refl S W).set o _) (fun _ => by omega)⟩
  · rw [cell_off _ (by omega)]; exact h.c0 j h1 h2
  · rw [cell_off _ (by omega)]; exact h.c1 j h1 h2
  · rw [cell_off _ (by omega)]; exact h.c2 j h1 h2

set_option maxHeartbeats 1600000 in
set_option maxRecDepth 100000 in
theorem markItemS_any (S n cap : Nat) (x : Nat → It) (w : World) (h : Cpy S n 0 x w) (hn : n ≤ 1048576) (hl : sumL x n ≤ 1048576) :
    Calls Try.prog 11 #[.slice (some ⟨S, 0, none⟩) n cap, .int .i64 1] w fun e w' => ∃ k : Int, e = .returned (.int .i64 k) ∧ 0 ≤ k ∧ MarkT S (S + 1 + 4 * n) w w' := by
  have H := hide h
  clear h
  go_enter Try.func11, Try.ntmps11
  go_wp2
  go_loopw [1, 5] (fun k i wr => ∃ j : Nat, j ≤ n ∧ i = .int .i64 (j : Int) ∧ k = .int .i64 (1 + 2 * (j : Int) + (sumL x j : Nat)) ∧ Cpy S n j x wr ∧ MarkT S (S + 1 + 4 * n) w wr) (fun _ i _ => n - (intOf i).toNat)
  case atStart => exact ⟨0, Nat.zero_le _, rfl, rfl, H.out, MarkT.refl _ _ _⟩
  case round =>
    clear H
    obtain ⟨j, hj, rfl, rfl, hC, hM⟩ := hrel
    have hsj := sumL_mono x hj
    by_cases hlt : j < n
    · have hjn : (j : Int) < (n : Int) := by omega
      have hsj1 := sumL_mono x (show j + 1 ≤ n by omega)
      have HS : Hid (sumL x (j + 1) = sumL x j + (x j).len) := rfl
      have hlen : (x j).len ≤ 1048576 := by rw [HS.out] at hsj1; omega
      obtain ⟨u0, c0⟩ := hC.c0 j (Nat.le_refl _) hlt
      have f0 := hC.fz (j * 3)
      have hC1 := hC.set (j * 3) (.inl rfl) (1 + 2 * (j : Int) + (sumL x j : Nat))
      have hM1 := hM.set (g := S) (o := j * 3) (Nat.le_refl _) (by omega) (.int .i64 (1 + 2 * (j : Int) + (sumL x j : Nat)))
      have c1 := hC1.c1 j (Nat.le_refl _) hlt
      have HB := hide (hC1.body j (Nat.le_refl _) hlt)
      have HC1 := hide hC1
      have HM1 := hide hM1
      have HSe := hide HS.out
      clear hC hM hC1 hM1 HS
      generalize sumL x j = s at *
      generalize (x j).len = ln at *
      obtain ⟨k, hk⟩ : ∃ k : Int, k = 1 + 2 * (j : Int) + (s : Nat) := ⟨_, rfl⟩
      rw [← hk] at HC1 HM1 c1 HB ⊢
      have k0 : 0 ≤ k := by omega
      have k1 : k ≤ 5000000 := by omega
      have Hk := hide hk
      clear hk
      have HMk := hide (fun W (hb : BOwn W (some ⟨S + 4 + 4 * j, 0, none⟩) (S + 4 + 4 * j) 0 ln (x j).f) => markByteS_any (some ⟨S + 4 + 4 * j, 0, none⟩) (S + 4 + 4 * j) 0 ln ln (x j).f (k + 1) W hb hlen (by omega) (by omega))
      have w1 : wrap64 (k + 1) = k + 1 := by unfold wrap64; omega
      go_wp2_with fail
      refine (HMk.out _ HB.out).mono ?_
      rintro e W2 ⟨rfl, hb2, hT⟩
      have hC2 := HC1.out.marked hlt hT (f := (x j).f)
      obtain ⟨⟨⟨u2, c2⟩, f2⟩, hC3⟩ := hC2
      have f2' := f2 (j * 3 + 2)
      have HC4 := hide (hC3.old (j * 3 + 2) (by omega) (k + 1 + (ln : Int)))
      have HM4 := hide ((HM1.out.trans (MarkT.of_touch hT (by omega) (by omega))).set (g := S) (o := j * 3 + 2) (Nat.le_refl _) (by omega) (.int .i64 (k + 1 + (ln : Int))))
      clear hb2 hT hC3 f2 HC1 HM1 HB HMk c0 c1 f0
      have w2 : wrap64 (k + 1 + (ln : Int)) = k + 1 + ln := by unfold wrap64; omega
      have w3 : wrap64 (k + 1 + (ln : Int) + 1) = k + 1 + ln + 1 := by unfold wrap64; omega
      go_wp2
      go_roundw
      case rel => exact ⟨j + 1, by omega, by go_num, by rw [HSe.out, Hk.out]; congr 1; push_cast; omega, HC4.out, HM4.out⟩
      case measure => simp [intOf]; omega
    · obtain rfl : j = n := by omega
      have HM := hide hM
      clear hC hM
      go_wp2
      go_ret
      exact ⟨_, rfl, by omega, HM.out⟩

end Go.Proofs.Ytboaiojapgiedaa
