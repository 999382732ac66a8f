/- Blocks of numbers; a region's list stepped. Nothing of the program. -/
import Derived.Test.YtjkojofpkeglpabShaK
import Derived.Test.YtjkojofpkeglpabStepsC
namespace Go.Proofs.Ytjkojofpkeglpab
set_option linter.unusedVariables false
set_option linter.unusedSimpArgs false
open Go.RowKit

/-- As turnV, the count a number. -/
def turnI (x m : Int) : Int := turnV x m.toNat

/-- Block C holds n numbers, unfrozen. -/
def Arr (w : World) (C n : Nat) (k : IntKind) (f : Nat → Int) : Prop := ∀ i, i < n → w.cell? ⟨C, i, none⟩ = some (.int k (f i)) ∧ w.frozen? ⟨C, i, none⟩ = false

theorem Arr.lt {w : World} {C n : Nat} {k : IntKind} {f : Nat → Int} (h : Arr w C n k f) (hn : 0 < n) : C < w.heap.size := World.block_lt_of_cell? _ _ (h 0 hn).1
theorem Arr.ext {w w' : World} {C n : Nat} {k : IntKind} {f : Nat → Int} (h : Arr w C n k f) (he : Ext w w') : Arr w' C n k f := fun i hi => by
  have hb : Blk w C [] := fun _ _ h => by simp at h
  obtain ⟨h1, h2⟩ := h i hi
  have hc : C < w.heap.size := World.block_lt_of_cell? _ _ h1
  have e := Below.block he C hc
  exact ⟨(World.cell?_of_block (a := ⟨C, i, none⟩) e).trans h1, (World.frozen?_of_block (a := ⟨C, i, none⟩) e).trans h2⟩
theorem Arr.set {w : World} {C n : Nat} {k : IntKind} {f : Nat → Int} (h : Arr w C n k f) {t : Nat} (ht : t < n) (x : Int) : Arr (w.setCell ⟨C, t, none⟩ (.int k x)) C n k (fun i => if i = t then x else f i) := fun i hi => by
  refine ⟨?_, by rw [World.frozen?_setCell]; exact (h i hi).2⟩
  by_cases e : i = t
  · subst e
    simp [World.cell?_setCell_same _ _ _ (h i hi).1]
  · rw [World.cell?_setCell_other _ _ _ _ (by simp [e])]
    simp [e, (h i hi).1]
theorem Arr.other {w : World} {C D n : Nat} {k : IntKind} {f : Nat → Int} (h : Arr w C n k f) (ne : C ≠ D) (t : Nat) (v : Value) : Arr (w.setCell ⟨D, t, none⟩ v) C n k f := fun i hi =>
  ⟨by rw [World.cell?_setCell_other _ _ _ _ (by simp [ne])]; exact (h i hi).1, by rw [World.frozen?_setCell]; exact (h i hi).2⟩
theorem Arr.congr {w : World} {C n : Nat} {k : IntKind} {f g : Nat → Int} (h : Arr w C n k f) (e : ∀ i, i < n → f i = g i) : Arr w C n k g := fun i hi => by rw [← e i hi]; exact h i hi
theorem Arr.of_blk {w : World} {C n : Nat} {k : IntKind} {f : Nat → Int} {vs : List Value} (h : Blk w C vs) (e : ∀ i, i < n → vs[i]? = some (.int k (f i))) : Arr w C n k f := fun i hi => h i _ (e i hi)

theorem wpList_step {P : Program} {ops : Array Oper} {Q : Exit → Act → World → Prop} {o : Oper} {rest : List Oper} {a : Act} {w : World} (hw : Region.wanted o (yielded ops a.tmps) = true) (h : o.wp P a w (wpList P ops Q rest) Q) : wpList P ops Q (o :: rest) a w := by
  rw [wpList]; simp only [hw, if_true]; exact Or.inl h

theorem Ext.set {a w : World} (h : Ext a w) {C : Nat} (hC : a.heap.size ≤ C) (i : Nat) (v : Value) : Ext a (w.setCell ⟨C, i, none⟩ v) := Below.setCell (p := ⟨C, i, none⟩) h hC v

theorem zero_one (n : Nat) : ∀ v ∈ List.replicate n (Value.int .u32 0), v.oneCell' = true := fun v h => by rw [(List.mem_replicate.1 h).2]; rfl

theorem Arr.blk8 {w : World} {C : Nat} {k : IntKind} {f : Nat → Int} (h : Arr w C 8 k f) : Blk w C [.int k (f 0), .int k (f 1), .int k (f 2), .int k (f 3), .int k (f 4), .int k (f 5), .int k (f 6), .int k (f 7)] := fun i v hi => by
  have hl : i < 8 := (List.getElem?_eq_some_iff.1 hi).1
  have : i = 0 ∨ i = 1 ∨ i = 2 ∨ i = 3 ∨ i = 4 ∨ i = 5 ∨ i = 6 ∨ i = 7 := by omega
  rcases this with rfl | rfl | rfl | rfl | rfl | rfl | rfl | rfl <;> (cases hi; exact h _ (by omega))
theorem Arr.of_blk8 {w : World} {C : Nat} {k : IntKind} {f : Nat → Int} (h : Blk w C [.int k (f 0), .int k (f 1), .int k (f 2), .int k (f 3), .int k (f 4), .int k (f 5), .int k (f 6), .int k (f 7)]) : Arr w C 8 k f := Arr.of_blk h (fun i hi => by
  have : i = 0 ∨ i = 1 ∨ i = 2 ∨ i = 3 ∨ i = 4 ∨ i = 5 ∨ i = 6 ∨ i = 7 := by omega
  rcases this with rfl | rfl | rfl | rfl | rfl | rfl | rfl | rfl <;> rfl)
theorem Arr.putL_other {w : World} {C D n : Nat} {k : IntKind} {f : Nat → Int} (h : Arr w C n k f) (ne : C ≠ D) (vs : List Value) : Arr (putL D 0 vs w) C n k f := fun i hi =>
  ⟨(cell_putL_other D _ vs 0 w (fun e => absurd e ne)).trans (h i hi).1, (frozen_putL D _ vs 0 w).trans (h i hi).2⟩

end Go.Proofs.Ytjkojofpkeglpab
