/- Walks of the law's own helpers over slices of ints: toIntS makes a copy in new memory; eqIntS tells whether two slices read alike. -/
import Derived.Test.YtjbmhfaocbhakaaDoorChecked
import Derived.Test.YtjbmhfaocbhakaaDoorBase
import Derived.Deep.QuietTactic
import Derived.BigQuiet
namespace Go.Proofs.YtjbmhfaocbhakaaDoor
set_option linter.unusedVariables false
open Go.RowKit

theorem Tryd.info3 : (Tryd.prog.info? 3).map (fun i => (i.zero, i.size, i.bytes)) = some (some (.int .i64 0), 1, 8) := by kernel_rfl

/-- What toIntS has done behind k rounds: a new row, its first k places filled. -/
structure Copying (w wr : World) (n k : Nat) (f : Nat → Int) : Prop where
  below : Below w.heap.size w wr
  size : wr.heap.size = w.heap.size + 1
  row : wr.rowIs w.heap.size 3 n (fun j => .int .i64 (if j < k then f j else 0))

theorem copying_start (w : World) (n : Nat) (f : Nat → Int) : Copying w (w.alloc (.cells (madeCells #[.int .i64 0] n) 3)) n 0 f :=
  ⟨(Below.refl _ _).alloc (Nat.le_refl _) _, by simp, (World.rowIs_made w _ n 3).congr (fun j _ => by simp)⟩

theorem copying_step {w wr : World} {n k : Nat} {f : Nat → Int} (h : Copying w wr n k f) : Copying w (wr.setCell ⟨w.heap.size, k, none⟩ (.int .i64 (f k))) n (k + 1) f := by
  refine ⟨h.below.setCell (Nat.le_refl _) _, by simp [World.setCell, h.size], (h.row.set k _).congr (fun j _ => ?_)⟩
  by_cases e : j = k
  · subst e; simp
  · rw [if_neg e]
    by_cases hlt : j < k
    · rw [if_pos hlt, if_pos (by omega)]
    · rw [if_neg hlt, if_neg (by omega)]

theorem copying_step' {w wr : World} {n k : Nat} {f : Nat → Int} {v : Int} (h : Copying w wr n k f) (hv : v = f k) : Copying w (wr.setCell ⟨w.heap.size, k, none⟩ (.int .i64 v)) n (k + 1) f := by
  rw [hv]; exact copying_step h

/-- Two lists of n ints are alike in the first n places. -/
def alike (f g : Nat → Int) : Nat → Bool
  | 0 => true
  | n + 1 => alike f g n && f n == g n

theorem alike_iff (f g : Nat → Int) (n : Nat) : alike f g n = true ↔ ∀ i, i < n → f i = g i := by
  induction n with
  | zero => simp [alike]
  | succ n ih =>
    simp only [alike, Bool.and_eq_true, ih, beq_iff_eq]
    constructor
    · rintro ⟨h, h0⟩ i hi
      by_cases e : i = n
      · subst e; exact h0
      · exact h i (by omega)
    · intro h
      exact ⟨fun i hi => h i (by omega), h n (by omega)⟩

theorem alike_false {f g : Nat → Int} {n k : Nat} (hk : k < n) (h : f k ≠ g k) : alike f g n = false := by
  cases e : alike f g n with
  | false => rfl
  | true => exact absurd ((alike_iff f g n).1 e k hk) h

theorem alike_refl (n : Nat) (f : Nat → Int) : (n == n && alike f f n) = true := by simp [(alike_iff f f n).2 (fun _ _ => rfl)]

end Go.Proofs.YtjbmhfaocbhakaaDoor
