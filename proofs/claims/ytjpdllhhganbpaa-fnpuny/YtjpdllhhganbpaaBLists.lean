/- Walks of the law's own helpers over slices of bytes: toByteS makes a copy in new memory; eqByteS tells whether two slices read alike. -/
import Derived.Test.YtjpdllhhganbpaaLists
import Derived.Test.YtjpdllhhganbpaaBBase
namespace Go.Proofs.Ytjpdllhhganbpaa
set_option linter.unusedVariables false
open Go.RowKit

theorem Try.info5 : (Try.prog.info? 5).map (fun i => (i.zero, i.size, i.bytes)) = some (some (.int .u8 0), 1, 1) := by kernel_rfl

/-- What toByteS has done behind k rounds: a new row, its first k places filled. -/
structure BCopying (w wr : World) (n k : Nat) (f : Nat → Int) : Prop where
  below : Below w.heap.size w wr
  size : wr.heap.size = w.heap.size + 1
  row : wr.rowIs w.heap.size 5 n (fun j => .int .u8 (if j < k then f j else 0))

theorem bcopying_start (w : World) (n : Nat) (f : Nat → Int) : BCopying w (w.alloc (.cells (madeCells #[.int .u8 0] n) 5)) n 0 f :=
  ⟨(Below.refl _ _).alloc (Nat.le_refl _) _, by simp, (World.rowIs_made w _ n 5).congr (fun j _ => by simp)⟩

theorem bcopying_step {w wr : World} {n k : Nat} {f : Nat → Int} (h : BCopying w wr n k f) : BCopying w (wr.setCell ⟨w.heap.size, k, none⟩ (.int .u8 (f k))) n (k + 1) f := by
  refine ⟨h.below.setCell (Nat.le_refl _) _, by simp [World.setCell, h.size], (h.row.set k _).congr (fun j _ => ?_)⟩
  by_cases e : j = k
  · subst e; simp
  · rw [if_neg e]
    by_cases hlt : j < k
    · rw [if_pos hlt, if_pos (by omega)]
    · rw [if_neg hlt, if_neg (by omega)]

theorem bcopying_step' {w wr : World} {n k : Nat} {f : Nat → Int} {v : Int} (h : BCopying w wr n k f) (hv : v = f k) : BCopying w (wr.setCell ⟨w.heap.size, k, none⟩ (.int .u8 v)) n (k + 1) f := by
  rw [hv]; exact bcopying_step h

end Go.Proofs.Ytjpdllhhganbpaa
