/- Walks: sums: the model's l1Add and the program's addDigits; what fits. -/
import Derived.Test.YtmkmojcefgcmlaaDoorCopies
import Derived.Test.YtmkmojcefgcmlaaDoorArith
import Derived.Test.YtmkmojcefgcmlaaDoorBits
import Derived.Test.YtmkmojcefgcmlaaDoorNatOk
namespace Go.Proofs.YtmkmojcefgcmlaaDoor
set_option linter.unusedVariables false
open Go.RowKit

/-- A new canonical list of that value. -/
def GivesVal (w : World) (x : Int) (e : Ending) (w' : World) : Prop :=
  ∃ g cap n f, e = .returned (.slice (some ⟨g, 0, none⟩) n cap) ∧ n ≤ 1048576 ∧ n ≤ cap ∧ Canon n f ∧ val f n = x ∧ w.heap.size ≤ g ∧ Own w' (some ⟨g, 0, none⟩) g 0 n f ∧ Below w.heap.size w w'

/-- What a list of digits comes to without its noughts. -/
theorem GivesNorm.val {w0 w w' : World} {n : Nat} {f : Nat → Int} {e : Ending} (h : GivesNorm w n f e w') (hb : Below w0.heap.size w0 w) (hd : Digs f n) (hn : n ≤ 1048576) : GivesVal w0 (val f n) e w' := by
  obtain ⟨g, cap, m, rfl, hm, hc, hz, hl, hg, hO, hB⟩ := h
  exact ⟨g, cap, m, f, rfl, by omega, hc, ⟨hd.mono hm, hl⟩, val_noughts hm hz, Nat.le_trans hb.size hg, hO, hb.trans (hB.mono hb.size)⟩

theorem one_cell (x : Int) : ∀ u ∈ [Value.int .i64 x], u.oneCell' = true := by
  intro u hu
  simp at hu
  subst hu
  rfl

/-- What l1Add has done behind k rounds. -/
structure Adding (A B : Nat → Int) (w wr : World) (v : Value) (n n2 k : Nat) : Prop where
  small : k ≤ max n n2 + 1
  last : k = max n n2 + 1 → addC A B k = 0
  own : wr.ownsRow w.heap.size 3 1 v k (ints (addD A B) k)
  notnil : v ≠ .slice none 0 0
  below : Below w.heap.size w wr

theorem adding_step {A B : Nat → Int} {w wr w1 : World} {v v' : Value} {n n2 k : Nat} {o : Obj} (h : Adding A B w wr v n n2 k) (hl : k + 1 = max n n2 + 1 → addC A B (k + 1) = 0) (hk : k + 1 ≤ max n n2 + 1)
    (hown : w1.ownsRow w.heap.size 3 1 v' (k + 1) (ints (addD A B) k ++ [.int .i64 (addD A B k)])) (hg : (wr.alloc o).grownBy w1 v.ownBlock) (hv : v' ≠ .slice none 0 0) : Adding A B w w1 v' n n2 (k + 1) :=
  ⟨hk, hl, by rw [ints_succ]; exact hown, hv, (h.below.alloc h.below.size _).grown hg (by have := h.below.size; simp; omega) (fun j hj => (h.own.lt j hj).1)⟩

end Go.Proofs.YtmkmojcefgcmlaaDoor
