/- Walks: the model's NatOf and the program's: the digits of a number that is not below 0, in new memory. -/
import Derived.Test.YtmkmojcefgcmlaaDoorChecked
import Derived.Test.YtmkmojcefgcmlaaDoorBase
import Derived.Test.YtmkmojcefgcmlaaDoorNum
import Derived.Test.YtmkmojcefgcmlaaDoorLists
import Derived.OwnWalk
import Derived.Maps.AppendAt
namespace Go.Proofs.YtmkmojcefgcmlaaDoor
set_option linter.unusedVariables false
open Go.RowKit

theorem few {x : Int} {k : Nat} (h1 : x ≤ 9223372036854775807) (h : 0 < x / pw k) : k < 4 := by
  by_cases hk : k < 4
  · exact hk
  · have hp := pw_le (show 4 ≤ k by omega)
    have h4 : pw 4 = 18446744073709551616 := by simp [pw]
    by_cases hx : 0 ≤ x
    · rw [div_small hx (by omega)] at h; omega
    · have := Int.ediv_neg_of_neg_of_pos (show x < 0 by omega) (pw_pos k)
      omega

/-- What the model's NatOf has done behind k rounds. -/
structure Ofing (x : Int) (w wr : World) (v : Value) (k : Nat) : Prop where
  small : k ≤ 4
  own : wr.ownsRow w.heap.size 3 1 v k (ints (dgt x) k)
  below : Below w.heap.size w wr
  ran : k = 0 ∨ 0 < x / pw (k - 1)

theorem ofing_step {x : Int} {w wr w1 : World} {v v' : Value} {k : Nat} {o : Obj} (h : Ofing x w wr v k) (h1 : x ≤ 9223372036854775807) (hp : 0 < x / pw k)
    (hown : w1.ownsRow w.heap.size 3 1 v' (k + 1) (ints (dgt x) k ++ [.int .i64 (dgt x k)])) (hg : (wr.alloc o).grownBy w1 v.ownBlock) : Ofing x w w1 v' (k + 1) :=
  ⟨few h1 hp, by rw [ints_succ]; exact hown, (h.below.alloc h.below.size _).grown hg (by have := h.below.size; simp; omega) (fun j hj => (h.own.lt j hj).1), .inr (by simpa using hp)⟩

/-- The call hands back a natural of value x in new memory, and true. -/
def GivesNat (w : World) (x : Int) (e : Ending) (w' : World) : Prop :=
  ∃ a g cap n f, e = .returned (.tuple #[.slice a n cap, .bool true]) ∧ n ≤ 64 ∧ Canon n f ∧ val f n = x ∧ w.heap.size ≤ g ∧ Own w' a g 0 n f ∧ Below w.heap.size w w'

end Go.Proofs.YtmkmojcefgcmlaaDoor
