/- Walks: NatRead, the model's and the program's. -/
import Derived.Test.YtmkmojcefgcmlaaNorm
import Derived.Test.YtmkmojcefgcmlaaBLists
import Derived.Test.YtmkmojcefgcmlaaBits
import Derived.RegionTactic
import Derived.ChangeAlike
import Derived.BigRegion
namespace Go.Proofs.Ytmkmojcefgcmlaa
set_option linter.unusedVariables false
open Go.RowKit

/-- The byte at a place, counted from the end. -/
def rb (n : Nat) (f : Nat → Int) (i : Nat) : Int := if i < n then f (n - 1 - i) else 0

/-- The digit at a place. -/
def rd (n : Nat) (f : Nat → Int) (j : Nat) : Int := rb n f (2 * j) + 256 * rb n f (2 * j + 1)

/-- The digits when k bytes are read. -/
def rdK (n : Nat) (f : Nat → Int) (k j : Nat) : Int := (if 2 * j < k then rb n f (2 * j) else 0) + 256 * (if 2 * j + 1 < k then rb n f (2 * j + 1) else 0)

def Byts (f : Nat → Int) (n : Nat) : Prop := ∀ i, i < n → 0 ≤ f i ∧ f i ≤ 255

theorem rb_bd {n : Nat} {f : Nat → Int} (h : Byts f n) (i : Nat) : 0 ≤ rb n f i ∧ rb n f i ≤ 255 := by
  unfold rb
  by_cases e : i < n
  · rw [if_pos e]; exact h _ (by omega)
  · rw [if_neg e]; omega

theorem rd_digs {n : Nat} {f : Nat → Int} (h : Byts f n) (m : Nat) : Digs (rd n f) m := fun i _ => by
  have h1 := rb_bd h (2 * i)
  have h2 := rb_bd h (2 * i + 1)
  unfold rd
  omega

/-- NatRead's answer. -/
def readQ (n : Nat) (f : Nat → Int) : Option Int := if n ≤ 128 then some (val (rd n f) ((n + 1) / 2)) else none

theorem one_cell' (x : Int) : ∀ u ∈ [Value.int .i64 x], u.oneCell' = true := by
  intro u hu
  simp at hu
  subst hu
  rfl

structure Reading (n : Nat) (f : Nat → Int) (w wr : World) (v : Value) (k : Nat) : Prop where
  own : wr.ownsRow w.heap.size 3 1 v k (ints (rd n f) k)
  notnil : v ≠ .slice none 0 0
  below : Below w.heap.size w wr

theorem reading_step {n : Nat} {f : Nat → Int} {w wr w1 : World} {v v' : Value} {k : Nat} {o : Obj} {x : Int} (h : Reading n f w wr v k) (hx : x = rd n f k)
    (hown : w1.ownsRow w.heap.size 3 1 v' (k + 1) (ints (rd n f) k ++ [.int .i64 x])) (hg : (wr.alloc o).grownBy w1 v.ownBlock) (hv : v' ≠ .slice none 0 0) : Reading n f w w1 v' (k + 1) :=
  ⟨by rw [ints_succ, ← hx]; exact hown, hv, (h.below.alloc h.below.size _).grown hg (by have := h.below.size; simp; omega) (fun j hj => (h.own.lt j hj).1)⟩

end Go.Proofs.Ytmkmojcefgcmlaa
