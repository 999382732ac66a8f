/- Walks: NatBytes, the model's and the program's. -/
import Derived.Test.YtmkmojcefgcmlaaNorm
import Derived.Test.YtmkmojcefgcmlaaL1Bits
import Derived.Test.YtmkmojcefgcmlaaBLists
namespace Go.Proofs.Ytmkmojcefgcmlaa
set_option linter.unusedVariables false
open Go.RowKit

/-- The byte at a place, counted from the low end. -/
def byt (n : Nat) (f : Nat → Int) (i : Nat) : Int := if i % 2 = 0 then ext n f (i / 2) % 256 else ext n f (i / 2) / 256

/-- NatBytes' second answer. -/
def bytB (n : Nat) (f : Nat → Int) (sz : Int) : Bool := natOk n f && (decide (0 ≤ sz) && decide (sz ≤ 128)) && decide (bitsOf n f ≤ 8 * sz)

/-- The call hands back those bytes in new memory, and ok. -/
def GivesB (w : World) (m : Nat) (F : Nat → Int) (ok : Bool) (e : Ending) (w' : World) : Prop :=
  ∃ a g cap, e = .returned (.tuple #[.slice a m cap, .bool ok]) ∧ w.heap.size ≤ g ∧ BOwn w' a g 0 m F ∧ Below w.heap.size w w'

/-- NatBytes' answer. -/
def GivesBytes (w : World) (n : Nat) (f : Nat → Int) (sz : Int) (e : Ending) (w' : World) : Prop :=
  GivesB w (if bytB n f sz then sz.toNat else 0) (fun p => byt n f (sz.toNat - 1 - p)) (bytB n f sz) e w'

theorem GivesBytes.none {w w' : World} {n : Nat} {f : Nat → Int} {sz : Int} {e : Ending} {a : Option Addr} {cap : Nat} (hq : bytB n f sz = false) (he : e = .returned (.tuple #[.slice a 0 cap, .bool false])) (hb : Below w.heap.size w w') : GivesBytes w n f sz e w' := by
  unfold GivesBytes
  rw [hq]
  exact ⟨a, w.heap.size, cap, he, Nat.le_refl _, BOwn.nil _ _ _ _ _, hb⟩

theorem l1Digit_int (a : Option Addr) (b off n cap : Nat) (f : Nat → Int) (i : Nat) (ii : Int) (w : World) (hii : ii = i) (hs : Seg w a b off n f) (hn : n ≤ 1048576) (hi : i ≤ 2097152) :
    Calls Try.prog 71 #[.slice a n cap, .int .i64 ii] w fun e w' => e = .returned (.int .i64 (ext n f i)) ∧ w' = w := by
  subst hii
  exact l1Digit_any a b off n cap f i w hs hn hi

/-- What the model's NatBytes has done, the places from k on being told. -/
structure Telling (n : Nat) (f : Nat → Int) (s : Nat) (w wr : World) (v : Value) (k : Nat) : Prop where
  own : wr.ownsRow w.heap.size 5 1 v (s - k) (byts (fun p => byt n f (s - 1 - p)) (s - k))
  below : Below w.heap.size w wr

theorem telling_step {n : Nat} {f : Nat → Int} {s : Nat} {w wr w1 : World} {v v' : Value} {k : Nat} {o : Obj} {x : Int} (h : Telling n f s w wr v (k + 1)) (hk : k < s) (hx : x = byt n f k)
    (hown : w1.ownsRow w.heap.size 5 1 v' (s - (k + 1) + 1) (byts (fun p => byt n f (s - 1 - p)) (s - (k + 1)) ++ [.int .u8 x])) (hg : (wr.alloc o).grownBy w1 v.ownBlock) : Telling n f s w w1 v' k := by
  refine ⟨?_, (h.below.alloc h.below.size _).grown hg (by have := h.below.size; simp; omega) (fun j hj => (h.own.lt j hj).1)⟩
  have e : s - k = s - (k + 1) + 1 := by omega
  rw [e, byts_succ]
  rw [hx] at hown
  rw [show s - 1 - (s - (k + 1)) = k by omega]
  exact hown

theorem bone_cell (x : Int) : ∀ u ∈ [Value.int .u8 x], u.oneCell' = true := by
  intro u hu
  simp at hu
  subst hu
  rfl

end Go.Proofs.Ytmkmojcefgcmlaa
