/- Walk: the model's l1Div. -/
import Derived.Test.YtmkmojcefgcmlaaDoorLong
import Derived.Test.YtmkmojcefgcmlaaDoorNatSub
namespace Go.Proofs.YtmkmojcefgcmlaaDoor
set_option linter.unusedVariables false
open Go.RowKit

/-- In mid-division by the model: the places of the quotient from k on are done, and what is left is known. -/
structure Diving (w wr : World) (f h : Nat → Int) (n n2 k : Nat) (q : Nat → Int) (gr nr capr : Nat) (rf : Nat → Int) : Prop where
  own : Own wr (some ⟨w.heap.size, 0, none⟩) w.heap.size 0 n q
  digs : Digs q n
  low : ∀ j, j < k → q j = 0
  rest : Own wr (some ⟨gr, 0, none⟩) gr 0 nr rf
  gt : w.heap.size < gr
  cap : nr ≤ capr
  canon : Canon nr rf
  lt : val rf nr < val h n2
  val : Proofs.YtmkmojcefgcmlaaDoor.val (fun j => q (k + j)) (n - k) * Proofs.YtmkmojcefgcmlaaDoor.val h n2 + Proofs.YtmkmojcefgcmlaaDoor.val rf nr = Proofs.YtmkmojcefgcmlaaDoor.val (fun j => f (k + j)) (n - k)
  size : w.heap.size < wr.heap.size
  below : Below w.heap.size w wr

theorem rest_len {h rf : Nat → Int} {n2 nr : Nat} (hh : Digs h n2) (hc : Canon nr rf) (hlt : val rf nr < val h n2) : nr ≤ n2 := by
  by_cases e : nr ≤ n2
  · exact e
  · have := canon_lt hh hc (by omega); omega

/-- One digit more comes down. -/
theorem own_consed {w : World} {base : Nat} {v : Value} {x : Int} {nr : Nat} {rf : Nat → Int} (h : w.ownsRow base 3 1 v (1 + nr) ([.int .i64 x] ++ ints rf nr)) (hv : v ≠ .slice none 0 0) :
    ∃ g cap, v = .slice (some ⟨g, 0, none⟩) (nr + 1) cap ∧ base ≤ g ∧ nr + 1 ≤ cap ∧ Own w (some ⟨g, 0, none⟩) g 0 (nr + 1) (consF x rf) := by
  have e : [Value.int .i64 x] ++ ints rf nr = ints (consF x rf) (nr + 1) := by
    apply List.ext_getElem?
    intro i
    by_cases hi : i = 0
    · subst hi; simp [ints, consF]
    · obtain ⟨j, rfl⟩ : ∃ j, i = j + 1 := ⟨i - 1, by omega⟩
      by_cases hj : j < nr
      · simp [ints, consF, hj]
      · simp [ints, hj]
  rw [e, show 1 + nr = nr + 1 by omega] at h
  exact own_some h hv

theorem owns_one (w : World) (x : Int) : (w.alloc (.cells #[.int .i64 x] 3)).ownsRow w.heap.size 3 1 (.slice (some ⟨w.heap.size, 0, none⟩) 1 1) 1 [.int .i64 x] :=
  ⟨by simp, .inr ⟨w.heap.size, 1, #[.int .i64 x], rfl, Nat.le_refl _, heap_alloc_new w _, Nat.le_refl _, by unfold maxLen; omega, by simp, by simp⟩⟩

/-- The quotient's next digit and what is left. -/
theorem dive_val {f h q : Nat → Int} {n m n2 : Nat} {r lo : Int} (hm : m < n)
    (hv : val (fun j => q (m + 1 + j)) (n - (m + 1)) * val h n2 + r = val (fun j => f (m + 1 + j)) (n - (m + 1))) :
    val (fun j => upd q m lo (m + j)) (n - m) * val h n2 + (f m + 65536 * r - val h n2 * lo) = val (fun j => f (m + j)) (n - m) := by
  rw [← step_top f hm, ← step_top (upd q m lo) hm, ← hv, upd_same]
  rw [val_congr (f := fun j => upd q m lo (m + 1 + j)) (g := fun j => q (m + 1 + j)) (fun i _ => upd_other (by omega))]
  generalize val (fun j => q (m + 1 + j)) (n - (m + 1)) = V at *
  grind

end Go.Proofs.YtmkmojcefgcmlaaDoor
