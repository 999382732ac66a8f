/- Walk: digitsCopy. -/
import Derived.Test.YtmkmojcefgcmlaaDoorNorm
import Derived.Laws.CopyOwn
namespace Go.Proofs.YtmkmojcefgcmlaaDoor
set_option linter.unusedVariables false
open Go.RowKit

theorem Tryd.size3 : (Tryd.prog.info? 3).map (·.size) = some 1 := by kernel_rfl

/-- The row behind the copy. -/
theorem row_spliced {w : World} {g size n : Nat} {f : Nat → Int} (hn : n ≤ size) (h : w.heap[g]? = some (.cells (splice (madeCells #[.int .i64 0] size).toList 0 (ints f n)).toArray 3 (0, 0))) :
    w.rowIs g 3 size (fun j => .int .i64 (ext n f j)) := by
  refine ⟨_, h, ?_, fun i hi => ?_⟩
  · simp [splice, ints_length, size_madeCells]; omega
  · simp only [splice, List.take_zero, List.nil_append, Nat.zero_add, List.getElem?_toArray]
    by_cases e : i < n
    · rw [List.getElem?_append_left (by rw [ints_length]; exact e), ext_in e]
      simp [ints, e]
    · rw [List.getElem?_append_right (by rw [ints_length]; omega), ext_out (by omega), ints_length, List.getElem?_drop]
      rw [show n + (i - n) = i by omega]
      simp [madeCells, hi, Nat.mod_one]

/-- A new list of so many digits. -/
def GivesRow (w : World) (size : Nat) (f : Nat → Int) (e : Ending) (w' : World) : Prop :=
  e = .returned (.slice (some ⟨w.heap.size, 0, none⟩) size size) ∧ Own w' (some ⟨w.heap.size, 0, none⟩) w.heap.size 0 size f ∧ w'.heap.size = w.heap.size + 1 ∧ Below w.heap.size w w'

set_option maxHeartbeats 400000 in
theorem digitsCopy_any (a : Option Addr) (b off n cap : Nat) (f : Nat → Int) (size : Nat) (w : World) (hs : Seg w a b off n f) (hn : n ≤ size) (hz : size ≤ 1048576) :
    Calls Tryd.prog 46 #[.slice a n cap, .int .i64 size] w fun e w' => e = .returned (.slice (some ⟨w.heap.size, 0, none⟩) size size) ∧ Own w' (some ⟨w.heap.size, 0, none⟩) w.heap.size 0 size (ext n f) ∧ Below w.heap.size w w' := by
  have hmk := run_make_row' (P := Tryd.prog) 27 3 (.int .i64 0) 8 Tryd.underlying27 Tryd.info3 rfl .i64 .i64 size (by omega) (by omega)
  go_enter Tryd.func46, Tryd.ntmps46
  go_wp2_with (refine wpList_copy_splice rfl (.tmp 8) (.tmp 9) 27 27 rfl 3 Tryd.underlying27 Tryd.size3 _ a size size n cap rfl rfl w.heap.size 0 (madeCells #[.int .i64 0] size).toList 3 ?c1 (ints f n) ?c2 ?c3 ?c4 (ints_one f n) w.heap.size w ((Below.refl _ _).alloc (Nat.le_refl _) _) (Nat.le_refl _) ?_)
  case c1 => simpa using heap_alloc_new w _
  case c2 => rw [ints_length]; exact (Nat.min_eq_left hn).symm
  case c3 =>
    intro h0
    rw [ints_length] at h0
    refine ⟨⟨b, off, none⟩, hs.at' h0, ?_⟩
    exact (hs.of_all ((Below.refl _ _).alloc (Nat.le_refl _) _)).news
  case c4 => rw [ints_length]; simp [size_madeCells]; omega
  intro w1 hr hb
  have hrow := row_spliced hn hr.out
  clear hr hmk
  go_wp2
  go_ret
  exact ⟨rfl, Own.of_row hrow (Nat.le_refl _), hb⟩

theorem digitsCopy_int (a : Option Addr) (b off n cap : Nat) (f : Nat → Int) (size : Nat) (sz : Int) (w : World) (hsz : sz = size) (hs : Seg w a b off n f) (hn : n ≤ size) (hz : size ≤ 1048576) :
    Calls Tryd.prog 46 #[.slice a n cap, .int .i64 sz] w fun e w' => e = .returned (.slice (some ⟨w.heap.size, 0, none⟩) size size) ∧ Own w' (some ⟨w.heap.size, 0, none⟩) w.heap.size 0 size (ext n f) ∧ Below w.heap.size w w' := by
  subst hsz
  exact digitsCopy_any a b off n cap f size w hs hn hz

end Go.Proofs.YtmkmojcefgcmlaaDoor
