/- Walks: IntBytes of the model and of the program. -/
import Derived.Test.YtboaiojapgiedaaBCat
import Derived.Test.YtboaiojapgiedaaRev
namespace Go.Proofs.Ytboaiojapgiedaa
set_option linter.unusedVariables false
set_option linter.unusedSimpArgs false
open Go.RowKit

/-- A new list of bytes, one's own. -/
def GivesBs (w : World) (M : Nat) (F : Nat → Int) (e : Ending) (w' : World) : Prop :=
  ∃ a g cap, e = .returned (.slice a M cap) ∧ w.heap.size ≤ g ∧ BOwn w' a g 0 M F ∧ Below w.heap.size w w'

/-- A new list of bytes, one's own, and ok. -/
def GivesBo (w : World) (M : Nat) (F : Nat → Int) (ok : Bool) (e : Ending) (w' : World) : Prop :=
  ∃ a g cap, e = .returned (.tuple #[.slice a M cap, .bool ok]) ∧ w.heap.size ≤ g ∧ BOwn w' a g 0 M F ∧ Below w.heap.size w w'

/-- One byte is enough for it. -/
def small (n : Int) : Bool := decide (-128 ≤ n) && decide (n ≤ 127)
/-- What is left of it without its k lowest bytes. -/
def hi8 (n : Int) : Nat → Int
  | 0 => n
  | k + 1 => hi8 n k / 256
/-- Its bytes, the lowest first. -/
def ib (n : Int) (k : Nat) : Int := hi8 n k % 256
/-- L bytes and one more are just enough for it. -/
structure IsLen (n : Int) (L : Nat) : Prop where
  yes : small (hi8 n L) = true
  no : ∀ j, j < L → small (hi8 n j) = false
  le : L ≤ 7

def ilen (n : Int) : Nat := if small n then 0 else if small (hi8 n 1) then 1 else if small (hi8 n 2) then 2 else if small (hi8 n 3) then 3 else if small (hi8 n 4) then 4 else if small (hi8 n 5) then 5 else if small (hi8 n 6) then 6 else 7

theorem hi8_bound (n : Int) (h0 : -9223372036854775808 ≤ n) (h1 : n ≤ 9223372036854775807) (k : Nat) : -9223372036854775808 ≤ hi8 n k ∧ hi8 n k ≤ 9223372036854775807 := by
  induction k with
  | zero => exact ⟨h0, h1⟩
  | succ k ih => simp only [hi8]; omega
theorem ilen_is (n : Int) (h0 : -9223372036854775808 ≤ n) (h1 : n ≤ 9223372036854775807) : IsLen n (ilen n) := by
  have e7 : small (hi8 n 7) = true := by
    have : hi8 n 7 = n / 256 / 256 / 256 / 256 / 256 / 256 / 256 := rfl
    simp only [this, small, Bool.and_eq_true, decide_eq_true_eq]
    omega
  have lt (j L : Nat) (h : j < L) (hL : L ≤ 7) : j = 0 ∨ j = 1 ∨ j = 2 ∨ j = 3 ∨ j = 4 ∨ j = 5 ∨ j = 6 := by omega
  unfold ilen
  have s0 : small n = small (hi8 n 0) := rfl
  rw [s0]
  cases c0 : small (hi8 n 0)
  · cases c1 : small (hi8 n 1)
    · cases c2 : small (hi8 n 2)
      · cases c3 : small (hi8 n 3)
        · cases c4 : small (hi8 n 4)
          · cases c5 : small (hi8 n 5)
            · cases c6 : small (hi8 n 6)
              · exact ⟨e7, fun j hj => by have : j < 7 := hj; rcases lt j 7 this (by omega) with rfl | rfl | rfl | rfl | rfl | rfl | rfl <;> assumption, by simp⟩
              · exact ⟨c6, fun j hj => by have : j < 6 := hj; rcases lt j 6 this (by omega) with rfl | rfl | rfl | rfl | rfl | rfl | rfl <;> first | assumption | omega, by simp⟩
            · exact ⟨c5, fun j hj => by have : j < 5 := hj; rcases lt j 5 this (by omega) with rfl | rfl | rfl | rfl | rfl | rfl | rfl <;> first | assumption | omega, by simp⟩
          · exact ⟨c4, fun j hj => by have : j < 4 := hj; rcases lt j 4 this (by omega) with rfl | rfl | rfl | rfl | rfl | rfl | rfl <;> first | assumption | omega, by simp⟩
        · exact ⟨c3, fun j hj => by have : j < 3 := hj; rcases lt j 3 this (by omega) with rfl | rfl | rfl | rfl | rfl | rfl | rfl <;> first | assumption | omega, by simp⟩
      · exact ⟨c2, fun j hj => by have : j < 2 := hj; rcases lt j 2 this (by omega) with rfl | rfl | rfl | rfl | rfl | rfl | rfl <;> first | assumption | omega, by simp⟩
    · exact ⟨c1, fun j hj => by have : j < 1 := hj; rcases lt j 1 this (by omega) with rfl | rfl | rfl | rfl | rfl | rfl | rfl <;> first | assumption | omega, by simp⟩
  · exact ⟨c0, fun j hj => by have : j < 0 := hj; omega, by simp⟩

theorem small_true {n : Int} (h : small n = true) : -128 ≤ n ∧ n ≤ 127 := by simpa [small] using h
theorem small_false {n : Int} (h : small n = false) : n < -128 ∨ 127 < n := by
  simp [small] at h
  omega

theorem byt_one (x : Int) : ([Value.int .u8 x] : List Value) = byts (fun _ => x) 1 := rfl

theorem bseg_one (w : World) (x : Int) : BSeg (w.alloc (.cells #[.int .u8 x] 5)) (some ⟨w.heap.size, 0, none⟩) w.heap.size 0 1 (fun _ => x) := ⟨fun _ => rfl, fun i hi => by
    have := Blk.alloc w [.int .u8 x] 5
    have e : i = 0 := by omega
    subst e
    exact (this 0 _ rfl).1⟩

theorem owns_one8 (w : World) (x : Int) : (w.alloc (.cells #[.int .u8 x] 5)).ownsRow w.heap.size 5 1 (.slice (some ⟨w.heap.size, 0, none⟩) 1 1) 1 (byts (fun _ => x) 1) :=
  ⟨rfl, .inr ⟨w.heap.size, 1, #[.int .u8 x], rfl, Nat.le_refl _, heap_alloc_new w _, Nat.le_refl _, by decide, by simp, by simp [byts]⟩⟩

end Go.Proofs.Ytboaiojapgiedaa
