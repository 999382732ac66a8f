/- Plain notions for this seat's walks: a slice of ints as (length, function of the place), and a world in which nothing but the count of draws has turned. Nothing of the program. -/
import Derived.WalkKit
import Derived.Deep.OwnRows
import Derived.WalkSmall
namespace Go.Proofs.Ytojgnbckikpgmaf
open Go.RowKit

/-- A slice of n ints that leads to block b, place off: its i-th element is f i. -/
structure Seg (w : World) (a : Option Addr) (b off n : Nat) (f : Nat → Int) : Prop where
  at' : 0 < n → a = some ⟨b, off, none⟩
  cell : ∀ i, i < n → w.cell? ⟨b, off + i, none⟩ = some (.int .i64 (f i))

theorem Seg.lt {w : World} {a : Option Addr} {b off n : Nat} {f : Nat → Int} (h : Seg w a b off n f) (hn : 0 < n) : b < w.heap.size :=
  World.block_lt_of_cell? _ _ (h.cell 0 hn)

/-- What lies below B is read in a later world as before. -/
theorem Seg.below {w w' : World} {a : Option Addr} {b off n : Nat} {f : Nat → Int} (h : Seg w a b off n f) {B : Nat} (hb : Below B w w') (hB : 0 < n → b < B) : Seg w' a b off n f :=
  ⟨h.at', fun i hi => (hb.cell (p := ⟨b, off + i, none⟩) (hB (by omega))).trans (h.cell i hi)⟩

/-- The whole heap is as it was. -/
theorem Seg.of_all {w w' : World} {a : Option Addr} {b off n : Nat} {f : Nat → Int} (h : Seg w a b off n f) (hb : Below w.heap.size w w') : Seg w' a b off n f :=
  h.below hb (fun hn => h.lt hn)

theorem Seg.congr {w : World} {a : Option Addr} {b off n : Nat} {f g : Nat → Int} (h : Seg w a b off n f) (hg : ∀ i, i < n → f i = g i) : Seg w a b off n g :=
  ⟨h.at', fun i hi => by rw [h.cell i hi, hg i hi]⟩

/-- A row of the call's own, read as a slice. -/
theorem Seg.of_row {w : World} {b n : Nat} {t : TypeId} {m : Nat} {f : Nat → Int} (h : w.rowIs b t m (fun j => .int .i64 (f j))) (hn : n ≤ m) : Seg w (some ⟨b, 0, none⟩) b 0 n f :=
  ⟨fun _ => rfl, fun i hi => by rw [Nat.zero_add]; exact h.cell (by omega)⟩

theorem rowIs_below {w w' : World} {b n : Nat} {t : TypeId} {f : Nat → Value} (h : w.rowIs b t n f) {B : Nat} (hb : Below B w w') (hB : b < B) : w'.rowIs b t n f :=
  h.of_block (hb.block b hB)

/-- A digit. -/
def dig (x : Int) : Bool := decide (0 ≤ x) && decide (x ≤ 65535)

/-- The first n places hold digits. -/
def digs (f : Nat → Int) : Nat → Bool
  | 0 => true
  | n + 1 => digs f n && dig (f n)

theorem digs_iff (f : Nat → Int) (n : Nat) : digs f n = true ↔ ∀ i, i < n → 0 ≤ f i ∧ f i ≤ 65535 := by
  induction n with
  | zero => simp [digs]
  | succ n ih =>
    simp only [digs, Bool.and_eq_true, ih, dig, decide_eq_true_eq]
    constructor
    · rintro ⟨h, h0, h1⟩ i hi
      by_cases e : i = n
      · subst e; exact ⟨h0, h1⟩
      · exact h i (by omega)
    · intro h
      exact ⟨fun i hi => h i (by omega), (h n (by omega)).1, (h n (by omega)).2⟩

/-- A list of n ints is a natural. -/
def natOk (n : Nat) (f : Nat → Int) : Bool := digs f n && (decide (n ≤ 64) && (n == 0 || f (n - 1) != 0))

theorem digs_false {f : Nat → Int} {n k : Nat} (hk : k < n) (h : f k < 0 ∨ 65535 < f k) : digs f n = false := by
  cases e : digs f n with
  | false => rfl
  | true => have := (digs_iff f n).1 e k hk; omega

theorem natOk_false {f : Nat → Int} {n k : Nat} (hk : k < n) (h : f k < 0 ∨ 65535 < f k) : natOk n f = false := by
  simp [natOk, digs_false hk h]

theorem natOk_long {f : Nat → Int} {n : Nat} (h : 64 < n) : natOk n f = false := by
  have : ¬ n ≤ 64 := by omega
  simp [natOk, this]

theorem natOk_end {f : Nat → Int} {n : Nat} (hd : ∀ i, i < n → 0 ≤ f i ∧ f i ≤ 65535) : natOk n f = (decide (n ≤ 64) && (n == 0 || f (n - 1) != 0)) := by
  simp [natOk, (digs_iff f n).2 hd]

theorem natOk_iff (n : Nat) (f : Nat → Int) : natOk n f = true ↔ (∀ i, i < n → 0 ≤ f i ∧ f i ≤ 65535) ∧ n ≤ 64 ∧ (n = 0 ∨ f (n - 1) ≠ 0) := by
  simp only [natOk, Bool.and_eq_true, digs_iff, decide_eq_true_eq, Bool.or_eq_true, beq_iff_eq, bne_iff_ne]

theorem ret_bool {a b : Bool} (h : a = b) : Ending.returned (.bool a) = .returned (.bool b) := by rw [h]
theorem ret_int {k : IntKind} {a b : Int} (h : a = b) : Ending.returned (.int k a) = .returned (.int k b) := by rw [h]

end Go.Proofs.Ytojgnbckikpgmaf
