/- Plain notions for this seat's walks: a slice of ints as (length, function of the place), and a world in which nothing but the count of draws has turned. Nothing of the program. -/
import Derived.WalkKit
import Derived.Deep.OwnRows
import Derived.WalkSmall
import Derived.Deep.QuietTactic
import Derived.BigQuiet
namespace Go.Proofs.Ytjpdllhhganbpaa
set_option linter.unusedVariables false
open Go.RowKit

theorem hide {p : Prop} (h : p) : Hid p := h

/-- A slice of n ints that leads to block b, place off: its i-th element is f i. -/
structure Seg (w : World) (a : Option Addr) (b off n : Nat) (f : Nat → Int) : Prop where
  at' : 0 < n → a = some ⟨b, off, none⟩
  cell : ∀ i, i < n → w.cell? ⟨b, off + i, none⟩ = some (.int .i64 (f i))

theorem Seg.lt {w : World} {a : Option Addr} {b off n : Nat} {f : Nat → Int} (h : Seg w a b off n f) (hn : 0 < n) : b < w.heap.size :=
  World.block_lt_of_cell? _ _ (h.cell 0 hn)

/-- What lies below B is read in a later world as before. -/
theorem Seg.below {w w' : World} {a : Option Addr} {b off n : Nat} {f : Nat → Int} (h : Seg w a b off n f) {B : Nat} (hb : Below B w w') (hB : 0 < n → b < B) : Seg w' a b off n f :=
  ⟨h.at', fun i hi => (hb.cell (p := ⟨b, off + i, none⟩) (hB (by omega))).trans (h.cell i hi)⟩

/-- The whole heap is as it was. -/
theorem Seg.of_all {w w' : World} {a : Option Addr} {b off n : Nat} {f : Nat → Int} (h : Seg w a b off n f) (hb : Below w.heap.size w w') : Seg w' a b off n f :=
  h.below hb (fun hn => h.lt hn)

theorem Seg.congr {w : World} {a : Option Addr} {b off n : Nat} {f g : Nat → Int} (h : Seg w a b off n f) (hg : ∀ i, i < n → f i = g i) : Seg w a b off n g :=
  ⟨h.at', fun i hi => by rw [h.cell i hi, hg i hi]⟩

/-- A row of the call's own, read as a slice. -/
theorem Seg.of_row {w : World} {b n : Nat} {t : TypeId} {m : Nat} {f : Nat → Int} (h : w.rowIs b t m (fun j => .int .i64 (f j))) (hn : n ≤ m) : Seg w (some ⟨b, 0, none⟩) b 0 n f :=
  ⟨fun _ => rfl, fun i hi => by rw [Nat.zero_add]; exact h.cell (by omega)⟩

theorem rowIs_below {w w' : World} {b n : Nat} {t : TypeId} {f : Nat → Value} (h : w.rowIs b t n f) {B : Nat} (hb : Below B w w') (hB : b < B) : w'.rowIs b t n f :=
  h.of_block (hb.block b hB)

/-- A slice whose cells are not frozen: it may be written. -/
structure Own (w : World) (a : Option Addr) (g off n : Nat) (f : Nat → Int) : Prop extends Seg w a g off n f where
  free : ∀ i, i < n → w.frozen? ⟨g, off + i, none⟩ = false

theorem Own.nil (w : World) (a : Option Addr) (g off : Nat) (f : Nat → Int) : Own w a g off 0 f :=
  ⟨⟨fun h => absurd h (Nat.lt_irrefl _), fun i hi => absurd hi (Nat.not_lt_zero _)⟩, fun i hi => absurd hi (Nat.not_lt_zero _)⟩

theorem Own.of_row {w : World} {b n : Nat} {t : TypeId} {m : Nat} {f : Nat → Int} (h : w.rowIs b t m (fun j => .int .i64 (f j))) (hn : n ≤ m) : Own w (some ⟨b, 0, none⟩) b 0 n f :=
  ⟨Seg.of_row h hn, fun i _ => h.frozen _⟩

theorem Own.congr {w : World} {a : Option Addr} {g off n : Nat} {f f' : Nat → Int} (h : Own w a g off n f) (e : ∀ i, i < n → f i = f' i) : Own w a g off n f' :=
  ⟨h.toSeg.congr e, h.free⟩

theorem Own.below {w w' : World} {a : Option Addr} {g off n : Nat} {f : Nat → Int} (h : Own w a g off n f) {B : Nat} (hb : Below B w w') (hB : 0 < n → g < B) : Own w' a g off n f :=
  ⟨h.toSeg.below hb hB, fun i hi => (hb.frozen (p := ⟨g, off + i, none⟩) (hB (by omega))).trans (h.free i hi)⟩

theorem Own.of_all {w w' : World} {a : Option Addr} {g off n : Nat} {f : Nat → Int} (h : Own w a g off n f) (hb : Below w.heap.size w w') : Own w' a g off n f :=
  h.below hb (fun hn => h.lt hn)

theorem Own.set {w : World} {a : Option Addr} {g off n : Nat} {f : Nat → Int} (h : Own w a g off n f) {k : Nat} (hk : k < n) (x : Int) :
    Own (w.setCell ⟨g, off + k, none⟩ (.int .i64 x)) a g off n (fun j => if j = k then x else f j) := by
  refine ⟨⟨h.at', fun i hi => ?_⟩, fun i hi => by rw [World.frozen?_setCell]; exact h.free i hi⟩
  by_cases e : i = k
  · subst e
    rw [World.cell?_setCell_same _ _ _ (h.cell i hi)]
    simp
  · rw [World.cell?_setCell_other _ _ _ _ (fun h => by have := congrArg Addr.off h; simp at this; omega), h.cell i hi]
    simp [e]

/-- A cut of a slice. -/
theorem Seg.cut {w : World} {a : Option Addr} {b off n : Nat} {f : Nat → Int} (h : Seg w a b off n f) {m : Nat} (hm : m ≤ n) : Seg w a b off m f :=
  ⟨fun h0 => h.at' (by omega), fun i hi => h.cell i (by omega)⟩

theorem Own.cut {w : World} {a : Option Addr} {b off n : Nat} {f : Nat → Int} (h : Own w a b off n f) {m : Nat} (hm : m ≤ n) : Own w a b off m f :=
  ⟨h.toSeg.cut hm, fun i hi => h.free i (by omega)⟩

/-- Only block g may have turned; no block has come. -/
structure Touch (g : Nat) (w w' : World) : Prop where
  grown : w.grownBy w' (some g)
  size : w'.heap.size = w.heap.size

theorem Touch.refl (g : Nat) (w : World) : Touch g w w := ⟨⟨rfl, rfl, rfl, Nat.le_refl _, fun _ _ _ => rfl⟩, rfl⟩

theorem Touch.set {g : Nat} {w wr : World} (h : Touch g w wr) (i : Nat) (v : Value) : Touch g w (wr.setCell ⟨g, i, none⟩ v) := by
  refine ⟨⟨h.grown.os, h.grown.tape, h.grown.output, by simp [World.setCell, h.size], fun k hk hne => ?_⟩, by simp [World.setCell, h.size]⟩
  rw [Below.heap_setCell _ _ _ _ (by intro e; exact hne (by rw [e]))]
  exact h.grown.block k hk hne

theorem Touch.drew {g : Nat} {w wr : World} (h : Touch g w wr) (q : Nat) : Touch g w (wr.drewN q) :=
  ⟨⟨h.grown.os, h.grown.tape, h.grown.output, h.grown.size, h.grown.block⟩, h.size⟩

theorem Touch.trans {g : Nat} {w w1 w2 : World} (h : Touch g w w1) (k : Touch g w1 w2) : Touch g w w2 :=
  ⟨⟨k.grown.os.trans h.grown.os, k.grown.tape.trans h.grown.tape, k.grown.output.trans h.grown.output, Nat.le_trans h.grown.size k.grown.size,
    fun i hi hne => (k.grown.block i (by rw [h.size]; exact hi) hne).trans (h.grown.block i hi hne)⟩, k.size.trans h.size⟩

/-- Only places off .. off + n of block g may have turned. -/
structure Spot (g off n : Nat) (w w' : World) : Prop extends Touch g w w' where
  cells : ∀ o, o < off ∨ off + n ≤ o → w'.cell? ⟨g, o, none⟩ = w.cell? ⟨g, o, none⟩
  froz : ∀ o, w'.frozen? ⟨g, o, none⟩ = w.frozen? ⟨g, o, none⟩

theorem Spot.refl (g off n : Nat) (w : World) : Spot g off n w w := ⟨Touch.refl _ _, fun _ _ => rfl, fun _ => rfl⟩

theorem Spot.set {g off n : Nat} {w wr : World} (h : Spot g off n w wr) {k : Nat} (hk : k < n) (v : Value) : Spot g off n w (wr.setCell ⟨g, off + k, none⟩ v) :=
  ⟨h.toTouch.set _ _, fun o ho => by
    rw [World.cell?_setCell_other _ _ _ _ (fun e => by have := congrArg Addr.off e; simp at this; omega)]
    exact h.cells o ho, fun o => by rw [World.frozen?_setCell]; exact h.froz o⟩

theorem Spot.trans {g off n : Nat} {w w1 w2 : World} (h : Spot g off n w w1) (k : Spot g off n w1 w2) : Spot g off n w w2 :=
  ⟨h.toTouch.trans k.toTouch, fun o ho => (k.cells o ho).trans (h.cells o ho), fun o => (k.froz o).trans (h.froz o)⟩

theorem Spot.drew {g off n : Nat} {w w1 : World} (h : Spot g off n w w1) (q : Nat) : Spot g off n w (w1.drewN q) := ⟨h.toTouch.drew q, h.cells, h.froz⟩

theorem below_touch {B g : Nat} {a w w' : World} (h : Below B a w) (ht : Touch g w w') (hg : B ≤ g) : Below B a w' :=
  h.trans ⟨ht.grown.os, ht.grown.tape, ht.grown.output, ht.grown.size, fun k hk => by
    by_cases hs : k < w.heap.size
    · exact ht.grown.block k hs (by simp; omega)
    · rw [Array.getElem?_eq_none (by rw [ht.size]; omega), Array.getElem?_eq_none (by omega)]⟩

theorem Seg.touch {w w' : World} {a : Option Addr} {b off n g : Nat} {f : Nat → Int} (h : Seg w a b off n f) (ht : Touch g w w') (hg : 0 < n → b ≠ g) : Seg w' a b off n f :=
  ⟨h.at', fun i hi => (World.cell?_of_block (a := ⟨b, off + i, none⟩) (ht.grown.block b (h.lt (by omega)) (by simp; exact hg (by omega)))).trans (h.cell i hi)⟩

theorem Own.touch {w w' : World} {a : Option Addr} {b off n g : Nat} {f : Nat → Int} (h : Own w a b off n f) (ht : Touch g w w') (hg : 0 < n → b ≠ g) : Own w' a b off n f :=
  ⟨h.toSeg.touch ht hg, fun i hi => (World.frozen?_of_block (a := ⟨b, off + i, none⟩) (ht.grown.block b (h.lt (by omega)) (by simp; exact hg (by omega)))).trans (h.free i hi)⟩

/-- The first n ints, as cells. -/
def ints (f : Nat → Int) (n : Nat) : List Value := (List.range n).map (fun i => .int .i64 (f i))

theorem ints_length (f : Nat → Int) (n : Nat) : (ints f n).length = n := by simp [ints]

theorem ints_succ (f : Nat → Int) (n : Nat) : ints f (n + 1) = ints f n ++ [.int .i64 (f n)] := by simp [ints, List.range_succ]

/-- What appends have gathered is a slice of the call's own. -/
theorem own_of_owns {w : World} {base : Nat} {e : TypeId} {v : Value} {n : Nat} {f : Nat → Int} (h : w.ownsRow base e 1 v n (ints f n)) :
    ∃ a g cap, v = .slice a n cap ∧ base ≤ g ∧ Own w a g 0 n f := by
  rcases h.2 with ⟨rfl, rfl⟩ | ⟨g, cap, cur, rfl, hg, hb, hn, hm, hs, ht⟩
  · exact ⟨none, base, 0, rfl, Nat.le_refl _, Own.nil _ _ _ _ _⟩
  · refine ⟨_, g, cap, rfl, hg, ⟨fun _ => rfl, fun i hi => ?_⟩, fun i hi => by simp [World.frozen?, hb]⟩
    have hx : (cur.toList.take (n * 1))[i]? = some (.int .i64 (f i)) := by rw [ht]; simp [ints, hi]
    rw [List.getElem?_take] at hx
    simp only [Nat.mul_one, hi, if_true] at hx
    simp [World.cell?, hb]
    simpa using hx

/-- A digit. -/
def dig (x : Int) : Bool := decide (0 ≤ x) && decide (x ≤ 65535)

/-- The first n places hold digits. -/
def digs (f : Nat → Int) : Nat → Bool
  | 0 => true
  | n + 1 => digs f n && dig (f n)

theorem digs_iff (f : Nat → Int) (n : Nat) : digs f n = true ↔ ∀ i, i < n → 0 ≤ f i ∧ f i ≤ 65535 := by
  induction n with
  | zero => simp [digs]
  | succ n ih =>
    simp only [digs, Bool.and_eq_true, ih, dig, decide_eq_true_eq]
    constructor
    · rintro ⟨h, h0, h1⟩ i hi
      by_cases e : i = n
      · subst e; exact ⟨h0, h1⟩
      · exact h i (by omega)
    · intro h
      exact ⟨fun i hi => h i (by omega), (h n (by omega)).1, (h n (by omega)).2⟩

/-- A list of n ints is a natural. -/
def natOk (n : Nat) (f : Nat → Int) : Bool := digs f n && (decide (n ≤ 64) && (n == 0 || f (n - 1) != 0))

theorem digs_false {f : Nat → Int} {n k : Nat} (hk : k < n) (h : f k < 0 ∨ 65535 < f k) : digs f n = false := by
  cases e : digs f n with
  | false => rfl
  | true => have := (digs_iff f n).1 e k hk; omega

theorem natOk_false {f : Nat → Int} {n k : Nat} (hk : k < n) (h : f k < 0 ∨ 65535 < f k) : natOk n f = false := by
  simp [natOk, digs_false hk h]

theorem natOk_long {f : Nat → Int} {n : Nat} (h : 64 < n) : natOk n f = false := by
  have : ¬ n ≤ 64 := by omega
  simp [natOk, this]

theorem natOk_end {f : Nat → Int} {n : Nat} (hd : ∀ i, i < n → 0 ≤ f i ∧ f i ≤ 65535) : natOk n f = (decide (n ≤ 64) && (n == 0 || f (n - 1) != 0)) := by
  simp [natOk, (digs_iff f n).2 hd]

theorem natOk_iff (n : Nat) (f : Nat → Int) : natOk n f = true ↔ (∀ i, i < n → 0 ≤ f i ∧ f i ≤ 65535) ∧ n ≤ 64 ∧ (n = 0 ∨ f (n - 1) ≠ 0) := by
  simp only [natOk, Bool.and_eq_true, digs_iff, decide_eq_true_eq, Bool.or_eq_true, beq_iff_eq, bne_iff_ne]

theorem ret_bool {a b : Bool} (h : a = b) : Ending.returned (.bool a) = .returned (.bool b) := by rw [h]
theorem ret_int {k : IntKind} {a b : Int} (h : a = b) : Ending.returned (.int k a) = .returned (.int k b) := by rw [h]

/-- Only draws lie between. -/
def Drawn (w w' : World) : Prop := ∃ q, w' = w.drewN q

theorem Drawn.refl (w : World) : Drawn w w := ⟨0, rfl⟩
theorem Drawn.more {w w' : World} (h : Drawn w w') (q : Nat) : Drawn w (w'.drewN q) := by
  obtain ⟨p, rfl⟩ := h
  exact ⟨_, World.drewN_drewN ..⟩
theorem Drawn.below {w w' : World} (h : Drawn w w') (B : Nat) : Below B w w' := by
  obtain ⟨p, rfl⟩ := h
  exact below_drewN (Below.refl _ _) p

end Go.Proofs.Ytjpdllhhganbpaa
