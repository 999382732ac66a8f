/- Plain notions for this seat's walks: a slice of ints as (length, function of the place), and a world in which nothing but the count of draws has turned. Nothing of the program. Walks of the law's own helpers over slices of ints: toIntS makes a copy in new memory; eqIntS tells whether two slices read alike. Plain notions for walks over slices of bytes, made of those over ints. Nothing of the program. Walks of the law's own helpers over slices of bytes: toByteS makes a copy in new memory; eqByteS tells whether two slices read alike. A region that draws its order: operations that read and calls that lay blocks may be taken first, in the order of the text, though an allocation or a store of the region floats among them. Nothing of the program. A region that draws its order, step by step: what only reads or lays blocks is taken first, of what else may come up each is gone through. Nothing of the program. A region that draws its order, step by step, in which calls turn one block C (a cursor): what only reads other memory or lays blocks is taken first, of what else may come up each is gone through. Nothing of the program. -/
import Derived.WalkKit
import Derived.Deep.OwnRows
import Derived.WalkSmall
import Derived.Deep.QuietTactic
import Derived.BigQuiet
import Derived.Test.YtgdjaapjdmancaaGreatDoorChecked
import Derived.Lib.QuietBelow
import Derived.OrdersHeld
import Derived.StillTail
namespace Go.Proofs.YtgdjaapjdmancaaGreatDoor

section
set_option linter.unusedVariables false

open Go.RowKit

theorem hide {p : Prop} (h : p) : Hid p := h

/-- A slice of n ints that leads to block b, place off: its i-th element is f i. -/
structure Seg (w : World) (a : Option Addr) (b off n : Nat) (f : Nat → Int) : Prop where
  at' : 0 < n → a = some ⟨b, off, none⟩
  cell : ∀ i, i < n → w.cell? ⟨b, off + i, none⟩ = some (.int .i64 (f i))

theorem Seg.lt {w : World} {a : Option Addr} {b off n : Nat} {f : Nat → Int} (h : Seg w a b off n f) (hn : 0 < n) : b < w.heap.size :=
  World.block_lt_of_cell? _ _ (h.cell 0 hn)

/-- What lies below B is read in a later world as before. -/
theorem Seg.below {w w' : World} {a : Option Addr} {b off n : Nat} {f : Nat → Int} (h : Seg w a b off n f) {B : Nat} (hb : Below B w w') (hB : 0 < n → b < B) : Seg w' a b off n f :=
  ⟨h.at', fun i hi => (hb.cell (p := ⟨b, off + i, none⟩) (hB (by omega))).trans (h.cell i hi)⟩

/-- The whole heap is as it was. -/
theorem Seg.of_all {w w' : World} {a : Option Addr} {b off n : Nat} {f : Nat → Int} (h : Seg w a b off n f) (hb : Below w.heap.size w w') : Seg w' a b off n f :=
  h.below hb (fun hn => h.lt hn)

theorem Seg.congr {w : World} {a : Option Addr} {b off n : Nat} {f g : Nat → Int} (h : Seg w a b off n f) (hg : ∀ i, i < n → f i = g i) : Seg w a b off n g :=
  ⟨h.at', fun i hi => by rw [h.cell i hi, hg i hi]⟩

/-- A row of the call's own, read as a slice. -/
theorem Seg.of_row {w : World} {b n : Nat} {t : TypeId} {m : Nat} {f : Nat → Int} (h : w.rowIs b t m (fun j => .int .i64 (f j))) (hn : n ≤ m) : Seg w (some ⟨b, 0, none⟩) b 0 n f :=
  ⟨fun _ => rfl, fun i hi => by rw [Nat.zero_add]; exact h.cell (by omega)⟩

theorem rowIs_below {w w' : World} {b n : Nat} {t : TypeId} {f : Nat → Value} (h : w.rowIs b t n f) {B : Nat} (hb : Below B w w') (hB : b < B) : w'.rowIs b t n f :=
  h.of_block (hb.block b hB)

/-- A slice whose cells are not frozen: it may be written. -/
structure Own (w : World) (a : Option Addr) (g off n : Nat) (f : Nat → Int) : Prop extends Seg w a g off n f where
  free : ∀ i, i < n → w.frozen? ⟨g, off + i, none⟩ = false

theorem Own.nil (w : World) (a : Option Addr) (g off : Nat) (f : Nat → Int) : Own w a g off 0 f :=
  ⟨⟨fun h => absurd h (Nat.lt_irrefl _), fun i hi => absurd hi (Nat.not_lt_zero _)⟩, fun i hi => absurd hi (Nat.not_lt_zero _)⟩

theorem Own.of_row {w : World} {b n : Nat} {t : TypeId} {m : Nat} {f : Nat → Int} (h : w.rowIs b t m (fun j => .int .i64 (f j))) (hn : n ≤ m) : Own w (some ⟨b, 0, none⟩) b 0 n f :=
  ⟨Seg.of_row h hn, fun i _ => h.frozen _⟩

theorem Own.congr {w : World} {a : Option Addr} {g off n : Nat} {f f' : Nat → Int} (h : Own w a g off n f) (e : ∀ i, i < n → f i = f' i) : Own w a g off n f' :=
  ⟨h.toSeg.congr e, h.free⟩

theorem Own.below {w w' : World} {a : Option Addr} {g off n : Nat} {f : Nat → Int} (h : Own w a g off n f) {B : Nat} (hb : Below B w w') (hB : 0 < n → g < B) : Own w' a g off n f :=
  ⟨h.toSeg.below hb hB, fun i hi => (hb.frozen (p := ⟨g, off + i, none⟩) (hB (by omega))).trans (h.free i hi)⟩

theorem Own.of_all {w w' : World} {a : Option Addr} {g off n : Nat} {f : Nat → Int} (h : Own w a g off n f) (hb : Below w.heap.size w w') : Own w' a g off n f :=
  h.below hb (fun hn => h.lt hn)

theorem Own.set {w : World} {a : Option Addr} {g off n : Nat} {f : Nat → Int} (h : Own w a g off n f) {k : Nat} (hk : k < n) (x : Int) :
    Own (w.setCell ⟨g, off + k, none⟩ (.int .i64 x)) a g off n (fun j => if j = k then x else f j) := by
  refine ⟨⟨h.at', fun i hi => ?_⟩, fun i hi => by rw [World.frozen?_setCell]; exact h.free i hi⟩
  by_cases e : i = k
  · subst e
    rw [World.cell?_setCell_same _ _ _ (h.cell i hi)]
    simp
  · rw [World.cell?_setCell_other _ _ _ _ (fun h => by have := congrArg Addr.off h; simp at this; omega), h.cell i hi]
    simp [e]

/-- Only block g may have turned; no block has come. -/
structure Touch (g : Nat) (w w' : World) : Prop where
  grown : w.grownBy w' (some g)
  size : w'.heap.size = w.heap.size

theorem Touch.refl (g : Nat) (w : World) : Touch g w w := ⟨⟨rfl, rfl, rfl, Nat.le_refl _, fun _ _ _ => rfl⟩, rfl⟩

theorem Touch.set {g : Nat} {w wr : World} (h : Touch g w wr) (i : Nat) (v : Value) : Touch g w (wr.setCell ⟨g, i, none⟩ v) := by
  refine ⟨⟨h.grown.os, h.grown.tape, h.grown.output, by simp [World.setCell, h.size], fun k hk hne => ?_⟩, by simp [World.setCell, h.size]⟩
  rw [Below.heap_setCell _ _ _ _ (by intro e; exact hne (by rw [e]))]
  exact h.grown.block k hk hne

theorem Touch.drew {g : Nat} {w wr : World} (h : Touch g w wr) (q : Nat) : Touch g w (wr.drewN q) :=
  ⟨⟨h.grown.os, h.grown.tape, h.grown.output, h.grown.size, h.grown.block⟩, h.size⟩

theorem Touch.trans {g : Nat} {w w1 w2 : World} (h : Touch g w w1) (k : Touch g w1 w2) : Touch g w w2 :=
  ⟨⟨k.grown.os.trans h.grown.os, k.grown.tape.trans h.grown.tape, k.grown.output.trans h.grown.output, Nat.le_trans h.grown.size k.grown.size,
    fun i hi hne => (k.grown.block i (by rw [h.size]; exact hi) hne).trans (h.grown.block i hi hne)⟩, k.size.trans h.size⟩

/-- Only places off .. off + n of block g may have turned. -/
structure Spot (g off n : Nat) (w w' : World) : Prop extends Touch g w w' where
  cells : ∀ o, o < off ∨ off + n ≤ o → w'.cell? ⟨g, o, none⟩ = w.cell? ⟨g, o, none⟩
  froz : ∀ o, w'.frozen? ⟨g, o, none⟩ = w.frozen? ⟨g, o, none⟩

theorem Spot.refl (g off n : Nat) (w : World) : Spot g off n w w := ⟨Touch.refl _ _, fun _ _ => rfl, fun _ => rfl⟩

theorem Spot.set {g off n : Nat} {w wr : World} (h : Spot g off n w wr) {k : Nat} (hk : k < n) (v : Value) : Spot g off n w (wr.setCell ⟨g, off + k, none⟩ v) :=
  ⟨h.toTouch.set _ _, fun o ho => by
    rw [World.cell?_setCell_other _ _ _ _ (fun e => by have := congrArg Addr.off e; simp at this; omega)]
    exact h.cells o ho, fun o => by rw [World.frozen?_setCell]; exact h.froz o⟩

theorem Spot.trans {g off n : Nat} {w w1 w2 : World} (h : Spot g off n w w1) (k : Spot g off n w1 w2) : Spot g off n w w2 :=
  ⟨h.toTouch.trans k.toTouch, fun o ho => (k.cells o ho).trans (h.cells o ho), fun o => (k.froz o).trans (h.froz o)⟩

theorem Spot.drew {g off n : Nat} {w w1 : World} (h : Spot g off n w w1) (q : Nat) : Spot g off n w (w1.drewN q) := ⟨h.toTouch.drew q, h.cells, h.froz⟩

theorem below_touch {B g : Nat} {a w w' : World} (h : Below B a w) (ht : Touch g w w') (hg : B ≤ g) : Below B a w' :=
  h.trans ⟨ht.grown.os, ht.grown.tape, ht.grown.output, ht.grown.size, fun k hk => by
    by_cases hs : k < w.heap.size
    · exact ht.grown.block k hs (by simp; omega)
    · rw [Array.getElem?_eq_none (by rw [ht.size]; omega), Array.getElem?_eq_none (by omega)]⟩

theorem Seg.touch {w w' : World} {a : Option Addr} {b off n g : Nat} {f : Nat → Int} (h : Seg w a b off n f) (ht : Touch g w w') (hg : 0 < n → b ≠ g) : Seg w' a b off n f :=
  ⟨h.at', fun i hi => (World.cell?_of_block (a := ⟨b, off + i, none⟩) (ht.grown.block b (h.lt (by omega)) (by simp; exact hg (by omega)))).trans (h.cell i hi)⟩

theorem Own.touch {w w' : World} {a : Option Addr} {b off n g : Nat} {f : Nat → Int} (h : Own w a b off n f) (ht : Touch g w w') (hg : 0 < n → b ≠ g) : Own w' a b off n f :=
  ⟨h.toSeg.touch ht hg, fun i hi => (World.frozen?_of_block (a := ⟨b, off + i, none⟩) (ht.grown.block b (h.lt (by omega)) (by simp; exact hg (by omega)))).trans (h.free i hi)⟩

/-- The first n ints, as cells. -/
def ints (f : Nat → Int) (n : Nat) : List Value := (List.range n).map (fun i => .int .i64 (f i))

/-- A digit. -/
def dig (x : Int) : Bool := decide (0 ≤ x) && decide (x ≤ 65535)

/-- The first n places hold digits. -/
def digs (f : Nat → Int) : Nat → Bool
  | 0 => true
  | n + 1 => digs f n && dig (f n)

/-- A list of n ints is a natural. -/
def natOk (n : Nat) (f : Nat → Int) : Bool := digs f n && (decide (n ≤ 64) && (n == 0 || f (n - 1) != 0))

theorem ret_bool {a b : Bool} (h : a = b) : Ending.returned (.bool a) = .returned (.bool b) := by rw [h]

/-- Only draws lie between. -/
def Drawn (w w' : World) : Prop := ∃ q, w' = w.drewN q

theorem Drawn.refl (w : World) : Drawn w w := ⟨0, rfl⟩

theorem Drawn.more {w w' : World} (h : Drawn w w') (q : Nat) : Drawn w (w'.drewN q) := by
  obtain ⟨p, rfl⟩ := h
  exact ⟨_, World.drewN_drewN ..⟩

theorem Drawn.below {w w' : World} (h : Drawn w w') (B : Nat) : Below B w w' := by
  obtain ⟨p, rfl⟩ := h
  exact below_drewN (Below.refl _ _) p
end

section
set_option linter.unusedVariables false

open Go.RowKit

theorem Tryz.info3 : (Tryz.prog.info? 3).map (fun i => (i.zero, i.size, i.bytes)) = some (some (.int .i64 0), 1, 8) := by kernel_rfl

/-- What toIntS has done behind k rounds: a new row, its first k places filled. -/
structure Copying (w wr : World) (n k : Nat) (f : Nat → Int) : Prop where
  below : Below w.heap.size w wr
  size : wr.heap.size = w.heap.size + 1
  row : wr.rowIs w.heap.size 3 n (fun j => .int .i64 (if j < k then f j else 0))

theorem copying_start (w : World) (n : Nat) (f : Nat → Int) : Copying w (w.alloc (.cells (madeCells #[.int .i64 0] n) 3)) n 0 f :=
  ⟨(Below.refl _ _).alloc (Nat.le_refl _) _, by simp, (World.rowIs_made w _ n 3).congr (fun j _ => by simp)⟩

theorem copying_step {w wr : World} {n k : Nat} {f : Nat → Int} (h : Copying w wr n k f) : Copying w (wr.setCell ⟨w.heap.size, k, none⟩ (.int .i64 (f k))) n (k + 1) f := by
  refine ⟨h.below.setCell (Nat.le_refl _) _, by simp [World.setCell, h.size], (h.row.set k _).congr (fun j _ => ?_)⟩
  by_cases e : j = k
  · subst e; simp
  · rw [if_neg e]
    by_cases hlt : j < k
    · rw [if_pos hlt, if_pos (by omega)]
    · rw [if_neg hlt, if_neg (by omega)]

set_option maxHeartbeats 400000 in
theorem toIntS_any (a : Option Addr) (b off n cap : Nat) (f : Nat → Int) (w : World) (hs : Seg w a b off n f) (hn : n ≤ 1048576) :
    Calls Tryz.prog 23 #[.slice a n cap] w fun e w' => e = .returned (.slice (some ⟨w.heap.size, 0, none⟩) n n) ∧ w'.heap.size = w.heap.size + 1 ∧ w'.rowIs w.heap.size 3 n (fun j => .int .i64 (f j)) ∧ Below w.heap.size w w' := by
  have hmk := run_make_row' (P := Tryz.prog) 23 3 (.int .i64 0) 8 Tryz.underlying23 Tryz.info3 rfl .i64 .i64 n (by omega) (by omega)
  go_enter Tryz.func23, Tryz.ntmps23
  go_wp2
  clear hmk
  go_loopw [4] (fun i wr => ∃ k : Nat, k ≤ n ∧ i = .int .i64 k ∧ Copying w wr n k f) (fun i _ => n - (intOf i).toNat)
  case atStart => exact ⟨0, Nat.zero_le _, rfl, copying_start w n f⟩
  case round =>
    obtain ⟨k, hk, rfl, hI⟩ := hrel
    by_cases hlt : k < n
    · obtain rfl := hs.at' (by omega)
      have hc : wr.cell? ⟨b, off + k, none⟩ = some (.int .i64 (f k)) := (hI.below.cell (p := ⟨b, off + k, none⟩) (hs.lt (by omega))).trans (hs.cell k hlt)
      have hd : wr.cell? ⟨w.heap.size, k, none⟩ = some (.int .i64 0) := by simpa using hI.row.cell hlt
      have hf : wr.frozen? ⟨w.heap.size, k, none⟩ = false := hI.row.frozen k
      have hkn : (k : Int) < (n : Int) := by omega
      go_wp2
      go_roundw
      case rel => exact ⟨k + 1, by omega, by go_num, copying_step hI⟩
      case measure => simp [intOf]; omega
    · obtain rfl : k = n := by omega
      go_wp2
      go_ret
      exact ⟨rfl, hI.size, hI.row.congr (fun j hj => by rw [if_pos hj]), hI.below⟩

/-- Two lists of n ints are alike in the first n places. -/
def alike (f g : Nat → Int) : Nat → Bool
  | 0 => true
  | n + 1 => alike f g n && f n == g n

theorem alike_iff (f g : Nat → Int) (n : Nat) : alike f g n = true ↔ ∀ i, i < n → f i = g i := by
  induction n with
  | zero => simp [alike]
  | succ n ih =>
    simp only [alike, Bool.and_eq_true, ih, beq_iff_eq]
    constructor
    · rintro ⟨h, h0⟩ i hi
      by_cases e : i = n
      · subst e; exact h0
      · exact h i (by omega)
    · intro h
      exact ⟨fun i hi => h i (by omega), h n (by omega)⟩

theorem alike_false {f g : Nat → Int} {n k : Nat} (hk : k < n) (h : f k ≠ g k) : alike f g n = false := by
  cases e : alike f g n with
  | false => rfl
  | true => exact absurd ((alike_iff f g n).1 e k hk) h

set_option maxHeartbeats 400000 in
theorem eqIntS_any (a : Option Addr) (b off n cap : Nat) (f : Nat → Int) (a2 : Option Addr) (b2 off2 n2 cap2 : Nat) (g : Nat → Int) (w : World) (hs : Seg w a b off n f) (hs2 : Seg w a2 b2 off2 n2 g) (hn : n ≤ 1048576) :
    Calls Tryz.prog 29 #[.slice a n cap, .slice a2 n2 cap2] w fun e w' => e = .returned (.bool (n == n2 && alike f g n)) ∧ ∃ q, w' = w.drewN q := by
  by_cases hne : n = n2
  · subst hne
    go_enter Tryz.func29, Tryz.ntmps29
    go_wp2
    go_loopw [5] (fun i wr => ∃ k : Nat, k ≤ n ∧ i = .int .i64 k ∧ (∀ j, j < k → f j = g j) ∧ ∃ q, wr = w.drewN q) (fun i _ => n - (intOf i).toNat)
    case atStart => exact ⟨0, Nat.zero_le _, rfl, fun j hj => absurd hj (Nat.not_lt_zero _), 0, rfl⟩
    case round =>
      obtain ⟨k, hk, rfl, hd, q, rfl⟩ := hrel
      by_cases hlt : k < n
      · obtain rfl := hs.at' (by omega)
        obtain rfl := hs2.at' (by omega)
        have hc := hs.cell k hlt
        have hc2 := hs2.cell k hlt
        have hkn : (k : Int) < (n : Int) := by omega
        by_cases he : f k = g k
        · have hb : (f k != g k) = false := by simp [he]
          go_wp2
          go_quiet (fail)
          go_wp2
          go_roundw
          case rel => exact ⟨k + 1, by omega, by go_num, fun j hj => by
                        by_cases e : j = k
                        · subst e; exact he
                        · exact hd j (by omega), _, rfl⟩
          case measure => simp [intOf]; omega
        · have hb : (f k != g k) = true := by simp [he]
          go_wp2
          go_quiet (fail)
          go_wp2
          go_ret
          exact ⟨ret_bool (by simp [alike_false hlt he]), _, World.drewN_drewN ..⟩
      · obtain rfl : k = n := by omega
        go_wp2
        go_ret
        exact ⟨ret_bool (by simp [(alike_iff f g k).2 hd]), q, rfl⟩
  · have hb : ((n : Int) != (n2 : Int)) = true := by simp; omega
    go_enter Tryz.func29, Tryz.ntmps29
    go_wp2
    go_ret
    exact ⟨ret_bool (by simp [hne]), 0, rfl⟩

theorem alike_refl (n : Nat) (f : Nat → Int) : (n == n && alike f f n) = true := by simp [(alike_iff f f n).2 (fun _ _ => rfl)]
end

section
set_option linter.unusedVariables false

open Go.RowKit

/-- A slice of n byts that leads to block b, place off: its i-th element is f i. -/
structure BSeg (w : World) (a : Option Addr) (b off n : Nat) (f : Nat → Int) : Prop where
  at' : 0 < n → a = some ⟨b, off, none⟩
  cell : ∀ i, i < n → w.cell? ⟨b, off + i, none⟩ = some (.int .u8 (f i))

theorem BSeg.lt {w : World} {a : Option Addr} {b off n : Nat} {f : Nat → Int} (h : BSeg w a b off n f) (hn : 0 < n) : b < w.heap.size :=
  World.block_lt_of_cell? _ _ (h.cell 0 hn)

/-- What lies below B is read in a later world as before. -/
theorem BSeg.below {w w' : World} {a : Option Addr} {b off n : Nat} {f : Nat → Int} (h : BSeg w a b off n f) {B : Nat} (hb : Below B w w') (hB : 0 < n → b < B) : BSeg w' a b off n f :=
  ⟨h.at', fun i hi => (hb.cell (p := ⟨b, off + i, none⟩) (hB (by omega))).trans (h.cell i hi)⟩

/-- The whole heap is as it was. -/
theorem BSeg.of_all {w w' : World} {a : Option Addr} {b off n : Nat} {f : Nat → Int} (h : BSeg w a b off n f) (hb : Below w.heap.size w w') : BSeg w' a b off n f :=
  h.below hb (fun hn => h.lt hn)

theorem BSeg.congr {w : World} {a : Option Addr} {b off n : Nat} {f g : Nat → Int} (h : BSeg w a b off n f) (hg : ∀ i, i < n → f i = g i) : BSeg w a b off n g :=
  ⟨h.at', fun i hi => by rw [h.cell i hi, hg i hi]⟩

/-- A row of the call's own, read as a slice. -/
theorem BSeg.of_row {w : World} {b n : Nat} {t : TypeId} {m : Nat} {f : Nat → Int} (h : w.rowIs b t m (fun j => .int .u8 (f j))) (hn : n ≤ m) : BSeg w (some ⟨b, 0, none⟩) b 0 n f :=
  ⟨fun _ => rfl, fun i hi => by rw [Nat.zero_add]; exact h.cell (by omega)⟩

/-- A slice whose cells are not frozen: it may be written. -/
structure BOwn (w : World) (a : Option Addr) (g off n : Nat) (f : Nat → Int) : Prop extends BSeg w a g off n f where
  free : ∀ i, i < n → w.frozen? ⟨g, off + i, none⟩ = false

theorem BOwn.nil (w : World) (a : Option Addr) (g off : Nat) (f : Nat → Int) : BOwn w a g off 0 f :=
  ⟨⟨fun h => absurd h (Nat.lt_irrefl _), fun i hi => absurd hi (Nat.not_lt_zero _)⟩, fun i hi => absurd hi (Nat.not_lt_zero _)⟩

theorem BOwn.of_row {w : World} {b n : Nat} {t : TypeId} {m : Nat} {f : Nat → Int} (h : w.rowIs b t m (fun j => .int .u8 (f j))) (hn : n ≤ m) : BOwn w (some ⟨b, 0, none⟩) b 0 n f :=
  ⟨BSeg.of_row h hn, fun i _ => h.frozen _⟩

theorem BOwn.congr {w : World} {a : Option Addr} {g off n : Nat} {f f' : Nat → Int} (h : BOwn w a g off n f) (e : ∀ i, i < n → f i = f' i) : BOwn w a g off n f' :=
  ⟨h.toBSeg.congr e, h.free⟩

theorem BOwn.below {w w' : World} {a : Option Addr} {g off n : Nat} {f : Nat → Int} (h : BOwn w a g off n f) {B : Nat} (hb : Below B w w') (hB : 0 < n → g < B) : BOwn w' a g off n f :=
  ⟨h.toBSeg.below hb hB, fun i hi => (hb.frozen (p := ⟨g, off + i, none⟩) (hB (by omega))).trans (h.free i hi)⟩

theorem BOwn.of_all {w w' : World} {a : Option Addr} {g off n : Nat} {f : Nat → Int} (h : BOwn w a g off n f) (hb : Below w.heap.size w w') : BOwn w' a g off n f :=
  h.below hb (fun hn => h.lt hn)

theorem BOwn.set {w : World} {a : Option Addr} {g off n : Nat} {f : Nat → Int} (h : BOwn w a g off n f) {k : Nat} (hk : k < n) (x : Int) :
    BOwn (w.setCell ⟨g, off + k, none⟩ (.int .u8 x)) a g off n (fun j => if j = k then x else f j) := by
  refine ⟨⟨h.at', fun i hi => ?_⟩, fun i hi => by rw [World.frozen?_setCell]; exact h.free i hi⟩
  by_cases e : i = k
  · subst e
    rw [World.cell?_setCell_same _ _ _ (h.cell i hi)]
    simp
  · rw [World.cell?_setCell_other _ _ _ _ (fun h => by have := congrArg Addr.off h; simp at this; omega), h.cell i hi]
    simp [e]

theorem BSeg.touch {w w' : World} {a : Option Addr} {b off n g : Nat} {f : Nat → Int} (h : BSeg w a b off n f) (ht : Touch g w w') (hg : 0 < n → b ≠ g) : BSeg w' a b off n f :=
  ⟨h.at', fun i hi => (World.cell?_of_block (a := ⟨b, off + i, none⟩) (ht.grown.block b (h.lt (by omega)) (by simp; exact hg (by omega)))).trans (h.cell i hi)⟩

theorem BOwn.touch {w w' : World} {a : Option Addr} {b off n g : Nat} {f : Nat → Int} (h : BOwn w a b off n f) (ht : Touch g w w') (hg : 0 < n → b ≠ g) : BOwn w' a b off n f :=
  ⟨h.toBSeg.touch ht hg, fun i hi => (World.frozen?_of_block (a := ⟨b, off + i, none⟩) (ht.grown.block b (h.lt (by omega)) (by simp; exact hg (by omega)))).trans (h.free i hi)⟩

/-- The first n byts, as cells. -/
def byts (f : Nat → Int) (n : Nat) : List Value := (List.range n).map (fun i => .int .u8 (f i))

theorem byts_length (f : Nat → Int) (n : Nat) : (byts f n).length = n := by simp [byts]

theorem byts_succ (f : Nat → Int) (n : Nat) : byts f (n + 1) = byts f n ++ [.int .u8 (f n)] := by simp [byts, List.range_succ]

/-- What appends have gathered is a slice of the call's own. -/
theorem bown_of_owns {w : World} {base : Nat} {e : TypeId} {v : Value} {n : Nat} {f : Nat → Int} (h : w.ownsRow base e 1 v n (byts f n)) :
    ∃ a g cap, v = .slice a n cap ∧ base ≤ g ∧ BOwn w a g 0 n f := by
  rcases h.2 with ⟨rfl, rfl⟩ | ⟨g, cap, cur, rfl, hg, hb, hn, hm, hs, ht⟩
  · exact ⟨none, base, 0, rfl, Nat.le_refl _, BOwn.nil _ _ _ _ _⟩
  · refine ⟨_, g, cap, rfl, hg, ⟨fun _ => rfl, fun i hi => ?_⟩, fun i hi => by simp [World.frozen?, hb]⟩
    have hx : (cur.toList.take (n * 1))[i]? = some (.int .u8 (f i)) := by rw [ht]; simp [byts, hi]
    rw [List.getElem?_take] at hx
    simp only [Nat.mul_one, hi, if_true] at hx
    simp [World.cell?, hb]
    simpa using hx
end

section
set_option linter.unusedVariables false

open Go.RowKit

theorem Tryz.info5 : (Tryz.prog.info? 5).map (fun i => (i.zero, i.size, i.bytes)) = some (some (.int .u8 0), 1, 1) := by kernel_rfl

/-- What toByteS has done behind k rounds: a new row, its first k places filled. -/
structure BCopying (w wr : World) (n k : Nat) (f : Nat → Int) : Prop where
  below : Below w.heap.size w wr
  size : wr.heap.size = w.heap.size + 1
  row : wr.rowIs w.heap.size 5 n (fun j => .int .u8 (if j < k then f j else 0))

theorem bcopying_start (w : World) (n : Nat) (f : Nat → Int) : BCopying w (w.alloc (.cells (madeCells #[.int .u8 0] n) 5)) n 0 f :=
  ⟨(Below.refl _ _).alloc (Nat.le_refl _) _, by simp, (World.rowIs_made w _ n 5).congr (fun j _ => by simp)⟩

theorem bcopying_step {w wr : World} {n k : Nat} {f : Nat → Int} (h : BCopying w wr n k f) : BCopying w (wr.setCell ⟨w.heap.size, k, none⟩ (.int .u8 (f k))) n (k + 1) f := by
  refine ⟨h.below.setCell (Nat.le_refl _) _, by simp [World.setCell, h.size], (h.row.set k _).congr (fun j _ => ?_)⟩
  by_cases e : j = k
  · subst e; simp
  · rw [if_neg e]
    by_cases hlt : j < k
    · rw [if_pos hlt, if_pos (by omega)]
    · rw [if_neg hlt, if_neg (by omega)]

set_option maxHeartbeats 400000 in
theorem toByteS_any (a : Option Addr) (b off n cap : Nat) (f : Nat → Int) (w : World) (hs : BSeg w a b off n f) (hn : n ≤ 1048576) :
    Calls Tryz.prog 24 #[.slice a n cap] w fun e w' => e = .returned (.slice (some ⟨w.heap.size, 0, none⟩) n n) ∧ w'.heap.size = w.heap.size + 1 ∧ w'.rowIs w.heap.size 5 n (fun j => .int .u8 (f j)) ∧ Below w.heap.size w w' := by
  have hmk := run_make_row' (P := Tryz.prog) 24 5 (.int .u8 0) 1 Tryz.underlying24 Tryz.info5 rfl .i64 .i64 n (by omega) (by omega)
  go_enter Tryz.func24, Tryz.ntmps24
  go_wp2
  clear hmk
  go_loopw [4] (fun i wr => ∃ k : Nat, k ≤ n ∧ i = .int .i64 k ∧ BCopying w wr n k f) (fun i _ => n - (intOf i).toNat)
  case atStart => exact ⟨0, Nat.zero_le _, rfl, bcopying_start w n f⟩
  case round =>
    obtain ⟨k, hk, rfl, hI⟩ := hrel
    by_cases hlt : k < n
    · obtain rfl := hs.at' (by omega)
      have hc : wr.cell? ⟨b, off + k, none⟩ = some (.int .u8 (f k)) := (hI.below.cell (p := ⟨b, off + k, none⟩) (hs.lt (by omega))).trans (hs.cell k hlt)
      have hd : wr.cell? ⟨w.heap.size, k, none⟩ = some (.int .u8 0) := by simpa using hI.row.cell hlt
      have hf : wr.frozen? ⟨w.heap.size, k, none⟩ = false := hI.row.frozen k
      have hkn : (k : Int) < (n : Int) := by omega
      go_wp2
      go_roundw
      case rel => exact ⟨k + 1, by omega, by go_num, bcopying_step hI⟩
      case measure => simp [intOf]; omega
    · obtain rfl : k = n := by omega
      go_wp2
      go_ret
      exact ⟨rfl, hI.size, hI.row.congr (fun j hj => by rw [if_pos hj]), hI.below⟩

set_option maxHeartbeats 400000 in
theorem eqByteS_any (a : Option Addr) (b off n cap : Nat) (f : Nat → Int) (a2 : Option Addr) (b2 off2 n2 cap2 : Nat) (g : Nat → Int) (w : World) (hs : BSeg w a b off n f) (hs2 : BSeg w a2 b2 off2 n2 g) (hn : n ≤ 1048576) :
    Calls Tryz.prog 9 #[.slice a n cap, .slice a2 n2 cap2] w fun e w' => e = .returned (.bool (n == n2 && alike f g n)) ∧ ∃ q, w' = w.drewN q := by
  by_cases hne : n = n2
  · subst hne
    go_enter Tryz.func9, Tryz.ntmps9
    go_wp2
    go_loopw [5] (fun i wr => ∃ k : Nat, k ≤ n ∧ i = .int .i64 k ∧ (∀ j, j < k → f j = g j) ∧ ∃ q, wr = w.drewN q) (fun i _ => n - (intOf i).toNat)
    case atStart => exact ⟨0, Nat.zero_le _, rfl, fun j hj => absurd hj (Nat.not_lt_zero _), 0, rfl⟩
    case round =>
      obtain ⟨k, hk, rfl, hd, q, rfl⟩ := hrel
      by_cases hlt : k < n
      · obtain rfl := hs.at' (by omega)
        obtain rfl := hs2.at' (by omega)
        have hc := hs.cell k hlt
        have hc2 := hs2.cell k hlt
        have hkn : (k : Int) < (n : Int) := by omega
        by_cases he : f k = g k
        · have hb : (f k != g k) = false := by simp [he]
          go_wp2
          go_quiet (fail)
          go_wp2
          go_roundw
          case rel => exact ⟨k + 1, by omega, by go_num, fun j hj => by
                        by_cases e : j = k
                        · subst e; exact he
                        · exact hd j (by omega), _, rfl⟩
          case measure => simp [intOf]; omega
        · have hb : (f k != g k) = true := by simp [he]
          go_wp2
          go_quiet (fail)
          go_wp2
          go_ret
          exact ⟨ret_bool (by simp [alike_false hlt he]), _, World.drewN_drewN ..⟩
      · obtain rfl : k = n := by omega
        go_wp2
        go_ret
        exact ⟨ret_bool (by simp [(alike_iff f g k).2 hd]), q, rfl⟩
  · have hb : ((n : Int) != (n2 : Int)) = true := by simp; omega
    go_enter Tryz.func9, Tryz.ntmps9
    go_wp2
    go_ret
    exact ⟨ret_bool (by simp [hne]), 0, rfl⟩
end

section
set_option linter.unusedVariables false

open Go Go.Sort Go.RowKit

/-- w' is w with blocks laid behind it. -/
def Ext (w w' : World) : Prop := Below w.heap.size w w'

theorem Ext.refl (w : World) : Ext w w := Below.refl _ _

theorem Ext.trans {a b c : World} (h : Ext a b) (k : Ext b c) : Ext a c := Below.trans h (Below.mono k (Below.size h))

/-- What is known of the world, and stays true when blocks are laid. -/
structure Kept (C G : World → Prop) : Prop where
  sub : ∀ w, G w → C w
  up : ∀ w w', G w → Ext w w' → G w'

section

variable {P : Program} {ops : Array Oper} {md : Region.Mode} {Q : Exit → Act → World → Prop} {C : World → Prop}

def opS (P : Program) (ops : Array Oper) (Q : Exit → Act → World → Prop) (C : World → Prop) (i : Nat) (K : Act → (World → Prop) → Prop) (a : Act) (G : World → Prop) : Prop :=
  ∀ w, G w → wpOp P ops Q i (fun a' w' => ∃ G', Kept C G' ∧ G' w' ∧ K a' G') a w

/-- Whatever order is picked from here on, of the world G being known. -/
def anyS (P : Program) (md : Region.Mode) (ops : Array Oper) (Q : Exit → Act → World → Prop) (C : World → Prop) : Nat → Array Bool → Act → (World → Prop) → Prop
  | 0, listed, a, G => Region.ready md ops listed = [] ∧ ∀ w, G w → Q .normal a w
  | f + 1, listed, a, G => (Region.ready md ops listed = [] → ∀ w, G w → Q .normal a w) ∧ ∀ i ∈ Region.ready md ops listed, opS P ops Q C i (anyS P md ops Q C f (listed.setIfInBounds i true)) a G

theorem any_of_S : ∀ (f : Nat) (listed : Array Bool) (a : Act) (G : World → Prop) (w : World), G w → anyS P md ops Q C f listed a G → wpAny P md ops Q f listed a w
  | 0, _, _, _, w, hG, h => ⟨h.1, h.2 w hG⟩
  | f + 1, _, _, _, w, hG, h => ⟨fun e => h.1 e w hG, fun i hi => wpOp_mono (fun a' w' ⟨G', _, hw, hr⟩ => any_of_S f _ a' G' w' hw hr) (h.2 i hi w hG)⟩

/-- An operation that yields v and lays blocks at most, wherever C holds. -/
def YieldsE (P : Program) (ops : Array Oper) (C : World → Prop) (o : Oper) (v : Value) (a : Act) : Prop :=
  (Region.wanted o (yielded ops a.tmps) = true ∧ ∀ w, C w → o.quietAt P a (Ext w) w v) ∨ (Region.wanted o (yielded ops a.tmps) = false ∧ v = undef)

theorem YieldsE.same {o : Oper} {v : Value} {a a' : Act} (hy : YieldsE P ops C o v a) (he : execOp a'.eval o = execOp a.eval o) (hw : Region.wanted o (yielded ops a'.tmps) = Region.wanted o (yielded ops a.tmps)) : YieldsE P ops C o v a' := by
  unfold YieldsE Oper.quietAt at *
  rw [he, hw]
  exact hy

theorem quiet_runs {o : Oper} {a : Act} {w : World} {v : Value} {K : Act → World → Prop} (h : o.quietAt P a (Ext w) w v) (hk : ∀ w', Ext w w' → K (a.put o.dst v) w') : o.wp P a w K Q := by
  unfold Oper.quietAt at h
  unfold Oper.wp
  generalize (execOp a.eval o).run P w = r at h ⊢
  rcases r with ⟨n, w'⟩ | ⟨x, w'⟩
  · cases n with
    | value u => obtain ⟨rfl, rfl⟩ := h; exact hk _ (Ext.refl _)
    | skip => obtain ⟨rfl, rfl⟩ := h; exact hk _ (Ext.refl _)
    | enter f args => obtain ⟨rfl, hc⟩ := h; exact hc.mono fun e w'' ⟨he, hw⟩ => by subst he; exact hk _ hw
    | defer d => exact h.elim
    | row s args => exact h.elim
    | _ => exact h.elim
  · exact h.elim

theorem YieldsE.runs {i : Nat} {o : Oper} {v : Value} {a : Act} (hi : ops[i]? = some o) (hy : YieldsE P ops C o v a) {K : Act → World → Prop} {w : World} (hC : C w) (hk : ∀ w', Ext w w' → K (a.put o.dst v) w') : wpOp P ops Q i K a w := by
  unfold wpOp
  rw [hi]
  rcases hy with ⟨hw, hv⟩ | ⟨hw, rfl⟩
  · simp only [hw, if_true]
    exact Or.inl (quiet_runs (hv w hC) hk)
  · simp only [hw, Bool.false_eq_true, if_false]
    exact hk _ (Ext.refl _)

/-- What an operation leaves of the frame: its own slot turned, more deferred calls perhaps. -/
theorem wpOp_slot {j : Nat} {oj : Oper} {K : Act → World → Prop} {a : Act} {w : World} (hj : ops[j]? = some oj) (h : wpOp P ops Q j K a w) :
    wpOp P ops Q j (fun a' w' => (∃ ds u, a' = ({ a with defers := ds } : Act).put oj.dst u) ∧ K a' w') a w := by
  unfold wpOp at h ⊢
  rw [hj] at h ⊢
  by_cases hw : Region.wanted oj (yielded ops a.tmps) = true
  · simp only [hw, if_true] at h ⊢
    rcases h with h | h
    · left
      unfold Oper.wp at h ⊢
      generalize (execOp a.eval oj).run P w = r at h ⊢
      rcases r with ⟨n, w'⟩ | ⟨x, w'⟩
      · cases n with
        | value u => exact ⟨⟨a.defers, u, rfl⟩, h⟩
        | skip => exact ⟨⟨a.defers, undef, rfl⟩, h⟩
        | enter f args =>
          refine Calls.mono h fun e w'' he => ?_
          cases e with
          | returned u => exact ⟨⟨a.defers, u, rfl⟩, he⟩
          | panicked c => exact he
          | outgrown => exact he
        | defer d => exact ⟨⟨d :: a.defers, undef, rfl⟩, h⟩
        | row s args => exact Rows.mono h fun u w'' he => ⟨⟨a.defers, u, rfl⟩, he⟩
        | _ => exact h
      · cases x <;> exact h
    · exact Or.inr h
  · simp only [hw] at h ⊢
    exact ⟨⟨a.defers, undef, rfl⟩, h⟩

theorem YieldsE.idle {o : Oper} {v : Value} {a : Act} (hy : YieldsE P ops C o v a) : YieldsIf P ops (fun _ => False) o v a :=
  hy.imp (fun h => ⟨h.1, fun _ k => k.elim⟩) id

theorem opS_put {j : Nat} {oi oj : Oper} {v : Value} {K : Act → (World → Prop) → Prop} {a : Act} {G : World → Prop} (hj : ops[j]? = some oj) (hap : oi.apart ops oj = true)
    (hsi : ∀ cs b, oi.op ≠ .select cs b) (hsj : ∀ cs b, oj.op ≠ .select cs b) (hQ : ∀ c a w, Q (.panic c) (a.put oi.dst v) w → Q (.panic c) a w)
    (hy : YieldsE P ops C oi v a) (h : opS P ops Q C j K (a.put oi.dst v) G) : opS P ops Q C j (fun a' G' => YieldsE P ops C oi v a' ∧ K (a'.put oi.dst v) G') a G := by
  intro w hG
  have h1 := wpOp_slot hj (wpOp_putIf hj hap hsi hsj hQ hy.idle (h w hG))
  have h3 := (Oper.apart_spec hap).2.2
  refine wpOp_mono ?_ h1
  rintro a' w' ⟨⟨ds, u, rfl⟩, _, G', hk, hw, hK⟩
  refine ⟨G', hk, hw, ?_, hK⟩
  exact hy.same (execOp_put oi hsi ({ a with defers := ds } : Act) oj.dst u h3) (wanted_put oi ({ a with defers := ds } : Act) oj.dst u h3)

/-- Such an operation may be taken first. -/
theorem anyS_first {i : Nat} {oi : Oper} {v : Value} (hi : ops[i]? = some oi) (hsel : ∀ (j : Nat) (o : Oper) cs b, ops[j]? = some o → o.op ≠ .select cs b) (hQ : ∀ c a w, Q (.panic c) (a.put oi.dst v) w → Q (.panic c) a w) :
    ∀ (f : Nat) (listed : Array Bool) (a : Act) (G : World → Prop), Kept C G →
      (∀ j oj, ops[j]? = some oj → j ≠ i → listed.getD j true = false → (∀ e ∈ oj.after, Region.binds md e = true → e.on ≠ i) → oi.apart ops oj = true) →
      i ∈ Region.ready md ops listed → YieldsE P ops C oi v a → anyS P md ops Q C f (listed.setIfInBounds i true) (a.put oi.dst v) G → anyS P md ops Q C (f + 1) listed a G := by
  intro f
  induction f with
  | zero =>
    intro listed a G hG hfree hr hy H
    refine ⟨fun e => absurd (e ▸ hr) (by simp), fun j hj w hw => ?_⟩
    by_cases e : j = i
    · subst e
      exact hy.runs hi (hG.sub w hw) fun w' hx => ⟨G, hG, hG.up w w' hw hx, H⟩
    · exact absurd (H.1 ▸ ready_mono hj e) (by simp)
  | succ f ih =>
    intro listed a G hG hfree hr hy H
    refine ⟨fun e => absurd (e ▸ hr) (by simp), fun j hj => ?_⟩
    by_cases e : j = i
    · subst e
      intro w hw
      exact hy.runs hi (hG.sub w hw) fun w' hx => ⟨G, hG, hG.up w w' hw hx, H⟩
    · obtain ⟨hju, oj, hoj, hall⟩ := mem_ready.1 hj
      have hno : ∀ x ∈ oj.after, Region.binds md x = true → x.on ≠ i := by
        intro x hx hb he
        have k1 := hall x hx hb
        have k0 := (mem_ready.1 hr).1
        rw [he, getD_both k0] at k1
        cases k1
      have hfree2 : ∀ k ok, ops[k]? = some ok → k ≠ i → (listed.setIfInBounds j true).getD k true = false → (∀ x ∈ ok.after, Region.binds md x = true → x.on ≠ i) → oi.apart ops ok = true := by
        intro k ok hk hki hun hn
        refine hfree k ok hk hki ?_ hn
        by_cases hjk : j = k
        · subst hjk; exact hju
        · rwa [getD_set_ne true hjk] at hun
      have h2 := opS_put hoj (hfree j oj hoj e hju hno) (fun cs b => hsel i oi cs b hi) (fun cs b => hsel j oj cs b hoj) hQ hy (H.2 j (ready_mono hj e))
      intro w hw
      refine wpOp_mono ?_ (h2 w hw)
      rintro a' w' ⟨G', hk, hw', hy', hK⟩
      refine ⟨G', hk, hw', ih _ a' G' hk hfree2 (ready_mono hr (Ne.symm e)) hy' ?_⟩
      rw [Array.setIfInBounds_comm _ _ e]
      exact hK

theorem quiet_up {o : Oper} {a : Act} {w : World} {v : Value} {D D' : World → Prop} (hD : ∀ w, D w → D' w) (h : o.quietAt P a D w v) : o.quietAt P a D' w v := by
  unfold Oper.quietAt at *
  generalize (execOp a.eval o).run P w = r at h ⊢
  rcases r with ⟨n, w'⟩ | ⟨x, w'⟩
  · cases n with
    | enter f args => exact ⟨h.1, h.2.mono fun e w'' k => ⟨k.1, hD _ k.2⟩⟩
    | _ => exact h
  · exact h

/-! The same where what stands at the end waits for all that is ahead of it: the end may then write where it likes. -/

end
end

section
set_option linter.unusedVariables false

open Go Go.Sort Go.RowKit

section

variable {P : Program} {ops : Array Oper} {md : Region.Mode} {Q : Exit → Act → World → Prop}

/-- Operations k, k + 1 .. may be taken one after the other. -/
def takeB (md : Region.Mode) (ops : Array Oper) : Nat → Nat → Array Bool → Bool
  | 0, _, _ => true
  | n + 1, k, listed => (Region.ready md ops listed).contains k && Region.free md ops listed k && takeB md ops n (k + 1) (listed.setIfInBounds k true)

def setB : Nat → Nat → Array Bool → Array Bool
  | 0, _, L => L
  | n + 1, k, L => setB n (k + 1) (L.setIfInBounds k true)

end
end

section
set_option linter.unusedVariables false

open Go Go.Sort Go.RowKit

/-- w' is w with blocks laid behind it; those that X tells may have turned. -/
structure Grw (X : Nat → Prop) (w w' : World) : Prop where
  os : w'.os = w.os
  tape : w'.tape = w.tape
  output : w'.output = w.output
  size : w.heap.size ≤ w'.heap.size
  block : ∀ k, k < w.heap.size → ¬ X k → w'.heap[k]? = w.heap[k]?

theorem Grw.refl (X : Nat → Prop) (w : World) : Grw X w w := ⟨rfl, rfl, rfl, Nat.le_refl _, fun _ _ _ => rfl⟩

theorem Grw.trans {X : Nat → Prop} {a b c : World} (h : Grw X a b) (k : Grw X b c) : Grw X a c :=
  ⟨k.os.trans h.os, k.tape.trans h.tape, k.output.trans h.output, Nat.le_trans h.size k.size, fun i hi hn => (k.block i (Nat.lt_of_lt_of_le hi h.size) hn).trans (h.block i hi hn)⟩

theorem Grw.mono {X Y : Nat → Prop} {a b : World} (h : Grw X a b) (k : ∀ i, X i → Y i) : Grw Y a b :=
  ⟨h.os, h.tape, h.output, h.size, fun i hi hn => h.block i hi (fun e => hn (k i e))⟩

theorem Grw.of_ext {X : Nat → Prop} {a b : World} (h : Ext a b) : Grw X a b := ⟨h.os, h.tape, h.output, h.size, fun k hk _ => h.block k hk⟩

theorem Grw.of_touch {X : Nat → Prop} {C : Nat} {a b : World} (h : Touch C a b) (hX : X C) : Grw X a b :=
  ⟨h.grown.os, h.grown.tape, h.grown.output, Nat.le_of_eq h.size.symm, fun k hk hn => h.grown.block k hk (by simp; intro e; exact hn (e ▸ hX))⟩

theorem Grw.below {X : Nat → Prop} {S : Nat} {a b : World} (h : Grw X a b) (hS : ∀ k, k < S → ¬ X k) (hl : S ≤ a.heap.size) : Below S a b :=
  ⟨h.os, h.tape, h.output, h.size, fun k hk => h.block k (by omega) (hS k hk)⟩

/-- Such a world. -/
structure ReC (X : Nat → Prop) (w : World) where
  val : World
  ok : Grw X w val

instance (X : Nat → Prop) (w : World) : Inhabited (ReC X w) := ⟨⟨w, .refl X w⟩⟩

theorem cell_reC {X : Nat → Prop} {w : World} {a : Addr} {v : Value} (h : w.cell? a = some v) (hne : ¬ X a.block) (p : ReC X w) : p.val.cell? a = some v := by
  rw [World.cell?_of_block (p.ok.block a.block (block_lt_of_cell h) hne)]; exact h

section

variable {P : Program} {ops : Array Oper} {md : Region.Mode} {Q : Exit → Act → World → Prop}

def anyK (P : Program) (md : Region.Mode) (ops : Array Oper) (Q : Exit → Act → World → Prop) (X : Nat → Prop) (V : World) (f : Nat) (listed : Array Bool) (a : Act) (W : World) : Prop := Grw X V W → anyS P md ops Q (Grw X V) f listed a (Ext W)

theorem kept_grw {X : Nat → Prop} {V W : World} (h : Grw X V W) : Kept (Grw X V) (Ext W) := ⟨fun _ k => h.trans (.of_ext k), fun _ _ h k => h.trans k⟩

theorem anyK_begin {id : Nat} {a : Act} {w : World} {l : List Oper} (X : Nat → Prop) (n : Nat) (hn : l.length = n) (hm : P.follows .mixedOrders = true) (h : anyK P .any l.toArray Q X w n (Array.replicate n false) a w) : (Code.region id l.toArray true).wp P Q a w := by
  subst hn
  refine wp_region_any hm ?_
  have := any_of_S _ _ _ _ _ (show Ext w { w with drawn := w.drawn + 1 } from ⟨rfl, rfl, rfl, Nat.le_refl _, fun _ _ => rfl⟩) (h (Grw.refl X w))
  simpa using this

/-- The walk of the operations that may be taken first. -/
def headC (P : Program) (ops : Array Oper) (X : Nat → Prop) (w : World) (N : Act → Prop) : List Oper → Act → Prop
  | [], a => N a
  | o :: rest, a =>
    if Region.wanted o (yielded ops a.tmps) then ∃ v, (∀ p : ReC X w, o.quietAt P a (fun w'' => ∃ q : Regrown, w'' = grow (redrawn p.val q.d) q.os) p.val v) ∧ headC P ops X w N rest (a.put o.dst v)
    else headC P ops X w N rest (a.put o.dst undef)

theorem headC_nil {X : Nat → Prop} {w : World} {N : Act → Prop} {a : Act} (h : N a) : headC P ops X w N [] a := h

theorem headC_step {X : Nat → Prop} {w : World} {N : Act → Prop} {o : Oper} {rest : List Oper} {a : Act}
    (h : ∀ K : Act → Prop, (∀ a, headC P ops X w N rest a → K a) → if Region.wanted o (yielded ops a.tmps) then ∃ v, (∀ p : ReC X w, o.quietAt P a (fun w'' => ∃ q : Regrown, w'' = grow (redrawn p.val q.d) q.os) p.val v) ∧ K (a.put o.dst v) else K (a.put o.dst undef)) : headC P ops X w N (o :: rest) a :=
  h _ fun _ k => k

theorem takeC_list (hsel : Region.noSelect ops = true) (hQ : ∀ c a d v w, Q (.panic c) (a.put d v) w → Q (.panic c) a w) {X : Nat → Prop} {V W : World} {f : Nat} :
    ∀ (l : List Oper) (k : Nat) (listed : Array Bool) (a : Act), (∀ j, j < l.length → l[j]? = ops[k + j]?) → takeB md ops l.length k listed = true →
    headC P ops X V (fun a' => anyK P md ops Q X V f (setB l.length k listed) a' W) l a → anyK P md ops Q X V (l.length + f) listed a W
  | [], k, listed, a, _, _, h => by
    rw [List.length_nil, Nat.zero_add]
    exact h
  | o :: l, k, listed, a, hl, hB, h => by
    have h0 : ops[k]? = some o := by simpa using (hl 0 (by simp)).symm
    simp only [List.length_cons, takeB, Bool.and_eq_true] at hB
    obtain ⟨⟨hr, hf⟩, hB'⟩ := hB
    have hr' : k ∈ Region.ready md ops listed := by simpa using hr
    have hl' : ∀ j, j < l.length → l[j]? = ops[k + 1 + j]? := fun j hj => by
      have := hl (j + 1) (by simp; omega)
      simpa [Nat.add_assoc, Nat.add_comm 1 j] using this
    rw [List.length_cons, show l.length + 1 + f = (l.length + f) + 1 by omega]
    intro hV
    unfold headC at h
    by_cases hwa : Region.wanted o (yielded ops a.tmps) = true
    · simp only [hwa, if_true] at h
      obtain ⟨v, hv, hrest⟩ := h
      have hy : YieldsE P ops (Grw X V) o v a := Or.inl ⟨hwa, fun w' hw' => by
        exact quiet_up (fun w2 ⟨q, hq⟩ => by rw [hq]; exact below_regrown _ _ _) (hv ⟨w', hw'⟩)⟩
      exact anyS_first h0 (Region.noSelect_spec hsel) (fun c a w => hQ c a _ _ w) _ listed a (Ext W) (kept_grw hV) (Region.free_spec h0 hf) hr' hy (takeC_list hsel hQ l (k + 1) _ _ hl' hB' hrest hV)
    · simp only [hwa] at h
      have hy : YieldsE P ops (Grw X V) o undef a := Or.inr ⟨by simpa using hwa, rfl⟩
      exact anyS_first h0 (Region.noSelect_spec hsel) (fun c a w => hQ c a _ _ w) _ listed a (Ext W) (kept_grw hV) (Region.free_spec h0 hf) hr' hy (takeC_list hsel hQ l (k + 1) _ _ hl' hB' h hV)

/-- n operations from number k on are taken first. -/
theorem anyK_take {l : List Oper} {X : Nat → Prop} {V W : World} {listed : Array Bool} {a : Act} (k n f : Nat) {m : Nat} (hm : n + f = m) (hn : k + n ≤ l.length) (hB : (Region.noSelect l.toArray && takeB md l.toArray n k listed) = true) (hQ : ∀ c a d v w, Q (.panic c) (a.put d v) w → Q (.panic c) a w)
    (h : headC P l.toArray X V (fun a' => anyK P md l.toArray Q X V f (setB n k listed) a' W) ((l.drop k).take n) a) : anyK P md l.toArray Q X V m listed a W := by
  rw [Bool.and_eq_true] at hB
  have hl : ((l.drop k).take n).length = n := by simp; omega
  subst hm
  have := takeC_list (md := md) (P := P) (Q := Q) (X := X) (V := V) (W := W) (f := f) hB.1 hQ ((l.drop k).take n) k listed a (fun j hj => by
    rw [hl] at hj
    simp [hj, List.getElem?_drop]) (by rw [hl]; exact hB.2) (by rw [hl]; exact h)
  rwa [hl] at this

/-- One of those that may come up. -/
def stepK (P : Program) (md : Region.Mode) (ops : Array Oper) (Q : Exit → Act → World → Prop) (X : Nat → Prop) (V : World) (f : Nat) (listed : Array Bool) (i : Nat) (a : Act) (W : World) : Prop :=
  ∀ w, Ext W w → wpOp P ops Q i (fun a' w' => Grw X V w' ∧ anyK P md ops Q X V f (listed.setIfInBounds i true) a' w') a w

theorem anyK_all {X : Nat → Prop} {V W : World} {listed : Array Bool} {a : Act} {f : Nat} (rs : List Nat) (hr : Region.ready md ops listed = rs) (hne : rs ≠ []) (h : ∀ i ∈ rs, stepK P md ops Q X V f listed i a W) : anyK P md ops Q X V (f + 1) listed a W := by
  intro hV
  refine ⟨fun e => absurd (hr ▸ e) hne, fun i hi w hw => wpOp_mono ?_ (h i (hr ▸ hi) w hw)⟩
  rintro a' w' ⟨hx, hk⟩
  exact ⟨Ext w', kept_grw hx, Ext.refl _, hk hx⟩

theorem anyK_done {X : Nat → Prop} {V W : World} {listed : Array Bool} {a : Act} (hr : Region.ready md ops listed = []) (h : ∀ w, Ext W w → Q .normal a w) : ∀ f, anyK P md ops Q X V f listed a W
  | 0 => fun _ => ⟨hr, h⟩
  | _ + 1 => fun _ => ⟨fun _ => h, by rw [hr]; simp⟩

theorem anyK_one {X : Nat → Prop} {V W : World} {listed : Array Bool} {a : Act} {f : Nat} (i : Nat) (hr : Region.ready md ops listed = [i]) (h : stepK P md ops Q X V f listed i a W) : anyK P md ops Q X V (f + 1) listed a W :=
  anyK_all [i] hr (by simp) (fun j hj => by rw [List.mem_singleton.1 hj]; exact h)

theorem anyK_two {X : Nat → Prop} {V W : World} {listed : Array Bool} {a : Act} {f : Nat} (i j : Nat) (hr : Region.ready md ops listed = [i, j]) (h : stepK P md ops Q X V f listed i a W) (k : stepK P md ops Q X V f listed j a W) : anyK P md ops Q X V (f + 1) listed a W :=
  anyK_all [i, j] hr (by simp) (fun l hl => by
    rcases List.mem_cons.1 hl with rfl | hl
    · exact h
    · rw [List.mem_singleton.1 hl]; exact k)

/-- The step itself: the operation is run. -/
theorem stepK_run {X : Nat → Prop} {V W : World} {listed : Array Bool} {a : Act} {f i : Nat} {o : Oper} (hi : ops[i]? = some o)
    (h : ∀ w, Ext W w → ∀ K : Act → World → Prop, (∀ a' w', Grw X V w' → anyK P md ops Q X V f (listed.setIfInBounds i true) a' w' → K a' w') → if Region.wanted o (yielded ops a.tmps) then o.wp P a w K Q else K (a.put o.dst undef) w) : stepK P md ops Q X V f listed i a W := by
  intro w hw
  have k := h w hw (fun a' w' => Grw X V w' ∧ anyK P md ops Q X V f (listed.setIfInBounds i true) a' w') (fun a' w' hx hr => ⟨hx, hr⟩)
  unfold wpOp
  rw [hi]
  by_cases hwa : Region.wanted o (yielded ops a.tmps) = true
  · simp only [hwa, if_true] at k ⊢
    exact Or.inl k
  · simp only [hwa] at k ⊢
    exact k

end
end

end Go.Proofs.YtgdjaapjdmancaaGreatDoor
