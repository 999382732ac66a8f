/- Plain notions for this seat's walks: a slice of ints as (length, function of the place), and a world in which nothing but the count of draws has turned. Nothing of the program. Walks of the law's own helpers over slices of ints: toIntS makes a copy in new memory; eqIntS tells whether two slices read alike. Plain notions for walks over slices of bytes, made of those over ints. Nothing of the program. Walks of the law's own helpers over slices of bytes: toByteS makes a copy in new memory; eqByteS tells whether two slices read alike. A region that draws its order: operations that read and calls that lay blocks may be taken first, in the order of the text, though an allocation or a store of the region floats among them. Nothing of the program. A region that draws its order, step by step: what only reads or lays blocks is taken first, of what else may come up each is gone through. Nothing of the program. -/
import Derived.WalkKit
import Derived.Deep.OwnRows
import Derived.WalkSmall
import Derived.Deep.QuietTactic
import Derived.BigQuiet
import Derived.Test.YtfhiiakoilkbkaaGreatDoorChecked
import Derived.Lib.QuietBelow
import Derived.OrdersHeld
import Derived.StillTail
namespace Go.Proofs.YtfhiiakoilkbkaaGreatDoor
set_option linter.unusedVariables false
set_option linter.unusedSimpArgs false
section
open Go.RowKit
theorem hide {p : Prop} (h : p) : Hid p := h
structure Seg (w : World) (a : Option Addr) (b off n : Nat) (f : Nat → Int) : Prop where
 at' : 0 < n → a = some ⟨b, off, none⟩
 cell : ∀ i, i < n → w.cell? ⟨b, off + i, none⟩ = some (.int .i64 (f i))
theorem Seg.lt {w : World} {a : Option Addr} {b off n : Nat} {f : Nat → Int} (h : Seg w a b off n f) (hn : 0 < n) : b < w.heap.size :=
 World.block_lt_of_cell? _ _ (h.cell 0 hn)
theorem Seg.below {w w' : World} {a : Option Addr} {b off n : Nat} {f : Nat → Int} (h : Seg w a b off n f) {B : Nat} (hb : Below B w w') (hB : 0 < n → b < B) : Seg w' a b off n f :=
 ⟨h.at', fun i hi => (hb.cell (p := ⟨b, off + i, none⟩) (hB (by omega))).trans (h.cell i hi)⟩
theorem Seg.of_all {w w' : World} {a : Option Addr} {b off n : Nat} {f : Nat → Int} (h : Seg w a b off n f) (hb : Below w.heap.size w w') : Seg w' a b off n f :=
 h.below hb (fun hn => h.lt hn)
theorem Seg.congr {w : World} {a : Option Addr} {b off n : Nat} {f g : Nat → Int} (h : Seg w a b off n f) (hg : ∀ i, i < n → f i = g i) : Seg w a b off n g :=
 ⟨h.at', fun i hi => by rw [h.cell i hi, hg i hi]⟩
theorem Seg.of_row {w : World} {b n : Nat} {t : TypeId} {m : Nat} {f : Nat → Int} (h : w.rowIs b t m (fun j => .int .i64 (f j))) (hn : n ≤ m) : Seg w (some ⟨b, 0, none⟩) b 0 n f :=
 ⟨fun _ => rfl, fun i hi => by rw [Nat.zero_add]; exact h.cell (by omega)⟩
theorem rowIs_below {w w' : World} {b n : Nat} {t : TypeId} {f : Nat → Value} (h : w.rowIs b t n f) {B : Nat} (hb : Below B w w') (hB : b < B) : w'.rowIs b t n f :=
 h.of_block (hb.block b hB)
structure Own (w : World) (a : Option Addr) (g off n : Nat) (f : Nat → Int) : Prop extends Seg w a g off n f where
 free : ∀ i, i < n → w.frozen? ⟨g, off + i, none⟩ = false
theorem Own.nil (w : World) (a : Option Addr) (g off : Nat) (f : Nat → Int) : Own w a g off 0 f :=
 ⟨⟨fun h => absurd h (Nat.lt_irrefl _), fun i hi => absurd hi (Nat.not_lt_zero _)⟩, fun i hi => absurd hi (Nat.not_lt_zero _)⟩
theorem Own.of_row {w : World} {b n : Nat} {t : TypeId} {m : Nat} {f : Nat → Int} (h : w.rowIs b t m (fun j => .int .i64 (f j))) (hn : n ≤ m) : Own w (some ⟨b, 0, none⟩) b 0 n f :=
 ⟨Seg.of_row h hn, fun i _ => h.frozen _⟩
theorem Own.congr {w : World} {a : Option Addr} {g off n : Nat} {f f' : Nat → Int} (h : Own w a g off n f) (e : ∀ i, i < n → f i = f' i) : Own w a g off n f' :=
 ⟨h.toSeg.congr e, h.free⟩
theorem Own.below {w w' : World} {a : Option Addr} {g off n : Nat} {f : Nat → Int} (h : Own w a g off n f) {B : Nat} (hb : Below B w w') (hB : 0 < n → g < B) : Own w' a g off n f :=
 ⟨h.toSeg.below hb hB, fun i hi => (hb.frozen (p := ⟨g, off + i, none⟩) (hB (by omega))).trans (h.free i hi)⟩
theorem Own.of_all {w w' : World} {a : Option Addr} {g off n : Nat} {f : Nat → Int} (h : Own w a g off n f) (hb : Below w.heap.size w w') : Own w' a g off n f :=
 h.below hb (fun hn => h.lt hn)
theorem Own.set {w : World} {a : Option Addr} {g off n : Nat} {f : Nat → Int} (h : Own w a g off n f) {k : Nat} (hk : k < n) (x : Int) :
  Own (w.setCell ⟨g, off + k, none⟩ (.int .i64 x)) a g off n (fun j => if j = k then x else f j) := by
 refine ⟨⟨h.at', fun i hi => ?_⟩, fun i hi => by rw [World.frozen?_setCell]; exact h.free i hi⟩
 by_cases e : i = k
 ·subst e
  rw [World.cell?_setCell_same _ _ _ (h.cell i hi)]
  simp
 ·rw [World.cell?_setCell_other _ _ _ _ (fun h => by have := congrArg Addr.off h; simp at this; omega), h.cell i hi]
  simp [e]
structure Touch (g : Nat) (w w' : World) : Prop where
 grown : w.grownBy w' (some g)
 size : w'.heap.size = w.heap.size
theorem Touch.refl (g : Nat) (w : World) : Touch g w w := ⟨⟨rfl, rfl, rfl, Nat.le_refl _, fun _ _ _ => rfl⟩, rfl⟩
theorem Touch.set {g : Nat} {w wr : World} (h : Touch g w wr) (i : Nat) (v : Value) : Touch g w (wr.setCell ⟨g, i, none⟩ v) := by
 refine ⟨⟨h.grown.os, h.grown.tape, h.grown.output, by simp [World.setCell, h.size], fun k hk hne => ?_⟩, by simp [World.setCell, h.size]⟩
 rw [Below.heap_setCell _ _ _ _ (by intro e; exact hne (by rw [e]))]
 exact h.grown.block k hk hne
def ints (f : Nat → Int) (n : Nat) : List Value := (List.range n).map (fun i => .int .i64 (f i))
theorem ints_length (f : Nat → Int) (n : Nat) : (ints f n).length = n := by simp [ints]
theorem ints_succ (f : Nat → Int) (n : Nat) : ints f (n + 1) = ints f n ++ [.int .i64 (f n)] := by simp [ints, List.range_succ]
theorem own_of_owns {w : World} {base : Nat} {e : TypeId} {v : Value} {n : Nat} {f : Nat → Int} (h : w.ownsRow base e 1 v n (ints f n)) :
  ∃ a g cap, v = .slice a n cap ∧ base ≤ g ∧ Own w a g 0 n f := by
 rcases h.2 with ⟨rfl, rfl⟩ | ⟨g, cap, cur, rfl, hg, hb, hn, hm, hs, ht⟩
 ·exact ⟨none, base, 0, rfl, Nat.le_refl _, Own.nil _ _ _ _ _⟩
 ·refine ⟨_, g, cap, rfl, hg, ⟨fun _ => rfl, fun i hi => ?_⟩, fun i hi => by simp [World.frozen?, hb]⟩
  have hx : (cur.toList.take (n * 1))[i]? = some (.int .i64 (f i)) := by rw [ht]; simp [ints, hi]
  rw [List.getElem?_take] at hx
  simp only [Nat.mul_one, hi, if_true] at hx
  simp [World.cell?, hb]
  simpa using hx
def dig (x : Int) : Bool := decide (0 ≤ x) && decide (x ≤ 65535)
def digs (f : Nat → Int) : Nat → Bool
 | 0 => true
 | n + 1 => digs f n && dig (f n)
theorem digs_iff (f : Nat → Int) (n : Nat) : digs f n = true ↔ ∀ i, i < n → 0 ≤ f i ∧ f i ≤ 65535 := by
 induction n with
 | zero => simp [digs]
 | succ n ih =>
  simp only [digs, Bool.and_eq_true, ih, dig, decide_eq_true_eq]
  constructor
  ·rintro ⟨h, h0, h1⟩ i hi
   by_cases e : i = n
   ·subst e; exact ⟨h0, h1⟩
   ·exact h i (by omega)
  ·intro h
   exact ⟨fun i hi => h i (by omega), (h n (by omega)).1, (h n (by omega)).2⟩
def natOk (n : Nat) (f : Nat → Int) : Bool := digs f n && (decide (n ≤ 64) && (n == 0 || f (n - 1) != 0))
theorem digs_false {f : Nat → Int} {n k : Nat} (hk : k < n) (h : f k < 0 ∨ 65535 < f k) : digs f n = false := by
 cases e : digs f n with
 | false => rfl
 | true => have := (digs_iff f n).1 e k hk; omega
theorem natOk_false {f : Nat → Int} {n k : Nat} (hk : k < n) (h : f k < 0 ∨ 65535 < f k) : natOk n f = false := by
 simp [natOk, digs_false hk h]
theorem natOk_long {f : Nat → Int} {n : Nat} (h : 64 < n) : natOk n f = false := by
 have : ¬ n ≤ 64 := by omega
 simp [natOk, this]
theorem natOk_end {f : Nat → Int} {n : Nat} (hd : ∀ i, i < n → 0 ≤ f i ∧ f i ≤ 65535) : natOk n f = (decide (n ≤ 64) && (n == 0 || f (n - 1) != 0)) := by
 simp [natOk, (digs_iff f n).2 hd]
theorem natOk_iff (n : Nat) (f : Nat → Int) : natOk n f = true ↔ (∀ i, i < n → 0 ≤ f i ∧ f i ≤ 65535) ∧ n ≤ 64 ∧ (n = 0 ∨ f (n - 1) ≠ 0) := by
 simp only [natOk, Bool.and_eq_true, digs_iff, decide_eq_true_eq, Bool.or_eq_true, beq_iff_eq, bne_iff_ne]
theorem ret_bool {a b : Bool} (h : a = b) : Ending.returned (.bool a) = .returned (.bool b) := by rw [h]
theorem ret_int {k : IntKind} {a b : Int} (h : a = b) : Ending.returned (.int k a) = .returned (.int k b) := by rw [h]
def Drawn (w w' : World) : Prop := ∃ q, w' = w.drewN q
theorem Drawn.refl (w : World) : Drawn w w := ⟨0, rfl⟩
theorem Drawn.more {w w' : World} (h : Drawn w w') (q : Nat) : Drawn w (w'.drewN q) := by
 obtain ⟨p, rfl⟩ := h
 exact ⟨_, World.drewN_drewN ..⟩
theorem Drawn.below {w w' : World} (h : Drawn w w') (B : Nat) : Below B w w' := by
 obtain ⟨p, rfl⟩ := h
 exact below_drewN (Below.refl _ _) p
theorem Tryz.info3 : (Tryz.prog.info? 3).map (fun i => (i.zero, i.size, i.bytes)) = some (some (.int .i64 0), 1, 8) := by kernel_rfl
structure Copying (w wr : World) (n k : Nat) (f : Nat → Int) : Prop where
 below : Below w.heap.size w wr
 size : wr.heap.size = w.heap.size + 1
 row : wr.rowIs w.heap.size 3 n (fun j => .int .i64 (if j < k then f j else 0))
theorem copying_start (w : World) (n : Nat) (f : Nat → Int) : Copying w (w.alloc (.cells (madeCells #[.int .i64 0] n) 3)) n 0 f :=
 ⟨(Below.refl _ _).alloc (Nat.le_refl _) _, by simp, (World.rowIs_made w _ n 3).congr (fun j _ => by simp)⟩
theorem copying_step {w wr : World} {n k : Nat} {f : Nat → Int} (h : Copying w wr n k f) : Copying w (wr.setCell ⟨w.heap.size, k, none⟩ (.int .i64 (f k))) n (k + 1) f := by
 refine ⟨h.below.setCell (Nat.le_refl _) _, by simp [World.setCell, h.size], (h.row.set k _).congr (fun j _ => ?_)⟩
 by_cases e : j = k
 ·subst e; simp
 ·rw [if_neg e]
  by_cases hlt : j < k
  ·rw [if_pos hlt, if_pos (by omega)]
  ·rw [if_neg hlt, if_neg (by omega)]
set_option maxHeartbeats 400000 in
theorem toIntS_any (a : Option Addr) (b off n cap : Nat) (f : Nat → Int) (w : World) (hs : Seg w a b off n f) (hn : n ≤ 1048576) :
  Calls Tryz.prog 9 #[.slice a n cap] w fun e w' => e = .returned (.slice (some ⟨w.heap.size, 0, none⟩) n n) ∧ w'.heap.size = w.heap.size + 1 ∧ w'.rowIs w.heap.size 3 n (fun j => .int .i64 (f j)) ∧ Below w.heap.size w w' := by
 have hmk := run_make_row' (P := Tryz.prog) 23 3 (.int .i64 0) 8 Tryz.underlying23 Tryz.info3 rfl .i64 .i64 n (by omega) (by omega)
 go_enter Tryz.func9, Tryz.ntmps9
 go_wp2
 clear hmk
 go_loopw [4] (fun i wr => ∃ k : Nat, k ≤ n ∧ i = .int .i64 k ∧ Copying w wr n k f) (fun i _ => n - (intOf i).toNat)
 case atStart => exact ⟨0, Nat.zero_le _, rfl, copying_start w n f⟩
 case round =>
  obtain ⟨k, hk, rfl, hI⟩ := hrel
  by_cases hlt : k < n
  ·obtain rfl := hs.at' (by omega)
   have hc : wr.cell? ⟨b, off + k, none⟩ = some (.int .i64 (f k)) := (hI.below.cell (p := ⟨b, off + k, none⟩) (hs.lt (by omega))).trans (hs.cell k hlt)
   have hd : wr.cell? ⟨w.heap.size, k, none⟩ = some (.int .i64 0) := by simpa using hI.row.cell hlt
   have hf : wr.frozen? ⟨w.heap.size, k, none⟩ = false := hI.row.frozen k
   have hkn : (k : Int) < (n : Int) := by omega
   go_wp2
   go_roundw
   case rel => exact ⟨k + 1, by omega, by go_num, copying_step hI⟩
   case measure => simp [intOf]; omega
  ·obtain rfl : k = n := by omega
   go_wp2
   go_ret
   exact ⟨rfl, hI.size, hI.row.congr (fun j hj => by rw [if_pos hj]), hI.below⟩
def alike (f g : Nat → Int) : Nat → Bool
 | 0 => true
 | n + 1 => alike f g n && f n == g n
theorem alike_iff (f g : Nat → Int) (n : Nat) : alike f g n = true ↔ ∀ i, i < n → f i = g i := by
 induction n with
 | zero => simp [alike]
 | succ n ih =>
  simp only [alike, Bool.and_eq_true, ih, beq_iff_eq]
  constructor
  ·rintro ⟨h, h0⟩ i hi
   by_cases e : i = n
   ·subst e; exact h0
   ·exact h i (by omega)
  ·intro h
   exact ⟨fun i hi => h i (by omega), h n (by omega)⟩
theorem alike_false {f g : Nat → Int} {n k : Nat} (hk : k < n) (h : f k ≠ g k) : alike f g n = false := by
 cases e : alike f g n with
 | false => rfl
 | true => exact absurd ((alike_iff f g n).1 e k hk) h
set_option maxHeartbeats 400000 in
theorem eqIntS_any (a : Option Addr) (b off n cap : Nat) (f : Nat → Int) (a2 : Option Addr) (b2 off2 n2 cap2 : Nat) (g : Nat → Int) (w : World) (hs : Seg w a b off n f) (hs2 : Seg w a2 b2 off2 n2 g) (hn : n ≤ 1048576) :
  Calls Tryz.prog 13 #[.slice a n cap, .slice a2 n2 cap2] w fun e w' => e = .returned (.bool (n == n2 && alike f g n)) ∧ ∃ q, w' = w.drewN q := by
 by_cases hne : n = n2
 ·subst hne
  go_enter Tryz.func13, Tryz.ntmps13
  go_wp2
  go_loopw [5] (fun i wr => ∃ k : Nat, k ≤ n ∧ i = .int .i64 k ∧ (∀ j, j < k → f j = g j) ∧ ∃ q, wr = w.drewN q) (fun i _ => n - (intOf i).toNat)
  case atStart => exact ⟨0, Nat.zero_le _, rfl, fun j hj => absurd hj (Nat.not_lt_zero _), 0, rfl⟩
  case round =>
   obtain ⟨k, hk, rfl, hd, q, rfl⟩ := hrel
   by_cases hlt : k < n
   ·obtain rfl := hs.at' (by omega)
    obtain rfl := hs2.at' (by omega)
    have hc := hs.cell k hlt
    have hc2 := hs2.cell k hlt
    have hkn : (k : Int) < (n : Int) := by omega
    by_cases he : f k = g k
    ·have hb : (f k != g k) = false := by simp [he]
     go_wp2
     go_quiet (fail)
     go_wp2
     go_roundw
     case rel => exact ⟨k + 1, by omega, by go_num, fun j hj => by
            by_cases e : j = k
            ·subst e; exact he
            ·exact hd j (by omega), _, rfl⟩
     case measure => simp [intOf]; omega
    ·have hb : (f k != g k) = true := by simp [he]
     go_wp2
     go_quiet (fail)
     go_wp2
     go_ret
     exact ⟨ret_bool (by simp [alike_false hlt he]), _, World.drewN_drewN ..⟩
   ·obtain rfl : k = n := by omega
    go_wp2
    go_ret
    exact ⟨ret_bool (by simp [(alike_iff f g k).2 hd]), q, rfl⟩
 ·have hb : ((n : Int) != (n2 : Int)) = true := by simp; omega
  go_enter Tryz.func13, Tryz.ntmps13
  go_wp2
  go_ret
  exact ⟨ret_bool (by simp [hne]), 0, rfl⟩
theorem alike_refl (n : Nat) (f : Nat → Int) : (n == n && alike f f n) = true := by simp [(alike_iff f f n).2 (fun _ _ => rfl)]
structure BSeg (w : World) (a : Option Addr) (b off n : Nat) (f : Nat → Int) : Prop where
 at' : 0 < n → a = some ⟨b, off, none⟩
 cell : ∀ i, i < n → w.cell? ⟨b, off + i, none⟩ = some (.int .u8 (f i))
theorem BSeg.lt {w : World} {a : Option Addr} {b off n : Nat} {f : Nat → Int} (h : BSeg w a b off n f) (hn : 0 < n) : b < w.heap.size :=
 World.block_lt_of_cell? _ _ (h.cell 0 hn)
theorem BSeg.below {w w' : World} {a : Option Addr} {b off n : Nat} {f : Nat → Int} (h : BSeg w a b off n f) {B : Nat} (hb : Below B w w') (hB : 0 < n → b < B) : BSeg w' a b off n f :=
 ⟨h.at', fun i hi => (hb.cell (p := ⟨b, off + i, none⟩) (hB (by omega))).trans (h.cell i hi)⟩
theorem BSeg.of_all {w w' : World} {a : Option Addr} {b off n : Nat} {f : Nat → Int} (h : BSeg w a b off n f) (hb : Below w.heap.size w w') : BSeg w' a b off n f :=
 h.below hb (fun hn => h.lt hn)
theorem BSeg.congr {w : World} {a : Option Addr} {b off n : Nat} {f g : Nat → Int} (h : BSeg w a b off n f) (hg : ∀ i, i < n → f i = g i) : BSeg w a b off n g :=
 ⟨h.at', fun i hi => by rw [h.cell i hi, hg i hi]⟩
structure BOwn (w : World) (a : Option Addr) (g off n : Nat) (f : Nat → Int) : Prop extends BSeg w a g off n f where
 free : ∀ i, i < n → w.frozen? ⟨g, off + i, none⟩ = false
theorem BOwn.nil (w : World) (a : Option Addr) (g off : Nat) (f : Nat → Int) : BOwn w a g off 0 f :=
 ⟨⟨fun h => absurd h (Nat.lt_irrefl _), fun i hi => absurd hi (Nat.not_lt_zero _)⟩, fun i hi => absurd hi (Nat.not_lt_zero _)⟩
theorem BOwn.congr {w : World} {a : Option Addr} {g off n : Nat} {f f' : Nat → Int} (h : BOwn w a g off n f) (e : ∀ i, i < n → f i = f' i) : BOwn w a g off n f' :=
 ⟨h.toBSeg.congr e, h.free⟩
theorem BOwn.set {w : World} {a : Option Addr} {g off n : Nat} {f : Nat → Int} (h : BOwn w a g off n f) {k : Nat} (hk : k < n) (x : Int) :
  BOwn (w.setCell ⟨g, off + k, none⟩ (.int .u8 x)) a g off n (fun j => if j = k then x else f j) := by
 refine ⟨⟨h.at', fun i hi => ?_⟩, fun i hi => by rw [World.frozen?_setCell]; exact h.free i hi⟩
 by_cases e : i = k
 ·subst e
  rw [World.cell?_setCell_same _ _ _ (h.cell i hi)]
  simp
 ·rw [World.cell?_setCell_other _ _ _ _ (fun h => by have := congrArg Addr.off h; simp at this; omega), h.cell i hi]
  simp [e]
def byts (f : Nat → Int) (n : Nat) : List Value := (List.range n).map (fun i => .int .u8 (f i))
theorem byts_length (f : Nat → Int) (n : Nat) : (byts f n).length = n := by simp [byts]
theorem byts_succ (f : Nat → Int) (n : Nat) : byts f (n + 1) = byts f n ++ [.int .u8 (f n)] := by simp [byts, List.range_succ]
theorem bown_of_owns {w : World} {base : Nat} {e : TypeId} {v : Value} {n : Nat} {f : Nat → Int} (h : w.ownsRow base e 1 v n (byts f n)) :
  ∃ a g cap, v = .slice a n cap ∧ base ≤ g ∧ BOwn w a g 0 n f := by
 rcases h.2 with ⟨rfl, rfl⟩ | ⟨g, cap, cur, rfl, hg, hb, hn, hm, hs, ht⟩
 ·exact ⟨none, base, 0, rfl, Nat.le_refl _, BOwn.nil _ _ _ _ _⟩
 ·refine ⟨_, g, cap, rfl, hg, ⟨fun _ => rfl, fun i hi => ?_⟩, fun i hi => by simp [World.frozen?, hb]⟩
  have hx : (cur.toList.take (n * 1))[i]? = some (.int .u8 (f i)) := by rw [ht]; simp [byts, hi]
  rw [List.getElem?_take] at hx
  simp only [Nat.mul_one, hi, if_true] at hx
  simp [World.cell?, hb]
  simpa using hx
theorem Tryz.info5 : (Tryz.prog.info? 5).map (fun i => (i.zero, i.size, i.bytes)) = some (some (.int .u8 0), 1, 1) := by kernel_rfl
structure BCopying (w wr : World) (n k : Nat) (f : Nat → Int) : Prop where
 below : Below w.heap.size w wr
 size : wr.heap.size = w.heap.size + 1
 row : wr.rowIs w.heap.size 5 n (fun j => .int .u8 (if j < k then f j else 0))
theorem bcopying_start (w : World) (n : Nat) (f : Nat → Int) : BCopying w (w.alloc (.cells (madeCells #[.int .u8 0] n) 5)) n 0 f :=
 ⟨(Below.refl _ _).alloc (Nat.le_refl _) _, by simp, (World.rowIs_made w _ n 5).congr (fun j _ => by simp)⟩
theorem bcopying_step {w wr : World} {n k : Nat} {f : Nat → Int} (h : BCopying w wr n k f) : BCopying w (wr.setCell ⟨w.heap.size, k, none⟩ (.int .u8 (f k))) n (k + 1) f := by
 refine ⟨h.below.setCell (Nat.le_refl _) _, by simp [World.setCell, h.size], (h.row.set k _).congr (fun j _ => ?_)⟩
 by_cases e : j = k
 ·subst e; simp
 ·rw [if_neg e]
  by_cases hlt : j < k
  ·rw [if_pos hlt, if_pos (by omega)]
  ·rw [if_neg hlt, if_neg (by omega)]
set_option maxHeartbeats 400000 in
theorem toByteS_any (a : Option Addr) (b off n cap : Nat) (f : Nat → Int) (w : World) (hs : BSeg w a b off n f) (hn : n ≤ 1048576) :
  Calls Tryz.prog 29 #[.slice a n cap] w fun e w' => e = .returned (.slice (some ⟨w.heap.size, 0, none⟩) n n) ∧ w'.heap.size = w.heap.size + 1 ∧ w'.rowIs w.heap.size 5 n (fun j => .int .u8 (f j)) ∧ Below w.heap.size w w' := by
 have hmk := run_make_row' (P := Tryz.prog) 37 5 (.int .u8 0) 1 Tryz.underlying37 Tryz.info5 rfl .i64 .i64 n (by omega) (by omega)
 go_enter Tryz.func29, Tryz.ntmps29
 go_wp2
 clear hmk
 go_loopw [4] (fun i wr => ∃ k : Nat, k ≤ n ∧ i = .int .i64 k ∧ BCopying w wr n k f) (fun i _ => n - (intOf i).toNat)
 case atStart => exact ⟨0, Nat.zero_le _, rfl, bcopying_start w n f⟩
 case round =>
  obtain ⟨k, hk, rfl, hI⟩ := hrel
  by_cases hlt : k < n
  ·obtain rfl := hs.at' (by omega)
   have hc : wr.cell? ⟨b, off + k, none⟩ = some (.int .u8 (f k)) := (hI.below.cell (p := ⟨b, off + k, none⟩) (hs.lt (by omega))).trans (hs.cell k hlt)
   have hd : wr.cell? ⟨w.heap.size, k, none⟩ = some (.int .u8 0) := by simpa using hI.row.cell hlt
   have hf : wr.frozen? ⟨w.heap.size, k, none⟩ = false := hI.row.frozen k
   have hkn : (k : Int) < (n : Int) := by omega
   go_wp2
   go_roundw
   case rel => exact ⟨k + 1, by omega, by go_num, bcopying_step hI⟩
   case measure => simp [intOf]; omega
  ·obtain rfl : k = n := by omega
   go_wp2
   go_ret
   exact ⟨rfl, hI.size, hI.row.congr (fun j hj => by rw [if_pos hj]), hI.below⟩
set_option maxHeartbeats 400000 in
theorem eqByteS_any (a : Option Addr) (b off n cap : Nat) (f : Nat → Int) (a2 : Option Addr) (b2 off2 n2 cap2 : Nat) (g : Nat → Int) (w : World) (hs : BSeg w a b off n f) (hs2 : BSeg w a2 b2 off2 n2 g) (hn : n ≤ 1048576) :
  Calls Tryz.prog 39 #[.slice a n cap, .slice a2 n2 cap2] w fun e w' => e = .returned (.bool (n == n2 && alike f g n)) ∧ ∃ q, w' = w.drewN q := by
 by_cases hne : n = n2
 ·subst hne
  go_enter Tryz.func39, Tryz.ntmps39
  go_wp2
  go_loopw [5] (fun i wr => ∃ k : Nat, k ≤ n ∧ i = .int .i64 k ∧ (∀ j, j < k → f j = g j) ∧ ∃ q, wr = w.drewN q) (fun i _ => n - (intOf i).toNat)
  case atStart => exact ⟨0, Nat.zero_le _, rfl, fun j hj => absurd hj (Nat.not_lt_zero _), 0, rfl⟩
  case round =>
   obtain ⟨k, hk, rfl, hd, q, rfl⟩ := hrel
   by_cases hlt : k < n
   ·obtain rfl := hs.at' (by omega)
    obtain rfl := hs2.at' (by omega)
    have hc := hs.cell k hlt
    have hc2 := hs2.cell k hlt
    have hkn : (k : Int) < (n : Int) := by omega
    by_cases he : f k = g k
    ·have hb : (f k != g k) = false := by simp [he]
     go_wp2
     go_quiet (fail)
     go_wp2
     go_roundw
     case rel => exact ⟨k + 1, by omega, by go_num, fun j hj => by
            by_cases e : j = k
            ·subst e; exact he
            ·exact hd j (by omega), _, rfl⟩
     case measure => simp [intOf]; omega
    ·have hb : (f k != g k) = true := by simp [he]
     go_wp2
     go_quiet (fail)
     go_wp2
     go_ret
     exact ⟨ret_bool (by simp [alike_false hlt he]), _, World.drewN_drewN ..⟩
   ·obtain rfl : k = n := by omega
    go_wp2
    go_ret
    exact ⟨ret_bool (by simp [(alike_iff f g k).2 hd]), q, rfl⟩
 ·have hb : ((n : Int) != (n2 : Int)) = true := by simp; omega
  go_enter Tryz.func39, Tryz.ntmps39
  go_wp2
  go_ret
  exact ⟨ret_bool (by simp [hne]), 0, rfl⟩
end
section
open Go Go.Sort Go.RowKit
def Ext (w w' : World) : Prop := Below w.heap.size w w'
theorem Ext.refl (w : World) : Ext w w := Below.refl _ _
theorem Ext.trans {a b c : World} (h : Ext a b) (k : Ext b c) : Ext a c := Below.trans h (Below.mono k (Below.size h))
structure Kept (C G : World → Prop) : Prop where
 sub : ∀ w, G w → C w
 up : ∀ w w', G w → Ext w w' → G w'
section
variable {P : Program} {ops : Array Oper} {md : Region.Mode} {Q : Exit → Act → World → Prop} {C : World → Prop}
def opS (P : Program) (ops : Array Oper) (Q : Exit → Act → World → Prop) (C : World → Prop) (i : Nat) (K : Act → (World → Prop) → Prop) (a : Act) (G : World → Prop) : Prop :=
 ∀ w, G w → wpOp P ops Q i (fun a' w' => ∃ G', Kept C G' ∧ G' w' ∧ K a' G') a w
def anyS (P : Program) (md : Region.Mode) (ops : Array Oper) (Q : Exit → Act → World → Prop) (C : World → Prop) : Nat → Array Bool → Act → (World → Prop) → Prop
 | 0, listed, a, G => Region.ready md ops listed = [] ∧ ∀ w, G w → Q .normal a w
 | f + 1, listed, a, G => (Region.ready md ops listed = [] → ∀ w, G w → Q .normal a w) ∧ ∀ i ∈ Region.ready md ops listed, opS P ops Q C i (anyS P md ops Q C f (listed.setIfInBounds i true)) a G
theorem any_of_S : ∀ (f : Nat) (listed : Array Bool) (a : Act) (G : World → Prop) (w : World), G w → anyS P md ops Q C f listed a G → wpAny P md ops Q f listed a w
 | 0, _, _, _, w, hG, h => ⟨h.1, h.2 w hG⟩
 | f + 1, _, _, _, w, hG, h => ⟨fun e => h.1 e w hG, fun i hi => wpOp_mono (fun a' w' ⟨G', _, hw, hr⟩ => any_of_S f _ a' G' w' hw hr) (h.2 i hi w hG)⟩
def YieldsE (P : Program) (ops : Array Oper) (C : World → Prop) (o : Oper) (v : Value) (a : Act) : Prop :=
 (Region.wanted o (yielded ops a.tmps) = true ∧ ∀ w, C w → o.quietAt P a (Ext w) w v) ∨ (Region.wanted o (yielded ops a.tmps) = false ∧ v = undef)
theorem YieldsE.same {o : Oper} {v : Value} {a a' : Act} (hy : YieldsE P ops C o v a) (he : execOp a'.eval o = execOp a.eval o) (hw : Region.wanted o (yielded ops a'.tmps) = Region.wanted o (yielded ops a.tmps)) : YieldsE P ops C o v a' := by
 unfold YieldsE Oper.quietAt at *
 rw [he, hw]
 exact hy
theorem quiet_runs {o : Oper} {a : Act} {w : World} {v : Value} {K : Act → World → Prop} (h : o.quietAt P a (Ext w) w v) (hk : ∀ w', Ext w w' → K (a.put o.dst v) w') : o.wp P a w K Q := by
 unfold Oper.quietAt at h
 unfold Oper.wp
 generalize (execOp a.eval o).run P w = r at h ⊢
 rcases r with ⟨n, w'⟩ | ⟨x, w'⟩
 ·cases n with
  | value u => obtain ⟨rfl, rfl⟩ := h; exact hk _ (Ext.refl _)
  | skip => obtain ⟨rfl, rfl⟩ := h; exact hk _ (Ext.refl _)
  | enter f args => obtain ⟨rfl, hc⟩ := h; exact hc.mono fun e w'' ⟨he, hw⟩ => by subst he; exact hk _ hw
  | defer d => exact h.elim
  | row s args => exact h.elim
  | _ => exact h.elim
 ·exact h.elim
theorem YieldsE.runs {i : Nat} {o : Oper} {v : Value} {a : Act} (hi : ops[i]? = some o) (hy : YieldsE P ops C o v a) {K : Act → World → Prop} {w : World} (hC : C w) (hk : ∀ w', Ext w w' → K (a.put o.dst v) w') : wpOp P ops Q i K a w := by
 unfold wpOp
 rw [hi]
 rcases hy with ⟨hw, hv⟩ | ⟨hw, rfl⟩
 ·simp only [hw, if_true]
  exact Or.inl (quiet_runs (hv w hC) hk)
 ·simp only [hw, Bool.false_eq_true, if_false]
  exact hk _ (Ext.refl _)
theorem wpOp_slot {j : Nat} {oj : Oper} {K : Act → World → Prop} {a : Act} {w : World} (hj : ops[j]? = some oj) (h : wpOp P ops Q j K a w) :
  wpOp P ops Q j (fun a' w' => (∃ ds u, a' = ({ a with defers := ds } : Act).put oj.dst u) ∧ K a' w') a w := by
 unfold wpOp at h ⊢
 rw [hj] at h ⊢
 by_cases hw : Region.wanted oj (yielded ops a.tmps) = true
 ·simp only [hw, if_true] at h ⊢
  rcases h with h | h
  ·left
   unfold Oper.wp at h ⊢
   generalize (execOp a.eval oj).run P w = r at h ⊢
   rcases r with ⟨n, w'⟩ | ⟨x, w'⟩
   ·cases n with
    | value u => exact ⟨⟨a.defers, u, rfl⟩, h⟩
    | skip => exact ⟨⟨a.defers, undef, rfl⟩, h⟩
    | enter f args =>
     refine Calls.mono h fun e w'' he => ?_
     cases e with
     | returned u => exact ⟨⟨a.defers, u, rfl⟩, he⟩
     | panicked c => exact he
     | outgrown => exact he
    | defer d => exact ⟨⟨d :: a.defers, undef, rfl⟩, h⟩
    | row s args => exact Rows.mono h fun u w'' he => ⟨⟨a.defers, u, rfl⟩, he⟩
    | _ => exact h
   ·cases x <;> exact h
  ·exact Or.inr h
 ·simp only [hw] at h ⊢
  exact ⟨⟨a.defers, undef, rfl⟩, h⟩
theorem YieldsE.idle {o : Oper} {v : Value} {a : Act} (hy : YieldsE P ops C o v a) : YieldsIf P ops (fun _ => False) o v a :=
 hy.imp (fun h => ⟨h.1, fun _ k => k.elim⟩) id
theorem opS_put {j : Nat} {oi oj : Oper} {v : Value} {K : Act → (World → Prop) → Prop} {a : Act} {G : World → Prop} (hj : ops[j]? = some oj) (hap : oi.apart ops oj = true)
  (hsi : ∀ cs b, oi.op ≠ .select cs b) (hsj : ∀ cs b, oj.op ≠ .select cs b) (hQ : ∀ c a w, Q (.panic c) (a.put oi.dst v) w → Q (.panic c) a w)
  (hy : YieldsE P ops C oi v a) (h : opS P ops Q C j K (a.put oi.dst v) G) : opS P ops Q C j (fun a' G' => YieldsE P ops C oi v a' ∧ K (a'.put oi.dst v) G') a G := by
 intro w hG
 have h1 := wpOp_slot hj (wpOp_putIf hj hap hsi hsj hQ hy.idle (h w hG))
 have h3 := (Oper.apart_spec hap).2.2
 refine wpOp_mono ?_ h1
 rintro a' w' ⟨⟨ds, u, rfl⟩, _, G', hk, hw, hK⟩
 refine ⟨G', hk, hw, ?_, hK⟩
 exact hy.same (execOp_put oi hsi ({ a with defers := ds } : Act) oj.dst u h3) (wanted_put oi ({ a with defers := ds } : Act) oj.dst u h3)
theorem anyS_first {i : Nat} {oi : Oper} {v : Value} (hi : ops[i]? = some oi) (hsel : ∀ (j : Nat) (o : Oper) cs b, ops[j]? = some o → o.op ≠ .select cs b) (hQ : ∀ c a w, Q (.panic c) (a.put oi.dst v) w → Q (.panic c) a w) :
  ∀ (f : Nat) (listed : Array Bool) (a : Act) (G : World → Prop), Kept C G →
   (∀ j oj, ops[j]? = some oj → j ≠ i → listed.getD j true = false → (∀ e ∈ oj.after, Region.binds md e = true → e.on ≠ i) → oi.apart ops oj = true) →
   i ∈ Region.ready md ops listed → YieldsE P ops C oi v a → anyS P md ops Q C f (listed.setIfInBounds i true) (a.put oi.dst v) G → anyS P md ops Q C (f + 1) listed a G := by
 intro f
 induction f with
 | zero =>
  intro listed a G hG hfree hr hy H
  refine ⟨fun e => absurd (e ▸ hr) (by simp), fun j hj w hw => ?_⟩
  by_cases e : j = i
  ·subst e
   exact hy.runs hi (hG.sub w hw) fun w' hx => ⟨G, hG, hG.up w w' hw hx, H⟩
  ·exact absurd (H.1 ▸ ready_mono hj e) (by simp)
 | succ f ih =>
  intro listed a G hG hfree hr hy H
  refine ⟨fun e => absurd (e ▸ hr) (by simp), fun j hj => ?_⟩
  by_cases e : j = i
  ·subst e
   intro w hw
   exact hy.runs hi (hG.sub w hw) fun w' hx => ⟨G, hG, hG.up w w' hw hx, H⟩
  ·obtain ⟨hju, oj, hoj, hall⟩ := mem_ready.1 hj
   have hno : ∀ x ∈ oj.after, Region.binds md x = true → x.on ≠ i := by
    intro x hx hb he
    have k1 := hall x hx hb
    have k0 := (mem_ready.1 hr).1
    rw [he, getD_both k0] at k1
    cases k1
   have hfree2 : ∀ k ok, ops[k]? = some ok → k ≠ i → (listed.setIfInBounds j true).getD k true = false → (∀ x ∈ ok.after, Region.binds md x = true → x.on ≠ i) → oi.apart ops ok = true := by
    intro k ok hk hki hun hn
    refine hfree k ok hk hki ?_ hn
    by_cases hjk : j = k
    ·subst hjk; exact hju
    ·rwa [getD_set_ne true hjk] at hun
   have h2 := opS_put hoj (hfree j oj hoj e hju hno) (fun cs b => hsel i oi cs b hi) (fun cs b => hsel j oj cs b hoj) hQ hy (H.2 j (ready_mono hj e))
   intro w hw
   refine wpOp_mono ?_ (h2 w hw)
   rintro a' w' ⟨G', hk, hw', hy', hK⟩
   refine ⟨G', hk, hw', ih _ a' G' hk hfree2 (ready_mono hr (Ne.symm e)) hy' ?_⟩
   rw [Array.setIfInBounds_comm _ _ e]
   exact hK
theorem quiet_up {o : Oper} {a : Act} {w : World} {v : Value} {D D' : World → Prop} (hD : ∀ w, D w → D' w) (h : o.quietAt P a D w v) : o.quietAt P a D' w v := by
 unfold Oper.quietAt at *
 generalize (execOp a.eval o).run P w = r at h ⊢
 rcases r with ⟨n, w'⟩ | ⟨x, w'⟩
 ·cases n with
  | enter f args => exact ⟨h.1, h.2.mono fun e w'' k => ⟨k.1, hD _ k.2⟩⟩
  | _ => exact h
 ·exact h
/-! The same where what stands at the end waits for all that is ahead of it: the end may then write where it likes. -/
end
end
section
open Go Go.Sort Go.RowKit
section
variable {P : Program} {ops : Array Oper} {md : Region.Mode} {Q : Exit → Act → World → Prop}
def takeB (md : Region.Mode) (ops : Array Oper) : Nat → Nat → Array Bool → Bool
 | 0, _, _ => true
 | n + 1, k, listed => (Region.ready md ops listed).contains k && Region.free md ops listed k && takeB md ops n (k + 1) (listed.setIfInBounds k true)
def setB : Nat → Nat → Array Bool → Array Bool
 | 0, _, L => L
 | n + 1, k, L => setB n (k + 1) (L.setIfInBounds k true)
end
end
end Go.Proofs.YtfhiiakoilkbkaaGreatDoor
