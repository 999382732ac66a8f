/- Plain notions for walks over slices of bytes, made of those over ints. Nothing of the program. -/
import Derived.Test.YtjpdllhhganbpaaBase
namespace Go.Proofs.Ytjpdllhhganbpaa
set_option linter.unusedVariables false
open Go.RowKit

/-- A slice of n byts that leads to block b, place off: its i-th element is f i. -/
structure BSeg (w : World) (a : Option Addr) (b off n : Nat) (f : Nat → Int) : Prop where
  at' : 0 < n → a = some ⟨b, off, none⟩
  cell : ∀ i, i < n → w.cell? ⟨b, off + i, none⟩ = some (.int .u8 (f i))

theorem BSeg.lt {w : World} {a : Option Addr} {b off n : Nat} {f : Nat → Int} (h : BSeg w a b off n f) (hn : 0 < n) : b < w.heap.size :=
  World.block_lt_of_cell? _ _ (h.cell 0 hn)

/-- What lies below B is read in a later world as before. -/
theorem BSeg.below {w w' : World} {a : Option Addr} {b off n : Nat} {f : Nat → Int} (h : BSeg w a b off n f) {B : Nat} (hb : Below B w w') (hB : 0 < n → b < B) : BSeg w' a b off n f :=
  ⟨h.at', fun i hi => (hb.cell (p := ⟨b, off + i, none⟩) (hB (by omega))).trans (h.cell i hi)⟩

/-- The whole heap is as it was. -/
theorem BSeg.of_all {w w' : World} {a : Option Addr} {b off n : Nat} {f : Nat → Int} (h : BSeg w a b off n f) (hb : Below w.heap.size w w') : BSeg w' a b off n f :=
  h.below hb (fun hn => h.lt hn)

theorem BSeg.congr {w : World} {a : Option Addr} {b off n : Nat} {f g : Nat → Int} (h : BSeg w a b off n f) (hg : ∀ i, i < n → f i = g i) : BSeg w a b off n g :=
  ⟨h.at', fun i hi => by rw [h.cell i hi, hg i hi]⟩

/-- A row of the call's own, read as a slice. -/
theorem BSeg.of_row {w : World} {b n : Nat} {t : TypeId} {m : Nat} {f : Nat → Int} (h : w.rowIs b t m (fun j => .int .u8 (f j))) (hn : n ≤ m) : BSeg w (some ⟨b, 0, none⟩) b 0 n f :=
  ⟨fun _ => rfl, fun i hi => by rw [Nat.zero_add]; exact h.cell (by omega)⟩

/-- A slice whose cells are not frozen: it may be written. -/
structure BOwn (w : World) (a : Option Addr) (g off n : Nat) (f : Nat → Int) : Prop extends BSeg w a g off n f where
  free : ∀ i, i < n → w.frozen? ⟨g, off + i, none⟩ = false

theorem BOwn.nil (w : World) (a : Option Addr) (g off : Nat) (f : Nat → Int) : BOwn w a g off 0 f :=
  ⟨⟨fun h => absurd h (Nat.lt_irrefl _), fun i hi => absurd hi (Nat.not_lt_zero _)⟩, fun i hi => absurd hi (Nat.not_lt_zero _)⟩

theorem BOwn.of_row {w : World} {b n : Nat} {t : TypeId} {m : Nat} {f : Nat → Int} (h : w.rowIs b t m (fun j => .int .u8 (f j))) (hn : n ≤ m) : BOwn w (some ⟨b, 0, none⟩) b 0 n f :=
  ⟨BSeg.of_row h hn, fun i _ => h.frozen _⟩

theorem BOwn.congr {w : World} {a : Option Addr} {g off n : Nat} {f f' : Nat → Int} (h : BOwn w a g off n f) (e : ∀ i, i < n → f i = f' i) : BOwn w a g off n f' :=
  ⟨h.toBSeg.congr e, h.free⟩

theorem BOwn.below {w w' : World} {a : Option Addr} {g off n : Nat} {f : Nat → Int} (h : BOwn w a g off n f) {B : Nat} (hb : Below B w w') (hB : 0 < n → g < B) : BOwn w' a g off n f :=
  ⟨h.toBSeg.below hb hB, fun i hi => (hb.frozen (p := ⟨g, off + i, none⟩) (hB (by omega))).trans (h.free i hi)⟩

theorem BOwn.of_all {w w' : World} {a : Option Addr} {g off n : Nat} {f : Nat → Int} (h : BOwn w a g off n f) (hb : Below w.heap.size w w') : BOwn w' a g off n f :=
  h.below hb (fun hn => h.lt hn)

theorem BOwn.set {w : World} {a : Option Addr} {g off n : Nat} {f : Nat → Int} (h : BOwn w a g off n f) {k : Nat} (hk : k < n) (x : Int) :
    BOwn (w.setCell ⟨g, off + k, none⟩ (.int .u8 x)) a g off n (fun j => if j = k then x else f j) := by
  refine ⟨⟨h.at', fun i hi => ?_⟩, fun i hi => by rw [World.frozen?_setCell]; exact h.free i hi⟩
  by_cases e : i = k
  · subst e
    rw [World.cell?_setCell_same _ _ _ (h.cell i hi)]
    simp
  · rw [World.cell?_setCell_other _ _ _ _ (fun h => by have := congrArg Addr.off h; simp at this; omega), h.cell i hi]
    simp [e]

/-- A cut of a slice. -/
theorem BSeg.cut {w : World} {a : Option Addr} {b off n : Nat} {f : Nat → Int} (h : BSeg w a b off n f) {m : Nat} (hm : m ≤ n) : BSeg w a b off m f :=
  ⟨fun h0 => h.at' (by omega), fun i hi => h.cell i (by omega)⟩

theorem BOwn.cut {w : World} {a : Option Addr} {b off n : Nat} {f : Nat → Int} (h : BOwn w a b off n f) {m : Nat} (hm : m ≤ n) : BOwn w a b off m f :=
  ⟨h.toBSeg.cut hm, fun i hi => h.free i (by omega)⟩

theorem BSeg.touch {w w' : World} {a : Option Addr} {b off n g : Nat} {f : Nat → Int} (h : BSeg w a b off n f) (ht : Touch g w w') (hg : 0 < n → b ≠ g) : BSeg w' a b off n f :=
  ⟨h.at', fun i hi => (World.cell?_of_block (a := ⟨b, off + i, none⟩) (ht.grown.block b (h.lt (by omega)) (by simp; exact hg (by omega)))).trans (h.cell i hi)⟩

theorem BOwn.touch {w w' : World} {a : Option Addr} {b off n g : Nat} {f : Nat → Int} (h : BOwn w a b off n f) (ht : Touch g w w') (hg : 0 < n → b ≠ g) : BOwn w' a b off n f :=
  ⟨h.toBSeg.touch ht hg, fun i hi => (World.frozen?_of_block (a := ⟨b, off + i, none⟩) (ht.grown.block b (h.lt (by omega)) (by simp; exact hg (by omega)))).trans (h.free i hi)⟩

/-- The first n byts, as cells. -/
def byts (f : Nat → Int) (n : Nat) : List Value := (List.range n).map (fun i => .int .u8 (f i))

theorem byts_length (f : Nat → Int) (n : Nat) : (byts f n).length = n := by simp [byts]

theorem byts_succ (f : Nat → Int) (n : Nat) : byts f (n + 1) = byts f n ++ [.int .u8 (f n)] := by simp [byts, List.range_succ]

/-- What appends have gathered is a slice of the call's own. -/
theorem bown_of_owns {w : World} {base : Nat} {e : TypeId} {v : Value} {n : Nat} {f : Nat → Int} (h : w.ownsRow base e 1 v n (byts f n)) :
    ∃ a g cap, v = .slice a n cap ∧ base ≤ g ∧ BOwn w a g 0 n f := by
  rcases h.2 with ⟨rfl, rfl⟩ | ⟨g, cap, cur, rfl, hg, hb, hn, hm, hs, ht⟩
  · exact ⟨none, base, 0, rfl, Nat.le_refl _, BOwn.nil _ _ _ _ _⟩
  · refine ⟨_, g, cap, rfl, hg, ⟨fun _ => rfl, fun i hi => ?_⟩, fun i hi => by simp [World.frozen?, hb]⟩
    have hx : (cur.toList.take (n * 1))[i]? = some (.int .u8 (f i)) := by rw [ht]; simp [byts, hi]
    rw [List.getElem?_take] at hx
    simp only [Nat.mul_one, hi, if_true] at hx
    simp [World.cell?, hb]
    simpa using hx

end Go.Proofs.Ytjpdllhhganbpaa
