/- Walks: Lower of both. -/
import Derived.Test.YtgdjaapjdmancaaStr
namespace Go.Proofs.Ytgdjaapjdmancaa
set_option linter.unusedVariables false
set_option linter.unusedSimpArgs false
open Go.RowKit

/-- A byte as Lower has it. -/
def lowB (c : Nat) : Int := if 65 ≤ c ∧ c ≤ 90 then c + 32 else c
def lowF (s : ByteArray) (i : Nat) : Int := lowB (bt s i)

theorem bone1 (x : Int) : ∀ u ∈ [Value.int .u8 x], u.oneCell' = true := by
  intro u hu
  simp at hu
  subst hu
  rfl

theorem low_step {f : Nat → Int} {k : Nat} {w wr w1 : World} {v v' : Value} {o : Obj} {x : Int} (hO : wr.ownsRow w.heap.size 5 1 v k (byts f k)) (hE : Ext w wr) (hx : x = f k)
    (hown : w1.ownsRow w.heap.size 5 1 v' (k + 1) (byts f k ++ [.int .u8 x])) (hg : (wr.alloc o).grownBy w1 v.ownBlock) : w1.ownsRow w.heap.size 5 1 v' (k + 1) (byts f (k + 1)) ∧ Ext w w1 := by
  refine ⟨?_, (Below.alloc hE (Below.size hE) o).grown hg (by have := Below.size hE; simp; omega) (fun j hj => (hO.lt j hj).1)⟩
  rw [byts_succ, ← hx]
  exact hown

/-- What the program's loop has done behind the bytes below p. -/
def lowK (s : ByteArray) (p i : Nat) : Int := if i < p then lowF s i else bt s i

theorem lowK_high {s : ByteArray} {p q : Nat} (h : ∀ j, p ≤ j → j < p + q → lowF s j = bt s j) (i : Nat) : lowK s (p + q) i = lowK s p i := by
  unfold lowK
  by_cases h1 : i < p
  · rw [if_pos h1, if_pos (by omega)]
  · rw [if_neg h1]
    by_cases h2 : i < p + q
    · rw [if_pos h2]; exact h i (by omega) h2
    · rw [if_neg h2]

theorem bown_iterAt {w : World} {a : Option Addr} {g o n k : Nat} {f : Nat → Int} {s : ByteArray} {p : Nat} (h : BOwn w a g o n f) (hk : g ≠ k) : BOwn (w.iterAt k s p) a g o n f := by
  have hb : (w.iterAt k s p).heap[g]? = w.heap[g]? := Lib.iterAt_other _ _ _ _ _ hk
  refine ⟨⟨h.at', fun i hi => ?_⟩, fun i hi => ?_⟩
  · rw [World.cell?_of_block (a := ⟨g, o + i, none⟩) hb]; exact h.cell i hi
  · rw [World.frozen?_of_block (a := ⟨g, o + i, none⟩) hb]; exact h.free i hi

theorem bown_row (w : World) (s : ByteArray) (cap : Nat) (x : Nat × Nat) (hx : x = ((bytesRow s cap).size, (bytesRow s cap).size + 1)) : BOwn (w.alloc (.cells (bytesRow s cap) 5 x)) (some ⟨w.heap.size, 0, none⟩) w.heap.size 0 s.size (fun i => bt s i) := by
  have hb : (w.alloc (.cells (bytesRow s cap) 5 x)).heap[w.heap.size]? = some (.cells (bytesRow s cap) 5 x) := heap_alloc_new w _
  have hz : s.size ≤ (bytesRow s cap).size := by simp [bytesRow]
  refine ⟨⟨fun _ => rfl, fun i hi => ?_⟩, fun i hi => ?_⟩
  · simp only [World.cell?, hb]
    have : (bytesRow s cap)[i]? = some (.int .u8 (bt s i)) := by
      unfold bytesRow
      rw [Array.getElem?_append_left (by simpa using hi)]
      rw [Array.getElem?_map, Array.getElem?_eq_getElem (by simpa using hi)]
      simp only [Option.map_some]
      rw [← bt_get s i hi]
      rfl
    simpa using this
  · simp only [World.frozen?, hb]
    subst hx
    simp
    omega

end Go.Proofs.Ytgdjaapjdmancaa
