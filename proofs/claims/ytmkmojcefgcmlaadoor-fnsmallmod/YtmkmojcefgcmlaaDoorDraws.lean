/- Walks of the model's draws of naturals: l1DrawNat: some list of ints in new memory; the cursor alone has turned. -/
import Derived.Test.YtmkmojcefgcmlaaDoorCursor
import Derived.Test.YtmkmojcefgcmlaaDoorNormOwns
namespace Go.Proofs.YtmkmojcefgcmlaaDoor
set_option linter.unusedVariables false
open Go.RowKit

/-- Of what was there only block C may have turned. -/
def Grow (C : Nat) (w w' : World) : Prop := w.grownBy w' (some C)

theorem Grow.refl (C : Nat) (w : World) : Grow C w w := ⟨rfl, rfl, rfl, Nat.le_refl _, fun _ _ _ => rfl⟩

theorem Grow.trans {C : Nat} {w w1 w2 : World} (h : Grow C w w1) (k : Grow C w1 w2) : Grow C w w2 :=
  ⟨k.os.trans h.os, k.tape.trans h.tape, k.output.trans h.output, Nat.le_trans h.size k.size, fun i hi hne => (k.block i (Nat.lt_of_lt_of_le hi h.size) hne).trans (h.block i hi hne)⟩

theorem Grow.touch {C : Nat} {w w1 : World} (h : Touch C w w1) : Grow C w w1 := h.grown

theorem Grow.alloc {C : Nat} {w w1 : World} (h : Grow C w w1) (o : Obj) : Grow C w (w1.alloc o) := Grow.trans h (World.grownBy_alloc w1 o (some C))

/-- A write into a row that came later. -/
theorem Grow.later {C : Nat} {w w1 w2 : World} {row : Option Nat} (h : Grow C w w1) (k : w1.grownBy w2 row) (hr : ∀ j, row = some j → w.heap.size ≤ j) : Grow C w w2 :=
  ⟨k.os.trans h.os, k.tape.trans h.tape, k.output.trans h.output, Nat.le_trans h.size k.size, fun i hi hne => (k.block i (Nat.lt_of_lt_of_le hi h.size) (fun e => by have := hr i e.symm; omega)).trans (h.block i hi hne)⟩

theorem Grow.below {C : Nat} {w w1 : World} (h : Below w.heap.size w w1) : Grow C w w1 := ⟨h.os, h.tape, h.output, h.size, fun i hi _ => h.block i hi⟩

theorem Own.grow {C : Nat} {w w' : World} {a : Option Addr} {g off n : Nat} {f : Nat → Int} (h : Own w a g off n f) (k : Grow C w w') (hne : 0 < n → g ≠ C) : Own w' a g off n f :=
  ⟨⟨h.at', fun i hi => (World.cell?_of_block (a := ⟨g, off + i, none⟩) (k.block g (h.lt (by omega)) (by simp; exact hne (by omega)))).trans (h.cell i hi)⟩,
    fun i hi => (World.frozen?_of_block (a := ⟨g, off + i, none⟩) (k.block g (h.lt (by omega)) (by simp; exact hne (by omega)))).trans (h.free i hi)⟩

/-- The call hands back some list, at most lim long, in new memory; of what was there the cursor alone has turned. -/
def GivesList (w : World) (C : Nat) (c : Option Addr) (n cap : Nat) (lim : Nat) (e : Ending) (w' : World) : Prop :=
  ∃ g cp m f, e = .returned (.slice (some ⟨g, 0, none⟩) m cp) ∧ m ≤ lim ∧ w.heap.size ≤ g ∧ Own w' (some ⟨g, 0, none⟩) g 0 m f ∧ w'.ownsRow w.heap.size 3 1 (.slice (some ⟨g, 0, none⟩) m cp) m (ints f m) ∧ Cur w' C c n cap ∧ Grow C w w'

/-- In mid-draw: j ints are gathered. -/
structure Gather (w wr : World) (C : Nat) (c : Option Addr) (n cap : Nat) (v : Value) (j : Nat) (f : Nat → Int) : Prop where
  own : wr.ownsRow w.heap.size 3 1 v j (ints f j)
  notnil : v ≠ .slice none 0 0
  cur : Cur wr C c n cap
  grow : Grow C w wr

theorem ints_congr {f g : Nat → Int} {n : Nat} (h : ∀ i, i < n → f i = g i) : ints f n = ints g n := by
  unfold ints
  exact List.map_congr_left (fun i hi => by rw [h i (List.mem_range.1 hi)])

theorem gather_step {w wr w1 : World} {C : Nat} {c : Option Addr} {n cap : Nat} {v v' : Value} {j : Nat} {f : Nat → Int} {x : Int} {o : Obj} (h : Gather w wr C c n cap v j f) (hC : C < w.heap.size)
    (hown : w1.ownsRow w.heap.size 3 1 v' (j + 1) (ints f j ++ [.int .i64 x])) (hg : (wr.alloc o).grownBy w1 v.ownBlock) (hv : v' ≠ .slice none 0 0) : Gather w w1 C c n cap v' (j + 1) (fun i => if i = j then x else f i) := by
  have hcb : (wr.alloc o).heap[C]? = wr.heap[C]? := Below.heap_alloc _ _ _ (Nat.lt_of_lt_of_le hC h.grow.size)
  have hlt : ∀ k, v.ownBlock = some k → w.heap.size ≤ k := fun k hk => (h.own.lt k hk).1
  refine ⟨?_, hv, ?_, (h.grow.alloc o).later hg hlt⟩
  · rw [ints_succ, ints_congr (f := fun i => if i = j then x else f i) (g := f) (fun i hi => by simp [show i ≠ j by omega])]
    simpa using hown
  · refine h.cur.of_block ?_
    rw [hg.block C (by have := h.grow.size; simp; omega) (fun e => by have := hlt C e.symm; omega), hcb]

theorem gather_touch {w wr w1 : World} {C : Nat} {c : Option Addr} {n cap : Nat} {v : Value} {j : Nat} {f : Nat → Int} (h : Gather w wr C c n cap v j f) (hC : C < w.heap.size) (k : Grow C wr w1) (hc : Cur w1 C c n cap) : Gather w w1 C c n cap v j f :=
  ⟨h.own.kept k (by
    cases e : v.ownBlock with
    | none => exact .inl rfl
    | some b => exact .inr (by have := (h.own.lt b e).1; simp; omega)), h.notnil, hc, h.grow.trans k⟩

theorem one_cell2 (x : Int) : ∀ u ∈ [Value.int .i64 x], u.oneCell' = true := by
  intro u hu
  simp at hu
  subst hu
  rfl

/-- The row of the numbers that are picked from. -/
theorem four_row (w : World) (x0 x1 x2 x3 : Int) : (w.alloc (.cells #[.int .i64 x0, .int .i64 x1, .int .i64 x2, .int .i64 x3] 3)).rowIs w.heap.size 3 4 (fun j => .int .i64 (if j = 0 then x0 else if j = 1 then x1 else if j = 2 then x2 else x3)) :=
  World.rowIs_alloc w _ 3 _ (fun i hi => by
    have : i = 0 ∨ i = 1 ∨ i = 2 ∨ i = 3 := by simp at hi; omega
    rcases this with rfl | rfl | rfl | rfl <;> rfl)

end Go.Proofs.YtmkmojcefgcmlaaDoor
