/- Plain facts: worlds in which the cursor's block may have turned. Nothing of the program. -/
import Derived.Test.YtjpdllhhganbpaaICat
import Derived.Test.YtjpdllhhganbpaaDrawN
namespace Go.Proofs.Ytjpdllhhganbpaa
set_option linter.unusedVariables false
set_option linter.unusedSimpArgs false
open Go.RowKit

theorem gb_trans {C : Nat} {w w1 w2 : World} (h : w.grownBy w1 (some C)) (k : w1.grownBy w2 (some C)) : w.grownBy w2 (some C) :=
  ⟨k.os.trans h.os, k.tape.trans h.tape, k.output.trans h.output, Nat.le_trans h.size k.size, fun i hi hn => (k.block i (Nat.lt_of_lt_of_le hi h.size) hn).trans (h.block i hi hn)⟩
theorem gb_refl {C : Nat} (w : World) : w.grownBy w (some C) := ⟨rfl, rfl, rfl, Nat.le_refl _, fun _ _ _ => rfl⟩
theorem gb_below {C B : Nat} {w w1 : World} (h : Below B w w1) (hB : w.heap.size ≤ B) : w.grownBy w1 (some C) :=
  ⟨h.os, h.tape, h.output, h.size, fun i hi _ => h.block i (by omega)⟩
theorem gb_later {C B : Nat} {w w1 w2 : World} (h : w.grownBy w1 (some C)) (k : Below B w1 w2) (hB : w.heap.size ≤ B) : w.grownBy w2 (some C) :=
  ⟨k.os.trans h.os, k.tape.trans h.tape, k.output.trans h.output, Nat.le_trans h.size k.size, fun i hi hn => (k.block i (by omega)).trans (h.block i hi hn)⟩
theorem gb_touch {C : Nat} {w w1 : World} (h : Touch C w w1) : w.grownBy w1 (some C) := h.grown
theorem owns_gb {C : Nat} {w w1 : World} {base n : Nat} {e : TypeId} {v : Value} {xs : List Value} (h : w.ownsRow base e 1 v n xs) (k : w.grownBy w1 (some C)) (hC : C < base) : w1.ownsRow base e 1 v n xs := by
  refine h.kept k ?_
  cases hv : v.ownBlock with
  | none => exact .inl rfl
  | some g => have := (h.lt g hv).1; exact .inr (fun e => by injection e with e; omega)
theorem bseg_gb {C : Nat} {w w1 : World} {a : Option Addr} {b off n : Nat} {f : Nat → Int} (h : BSeg w a b off n f) (k : w.grownBy w1 (some C)) (hC : 0 < n → b ≠ C) : BSeg w1 a b off n f :=
  ⟨h.at', fun i hi => (World.cell?_of_block (a := ⟨b, off + i, none⟩) (k.block b (h.lt (by omega)) (by simp; exact hC (by omega)))).trans (h.cell i hi)⟩
theorem seg_gb {C : Nat} {w w1 : World} {a : Option Addr} {b off n : Nat} {f : Nat → Int} (h : Seg w a b off n f) (k : w.grownBy w1 (some C)) (hC : 0 < n → b ≠ C) : Seg w1 a b off n f :=
  ⟨h.at', fun i hi => (World.cell?_of_block (a := ⟨b, off + i, none⟩) (k.block b (h.lt (by omega)) (by simp; exact hC (by omega)))).trans (h.cell i hi)⟩
theorem gb_to_below {w w1 w2 : World} (h : Below w.heap.size w w1) (k : w1.grownBy w2 (some w.heap.size)) : Below w.heap.size w w2 :=
  ⟨k.os.trans h.os, k.tape.trans h.tape, k.output.trans h.output, Nat.le_trans h.size k.size, fun i hi => (k.block i (Nat.lt_of_lt_of_le hi h.size) (by simp; omega)).trans (h.block i hi)⟩
theorem seg_list (w : World) (xs : List Int) : Seg (w.alloc (.cells (xs.map (Value.int .i64)).toArray 3)) (some ⟨w.heap.size, 0, none⟩) w.heap.size 0 xs.length (fun i => xs.getD i 0) :=
  ⟨fun _ => rfl, fun i hi => by
    have := Blk.alloc w (xs.map (Value.int .i64)) 3
    rw [Nat.zero_add]
    exact (this i _ (by simp [List.getElem?_map, List.getElem?_eq_getElem hi, List.getD, hi])).1⟩
theorem ints_set (F : Nat → Int) (n i : Nat) (x : Int) : (ints F n).set i (.int .i64 x) = ints (fun k => if k = i then x else F k) n := by
  apply List.ext_getElem?
  intro k
  rw [List.getElem?_set]
  simp only [ints, List.length_map, List.length_range, List.getElem?_map]
  by_cases hk : k < n
  · rw [List.getElem?_range hk]
    by_cases e : i = k
    · subst e; simp [hk]
    · rw [if_neg e]; simp [Ne.symm e]
  · rw [List.getElem?_eq_none (by simpa using hk)]
    by_cases e : i = k
    · subst e; simp [hk]
    · rw [if_neg e]; rfl
theorem iowns_set {w : World} {base g n cap : Nat} {F : Nat → Int} (h : w.ownsRow base 3 1 (.slice (some ⟨g, 0, none⟩) n cap) n (ints F n)) (i : Nat) (x : Int) :
    (w.setCell ⟨g, i, none⟩ (.int .i64 x)).ownsRow base 3 1 (.slice (some ⟨g, 0, none⟩) n cap) n (ints (fun k => if k = i then x else F k) n) := by
  rw [← ints_set]
  exact (World.ownsRow.stored h i _).1
theorem iowns_cell {w : World} {base g n cap : Nat} {F : Nat → Int} (h : w.ownsRow base 3 1 (.slice (some ⟨g, 0, none⟩) n cap) n (ints F n)) (i : Nat) (hi : i < n) : w.cell? ⟨g, i, none⟩ = some (.int .i64 (F i)) := by
  rw [World.ownsRow.cellAt h i (by omega)]
  simp [ints, hi]
theorem iowns_free {w : World} {base g n cap : Nat} {xs : List Value} (h : w.ownsRow base 3 1 (.slice (some ⟨g, 0, none⟩) n cap) n xs) (i : Nat) : w.frozen? ⟨g, i, none⟩ = false := World.ownsRow.frozenAt h i

end Go.Proofs.Ytjpdllhhganbpaa
