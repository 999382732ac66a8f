/- Walks: words, near bytes, the least number, the program's puny state. -/
import Derived.Test.YtgdjaapjdmancaaPny
import Derived.Laws.Rows
namespace Go.Proofs.Ytgdjaapjdmancaa
set_option linter.unusedVariables false
set_option linter.unusedSimpArgs false
open Go.RowKit

/-- A word. -/
def ltrs (f : Nat → Int) : Nat → Bool
  | 0 => true
  | n + 1 => ltrs f n && (decide (0 ≤ f n) && decide (f n ≤ 1114111))
theorem ltrs_iff (f : Nat → Int) (n : Nat) : ltrs f n = true ↔ ∀ i, i < n → 0 ≤ f i ∧ f i ≤ 1114111 := by
  induction n with
  | zero => simp [ltrs]
  | succ n ih =>
    simp only [ltrs, Bool.and_eq_true, ih, decide_eq_true_eq]
    constructor
    · rintro ⟨h, h0, h1⟩ i hi
      by_cases e : i = n
      · subst e; exact ⟨h0, h1⟩
      · exact h i (by omega)
    · intro h
      exact ⟨fun i hi => h i (by omega), (h n (by omega)).1, (h n (by omega)).2⟩
def wordB (n : Nat) (f : Nat → Int) : Bool := ltrs f n && (decide (1 ≤ n) && decide (n ≤ 20))
theorem word_no {f : Nat → Int} {n k : Nat} (hk : k < n) (h : f k < 0 ∨ 1114111 < f k) : wordB n f = false := by
  unfold wordB
  cases e : ltrs f n with
  | false => rfl
  | true => have := (ltrs_iff f n).1 e k hk; omega
theorem word_end {f : Nat → Int} {n : Nat} (h : ∀ i, i < n → 0 ≤ f i ∧ f i ≤ 1114111) : wordB n f = (decide (1 ≤ n) && decide (n ≤ 20)) := by
  unfold wordB
  rw [(ltrs_iff f n).2 h, Bool.true_and]
theorem word_is {f : Nat → Int} {n : Nat} (h : wordB n f = true) : 1 ≤ n ∧ n ≤ 20 ∧ ∀ i, i < n → 0 ≤ f i ∧ f i ≤ 1114111 := by
  unfold wordB at h
  simp only [Bool.and_eq_true, decide_eq_true_eq] at h
  exact ⟨h.2.1, h.2.2, (ltrs_iff f n).1 h.1⟩

/-- Numbers as cells of bytes. -/
def bys (L : List Int) : List Value := L.map (.int .u8)
theorem bys_one (x : Int) : ∀ u ∈ [Value.int .u8 x], u.oneCell' = true := by
  intro u hu
  simp at hu
  subst hu
  rfl
theorem bys_byts (L : List Int) : bys L = byts (fun i => L.getD i 0) L.length := by
  unfold bys byts
  apply List.ext_getElem
  · simp
  · intro i h1 h2
    simp at h1
    simp [h1]
theorem nums_list (L : List Int) : nums (fun i => L.getD i 0) L.length = L := by
  unfold nums
  apply List.ext_getElem
  · simp
  · intro i h1 h2
    simp [h2]
theorem bys_step {L : List Int} {w wr w1 : World} {v v' : Value} {o : Obj} {x : Int} (hO : wr.ownsRow w.heap.size 5 1 v L.length (bys L)) (hE : Ext w wr)
    (hown : w1.ownsRow w.heap.size 5 1 v' (L.length + 1) (bys L ++ [.int .u8 x])) (hg : (wr.alloc o).grownBy w1 v.ownBlock) : w1.ownsRow w.heap.size 5 1 v' (L ++ [x]).length (bys (L ++ [x])) ∧ Ext w w1 := by
  refine ⟨?_, (Below.alloc hE (Below.size hE) o).grown hg (by have := Below.size hE; simp; omega) (fun j hj => (hO.lt j hj).1)⟩
  simpa [bys] using hown

/-- A new list of bytes. -/
def GivesO (w : World) (L : List Int) (e : Ending) (w' : World) : Prop := ∃ v, e = .returned v ∧ w'.ownsRow w.heap.size 5 1 v L.length (bys L) ∧ Ext w w'

/-- The program's puny state. -/
def psV (near told bias : Int) : Value := .agg #[.int .i64 near, .int .i64 told, .int .i64 bias]

theorem bys_step' {L : List Int} {B : Nat} {wr w1 : World} {v v' : Value} {o : Obj} {x : Int} (hO : wr.ownsRow B 5 1 v L.length (bys L)) (hB : B ≤ wr.heap.size)
    (hown : w1.ownsRow B 5 1 v' (L.length + 1) (bys L ++ [.int .u8 x])) (hg : (wr.alloc o).grownBy w1 v.ownBlock) : w1.ownsRow B 5 1 v' (L ++ [x]).length (bys (L ++ [x])) ∧ Below B wr w1 :=
  ⟨by simpa [bys] using hown, ((Below.refl B wr).alloc hB o).grown hg (by simp; omega) (fun j hj => (hO.lt j hj).1)⟩

theorem rem_dig {z T : Int} (h1 : 1 ≤ T) (h2 : T ≤ 26) (h : ¬ z < T) : 0 ≤ (z - T) % (36 - T) ∧ T + (z - T) % (36 - T) < 36 := by
  have h3 := Int.emod_nonneg (z - T) (show 36 - T ≠ 0 by omega)
  have h4 := Int.emod_lt_of_pos (z - T) (show 0 < 36 - T by omega)
  omega

end Go.Proofs.Ytgdjaapjdmancaa
