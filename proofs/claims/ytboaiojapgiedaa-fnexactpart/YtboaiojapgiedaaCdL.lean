/- The walk of the law FnExactChildren. -/
import Derived.Test.YtboaiojapgiedaaMkI
import Derived.Test.YtboaiojapgiedaaChW
import Derived.Test.YtboaiojapgiedaaChS
import Derived.Test.YtboaiojapgiedaaMarks
import Derived.Test.YtboaiojapgiedaaLists
namespace Go.Proofs.Ytboaiojapgiedaa
set_option linter.unusedVariables false
set_option linter.unusedSimpArgs false
open Go.RowKit

theorem iys_ints (L : List Int) : iys L = ints (fun i => L.getD i 0) L.length := by
  unfold iys ints
  apply List.ext_getElem
  · simp
  · intro i h1 h2
    simp at h1
    simp [h1]
theorem own_of_iys {w : World} {B : Nat} {v : Value} {L : List Int} (h : w.ownsRow B 3 1 v L.length (iys L)) : ∃ a g cap, v = .slice a L.length cap ∧ B ≤ g ∧ Own w a g 0 L.length (fun i => L.getD i 0) := by
  rw [iys_ints] at h
  exact own_of_owns h

theorem mdL_laid (x : Nat → It) (S n : Nat) (z : Int) : mdL (laidI x S) n z = mdL x n z := rfl
theorem mdB_laid (x : Nat → It) (S n : Nat) (z : Int) : mdB (laidI x S) n z = mdB x n z := rfl
theorem mdL_len (x : Nat → It) (n : Nat) (z : Int) : (mdL x n z).length ≤ 300 := by
  unfold mdL
  split
  · rename_i h
    rw [List.length_map, kpF_len]
    unfold mdB hasB at h
    simp only [Bool.and_eq_true, decide_eq_true_eq] at h
    have := (tree_good h.1.1).2.2 z.toNat (by omega)
    have := this.2.2.2.2.1
    omega
  · simp

/-- Children's answer, as the laws read it. -/
def GivesK (w : World) (M : Nat) (F : Nat → Int) (ok : Bool) (e : Ending) (w' : World) : Prop := ∃ a g cap, e = .returned (.tuple #[.slice a M cap, .bool ok]) ∧ w.heap.size ≤ g ∧ Own w' a g 0 M F ∧ Ext w w'
theorem GivesC.k {w w' : World} {L : List Int} {ok : Bool} {e : Ending} (h : GivesC w L ok e w') : GivesK w L.length (fun i => L.getD i 0) ok e w' := by
  obtain ⟨v, rfl, h1, h2⟩ := h
  obtain ⟨a, g, cap, rfl, hg, hO⟩ := own_of_iys h1
  exact ⟨a, g, cap, rfl, hg, hO, h2⟩

theorem Cpy.none {S n : Nat} {x : Nat → It} {W : World} (hn : n = 0) (h : ∀ o, W.frozen? ⟨S, o, none⟩ = false) : Cpy S n 0 x W :=
  ⟨fun j _ h2 => by omega, fun j _ h2 => by omega, fun j _ h2 => by omega, h, fun j _ h2 => by omega⟩

end Go.Proofs.Ytboaiojapgiedaa
