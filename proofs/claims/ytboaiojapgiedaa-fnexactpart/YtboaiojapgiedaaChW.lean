/- Walks: the program's Children. -/
import Derived.Test.YtboaiojapgiedaaChi
namespace Go.Proofs.Ytboaiojapgiedaa
set_option linter.unusedVariables false
set_option linter.unusedSimpArgs false
open Go.RowKit Go.Shelf
attribute [local go_sem] Oper.semAt_some

/-- The places at which one is around. -/
def onesL {n : Nat} (pre : List (Pl n)) : List Int := (pre.filter (fun p => p.1.2 == 1)).map (fun p => (p.1.1 : Int))
theorem onesL_yes {n : Nat} (pre : List (Pl n)) (p : Pl n) (h : p.1.2 = 1) : onesL (pre ++ [p]) = onesL pre ++ [(p.1.1 : Int)] := by
  unfold onesL
  rw [List.filter_append, List.filter_cons_of_pos (by simp [h])]
  simp
theorem onesL_no {n : Nat} (pre : List (Pl n)) (p : Pl n) (h : ¬ p.1.2 = 1) : onesL (pre ++ [p]) = onesL pre := by
  unfold onesL
  rw [List.filter_append, List.filter_cons_of_neg (by simp [h])]
  simp
theorem onesL_len {n : Nat} (pre : List (Pl n)) : (onesL pre).length ≤ pre.length := by
  unfold onesL
  rw [List.length_map]
  exact List.length_filter_le _ _
theorem onesL_map {n : Nat} (xs : List (Pl n)) : onesL xs = (((xs.map (·.1)).filter (fun p => p.2 == 1)).map (·.1)).map Int.ofNat := by
  unfold onesL
  induction xs with
  | nil => rfl
  | cons p xs ih =>
    by_cases h : p.1.2 = 1
    · rw [List.filter_cons_of_pos (by simp [h]), List.map_cons, List.map_cons, List.filter_cons_of_pos (by simp [h]), List.map_cons, List.map_cons, ih]
      rfl
    · rw [List.filter_cons_of_neg (by simp [h]), List.map_cons, List.filter_cons_of_neg (by simp [h]), ih]

theorem owns_keep {w w' : World} {B B' e n : Nat} {v : Value} {xs : List Value} (ho : w.ownsRow B e 1 v n xs) (hB : B' ≤ B) (h : ∀ g, v.ownBlock = some g → w'.heap[g]? = w.heap[g]?) : w'.ownsRow B' e 1 v n xs := by
  refine ⟨ho.1, ?_⟩
  rcases ho.2 with h0 | ⟨g, cap, cur, rfl, hb, hg, rest⟩
  · exact .inl h0
  · exact .inr ⟨g, cap, cur, rfl, Nat.le_trans hB hb, (h g rfl).trans hg, rest⟩

end Go.Proofs.Ytboaiojapgiedaa
