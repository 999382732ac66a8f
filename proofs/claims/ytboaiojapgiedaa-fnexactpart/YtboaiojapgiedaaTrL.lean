/- The walk of the law FnExactTreeOk. -/
import Derived.Test.YtboaiojapgiedaaItO
import Derived.Test.YtboaiojapgiedaaItk
import Derived.Test.YtboaiojapgiedaaTrT
import Derived.Test.YtboaiojapgiedaaTrW
namespace Go.Proofs.Ytboaiojapgiedaa
set_option linter.unusedVariables false
set_option linter.unusedSimpArgs false
open Go.RowKit

theorem szI_len {x : Nat → It} {l : Int} (h : l ≤ 1048576) : ∀ (n : Nat), 0 ≤ szI x n l → ∀ i, i < n → (x i).len ≤ 1048576
  | 0, _, i, hi => absurd hi (Nat.not_lt_zero _)
  | n + 1, h0, i, hi => by
    unfold szI at h0
    split at h0
    · omega
    · rename_i h1
      by_cases e : i = n
      · subst e
        have hr : szI x i l ≤ 1048576 := by
          have : ∀ k, szI x k l ≤ 1048576 := by
            intro k
            induction k with
            | zero => exact h
            | succ k ih => unfold szI; split; omega; exact (szL_range ih).2
          exact this i
        unfold szL at h0
        split at h0 <;> omega
      · exact szI_len h n (by omega) i (by omega)

theorem treeV_laid (x : Nat → It) (S n : Nat) : treeV (laidI x S) n = treeV x n := rfl

/-- A list that the laws' helpers let through: its lengths. -/
theorem sz_small {x : Nat → It} {n : Nat} (h : ¬ (if (1048576 : Int) < n then (-1 : Int) else if szI x n (1048576 - n) < 0 then -1 else szI x n (1048576 - n)) < 0) : n ≤ 1048576 ∧ ∀ i, i < n → (x i).len ≤ 1048576 := by
  split at h
  · omega
  · split at h
    · omega
    · exact ⟨by omega, szI_len (l := 1048576 - (n : Int)) (by omega) n (by omega)⟩

end Go.Proofs.Ytboaiojapgiedaa
