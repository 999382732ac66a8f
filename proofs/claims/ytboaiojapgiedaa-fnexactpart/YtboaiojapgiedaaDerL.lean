/- Walks: the bytes of a length, of both. -/
import Derived.Test.YtboaiojapgiedaaInBs
namespace Go.Proofs.Ytboaiojapgiedaa
set_option linter.unusedVariables false
set_option linter.unusedSimpArgs false
open Go.RowKit

/-- How many bytes tell a length, and which. -/
def lgN (n : Int) : Nat := if n < 128 then 1 else lenB 256 n + 2
def lgF (n : Int) (i : Nat) : Int := if n < 128 then n else if i = 0 then 129 + (lenB 256 n : Int) else dg n 256 (lenB 256 n - (i - 1))
theorem len_low {n : Int} (h0 : 0 ≤ n) (h1 : n < 256) : lenB 256 n = 0 := by
  refine (lenB_is (B := 256) (.inr rfl) n h0).unique ⟨?_, fun j hj => by omega⟩
  show dv n 256 1 ≤ 0
  simp only [dv]
  omega
theorem len_mid {n : Int} (h0 : 256 ≤ n) (h1 : n < 65536) : lenB 256 n = 1 := by
  refine (lenB_is (B := 256) (.inr rfl) n (by omega)).unique ⟨?_, fun j hj => ?_⟩
  · show dv n 256 2 ≤ 0
    simp only [dv]
    omega
  · obtain rfl : j = 0 := by omega
    show 0 < dv n 256 1
    simp only [dv]
    omega
theorem len_le {n : Int} (h0 : 0 ≤ n) (h1 : n ≤ 9223372036854775807) : lenB 256 n ≤ 8 := (lenB_is (B := 256) (.inr rfl) n h0).le (.inr rfl) h0 h1

theorem owns_low {w : World} {B B' n : Nat} {v : Value} {xs : List Value} (h : B' ≤ B) (ho : w.ownsRow B 5 1 v n xs) : w.ownsRow B' 5 1 v n xs := by
  refine ⟨ho.1, ?_⟩
  rcases ho.2 with h0 | ⟨g, cap, cur, rfl, hb, rest⟩
  · exact .inl h0
  · exact .inr ⟨g, cap, cur, rfl, Nat.le_trans h hb, rest⟩

theorem lgN_le {n : Int} (h0 : 0 ≤ n) (h1 : n ≤ 9223372036854775807) : 1 ≤ lgN n ∧ lgN n ≤ 10 := by
  have := len_le h0 h1
  unfold lgN
  split <;> omega

/-- The model's bytes of a length. -/
theorem lg_low {n : Int} (h : n < 128) : lgN n = 1 ∧ ∀ i, i < 1 → lgF n i = n := ⟨by unfold lgN; rw [if_pos h], fun i _ => by unfold lgF; rw [if_pos h]⟩
theorem lg_mid {n : Int} (h0 : 128 ≤ n) (h1 : n < 256) : lgN n = 2 ∧ lgF n 0 = 129 ∧ lgF n 1 = n := by
  have e := len_low (n := n) (by omega) h1
  have hn : ¬ n < 128 := by omega
  unfold lgN lgF
  simp only [if_neg hn, e]
  refine ⟨trivial, rfl, ?_⟩
  show dg n 256 0 = n
  unfold dg
  simp only [dv]
  omega
theorem lg_high {n : Int} (h0 : 256 ≤ n) (h1 : n < 65536) : lgN n = 3 ∧ lgF n 0 = 130 ∧ lgF n 1 = n / 256 ∧ lgF n 2 = n % 256 := by
  have e := len_mid h0 h1
  have hn : ¬ n < 128 := by omega
  unfold lgN lgF
  simp only [if_neg hn, e]
  refine ⟨trivial, rfl, ?_, ?_⟩
  · show dg n 256 1 = n / 256
    unfold dg
    simp only [dv]
    omega
  · show dg n 256 0 = n % 256
    unfold dg
    simp only [dv]

end Go.Proofs.Ytboaiojapgiedaa
