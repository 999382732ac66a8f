/- Numbers: the program's walk over a tree as a check of what an iterator tells. Nothing of the program. -/
import Derived.Test.YtboaiojapgiedaaTrP
namespace Go.Proofs.Ytboaiojapgiedaa
set_option linter.unusedVariables false
set_option linter.unusedSimpArgs false
open Go.RowKit

/-- What below tells from place i on: the place, how many are around. -/
def trP (kid : Nat → Int) : Nat → Nat → List Nat → List (Nat × Nat)
  | 0, _, _ => []
  | f + 1, i, st => (i, st.length) :: match popF ((kid i).toNat :: st) with
    | none => []
    | some st' => trP kid f (i + 1) st'

/-- One that is told is let through, u being untold. -/
def okAt (x : Nat → It) (u : Int) (p : Nat × Nat) : Prop := itP (x p.1) ∧ p.2 ≤ 12 ∧ (x p.1).kid ≤ u
instance (x : Nat → It) (u : Int) (p : Nat × Nat) : Decidable (okAt x u p) := by unfold okAt; infer_instance

/-- What is untold behind these; none where one is refused. -/
def chk (x : Nat → It) : List (Nat × Nat) → Int → Option Int
  | [], u => some u
  | p :: r, u => if okAt x u p then chk x r (u - (x p.1).kid) else none

theorem chk_append (x : Nat → It) : ∀ (a b : List (Nat × Nat)) (u : Int), chk x (a ++ b) u = (chk x a u).bind (chk x b)
  | [], b, u => rfl
  | p :: a, b, u => by
    rw [List.cons_append, chk, chk]
    split
    · exact chk_append x a b _
    · rfl

theorem chk_one (x : Nat → It) (pre : List (Nat × Nat)) (p : Nat × Nat) (u v : Int) (h : chk x pre u = some v) : chk x (pre ++ [p]) u = if okAt x v p then some (v - (x p.1).kid) else none := by
  rw [chk_append, h]
  rfl

theorem chk_prefix (x : Nat → It) (pre t : List (Nat × Nat)) (u : Int) (hp : pre <+: t) (h : chk x pre u = none) : chk x t u = none := by
  obtain ⟨r, rfl⟩ := hp
  rw [chk_append, h]
  rfl

/-- What is untold lies between nothing and what was. -/
theorem chk_range (x : Nat → It) : ∀ (t : List (Nat × Nat)) (u v : Int), 0 ≤ u → chk x t u = some v → 0 ≤ v ∧ v ≤ u
  | [], u, v, h, e => by simp [chk] at e; omega
  | p :: t, u, v, h, e => by
    rw [chk] at e
    split at e
    · rename_i ho
      have hk := itP_kid ho.1
      have hle := ho.2.2
      have := chk_range x t _ v (by omega) e
      omega
    · cases e

theorem runP_chk (x : Nat → It) : ∀ (f i : Nat) (st : List Nat) (u : Int), runP x f i st u = match chk x (trP (fun j => (x j).kid) f i st) u with
    | none => false
    | some v => decide (v = 0)
  | 0, i, st, u => rfl
  | f + 1, i, st, u => by
    rw [runP, trP, chk]
    by_cases h : okAt x u (i, st.length)
    · have h' := h
      obtain ⟨h1, h2, h3⟩ := h'
      simp only at h1 h2 h3
      rw [if_neg (by rintro (g | g | g); exact g h1; omega; omega), if_pos h]
      cases hq : popF ((x i).kid.toNat :: st) with
      | none => rfl
      | some st' => exact runP_chk x f (i + 1) st' _
    · rw [if_neg h, if_pos]
      by_cases h1 : itP (x i)
      · by_cases h2 : st.length ≤ 12
        · by_cases h3 : (x i).kid ≤ u
          · exact absurd ⟨h1, h2, h3⟩ h
          · exact Or.inr (Or.inr (by omega))
        · exact Or.inr (Or.inl (by omega))
      · exact Or.inl h1

/-- Every place that is told lies in the list. -/
theorem trP_lt (kid : Nat → Int) : ∀ (f i : Nat) (st : List Nat) (p : Nat × Nat), p ∈ trP kid f i st → p.1 < i + f
  | 0, i, st, p, h => by simp [trP] at h
  | f + 1, i, st, p, h => by
    rw [trP, List.mem_cons] at h
    rcases h with h | h
    · rw [h]; simp only; omega
    · split at h
      · cases h
      · have := trP_lt kid f (i + 1) _ p h
        omega

theorem trP_length (kid : Nat → Int) : ∀ (f i : Nat) (st : List Nat), (trP kid f i st).length ≤ f
  | 0, i, st => by simp [trP]
  | f + 1, i, st => by
    rw [trP, List.length_cons]
    split
    · simp
    · have := trP_length kid f (i + 1) ‹_›
      omega

end Go.Proofs.Ytboaiojapgiedaa
