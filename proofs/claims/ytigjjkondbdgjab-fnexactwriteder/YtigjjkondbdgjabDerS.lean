/- Plain facts: how many bytes an item has. -/
import Derived.Test.YtigjjkondbdgjabDerW
import Derived.Test.YtigjjkondbdgjabTrK
namespace Go.Proofs.Ytigjjkondbdgjab
set_option linter.unusedVariables false
set_option linter.unusedSimpArgs false
open Go.RowKit

/-- The bytes of the bodies of the items from s on, c of them. -/
def smL (x : Nat → It) (s : Nat) : Nat → Nat
  | 0 => 0
  | c + 1 => smL x s c + (x (s + c)).len
theorem smL_add (x : Nat → It) (s c d : Nat) : smL x s (c + d) = smL x s c + smL x (s + c) d := by
  induction d with
  | zero => rfl
  | succ d ih => rw [← Nat.add_assoc, smL, smL, ih, Nat.add_assoc, Nat.add_assoc]
theorem smL_one (x : Nat → It) (s : Nat) : smL x s 1 = (x s).len := by show 0 + (x (s + 0)).len = _; simp
theorem lgL_len (n : Nat) (h : (n : Int) ≤ 9223372036854775807) : 1 ≤ (lgL n).length ∧ (lgL n).length ≤ 10 := by
  have := lgN_le (n := (n : Int)) (by omega) h
  simpa [lgL] using this

theorem wrB_bounds {x : Nat → It} {g : Nat → List Int} {f : Nat → Int} (hg : ∀ s e : Nat, f s = e → s < e ∧ smL x s (e - s) ≤ (g s).length ∧ (g s).length ≤ smL x s (e - s) + 11 * (e - s)) (s : Nat) :
    ∀ (k e : Nat), kidsF f k (s : Int) = e → s ≤ e ∧ smL x s (e - s) ≤ (wrB g f s k).length ∧ (wrB g f s k).length ≤ smL x s (e - s) + 11 * (e - s)
  | 0, e, h => by
    have : (s : Int) = e := h
    obtain rfl : s = e := by omega
    rw [Nat.sub_self]
    exact ⟨Nat.le_refl _, Nat.le_refl _, Nat.le_refl _⟩
  | k + 1, e, h => by
    have h' : (if kidsF f k (s : Int) < 0 then -1 else f (kidsF f k (s : Int)).toNat) = e := h
    by_cases c : kidsF f k (s : Int) < 0
    · rw [if_pos c] at h'; omega
    · rw [if_neg c] at h'
      obtain ⟨z, hz⟩ : ∃ z : Nat, kidsF f k (s : Int) = z := ⟨(kidsF f k (s : Int)).toNat, by omega⟩
      rw [hz, Int.toNat_natCast] at h'
      obtain ⟨a1, a2, a3⟩ := wrB_bounds hg s k z hz
      obtain ⟨b1, b2, b3⟩ := hg z e h'
      have e1 : e - s = (z - s) + (e - z) := by omega
      have e2 : s + (z - s) = z := by omega
      rw [wrB, List.length_append, hz, Int.toNat_natCast, e1, smL_add, e2]
      omega

/-- An item's bytes: those of the bodies, and at most 11 more an item. -/
theorem wrF_bounds (x : Nat → It) (n : Nat) (hb : ∀ i, i < n → (x i).len ≤ 1048576) (hn : n ≤ 1048576) : ∀ (m i e : Nat), endF (fun j => (x j).kid) n m i = e → i < e ∧ smL x i (e - i) ≤ (wrF x n m i).length ∧ (wrF x n m i).length ≤ smL x i (e - i) + 11 * (e - i)
  | 0, i, e, h => by
    have : (-1 : Int) = e := h
    omega
  | m + 1, i, e, h => by
    have hi : i < n := endF_lt (kid := fun j => (x j).kid) (m := m + 1) (by rw [h]; omega)
    have h' : kidsF (endF (fun j => (x j).kid) n m) (x i).kid.toNat ((i : Int) + 1) = e := by
      rw [endF, if_neg (by omega)] at h
      exact h
    obtain ⟨a1, a2, a3⟩ := wrB_bounds (fun s e hs => wrF_bounds x n hb hn m s e hs) (i + 1) (x i).kid.toNat e (by rw [← h']; rfl)
    have e1 : e - i = 1 + (e - (i + 1)) := by omega
    have hen : (e : Int) ≤ n := by rw [← h]; exact (endF_range _ n (m + 1) i).2
    have hbo : (boL (x i)).length = (x i).len := by simp [boL]
    have hL : (wrF x n (m + 1) i).length = 1 + ((lgL ((x i).len + (wrB (wrF x n m) (endF (fun j => (x j).kid) n m) ((i + 1 : Nat) : Int) (x i).kid.toNat).length)).length + ((x i).len + (wrB (wrF x n m) (endF (fun j => (x j).kid) n m) ((i + 1 : Nat) : Int) (x i).kid.toNat).length)) := by
      rw [wrF, List.length_cons, List.length_append, List.length_append, hbo]
      rw [show ((i : Int) + 1) = ((i + 1 : Nat) : Int) from rfl]
      omega
    have hsm : ∀ (s c : Nat), s + c ≤ n → smL x s c ≤ 1048576 * c := fun s c => by
      induction c with
      | zero => intro _; exact Nat.le_refl _
      | succ c ih =>
        intro hc
        have h1 := ih (by omega)
        have h2 := hb (s + c) (by omega)
        rw [smL]
        omega
    have hs := hsm (i + 1) (e - (i + 1)) (by omega)
    obtain ⟨l1, l2⟩ := lgL_len ((x i).len + (wrB (wrF x n m) (endF (fun j => (x j).kid) n m) ((i + 1 : Nat) : Int) (x i).kid.toNat).length) (by have := hb i hi; omega)
    rw [hL, e1, smL_add, smL_one]
    omega

end Go.Proofs.Ytigjjkondbdgjab
