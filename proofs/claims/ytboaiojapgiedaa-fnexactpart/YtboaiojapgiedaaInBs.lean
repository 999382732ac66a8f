/- Walks: a number's digits by a base: inBase, oidNumberBytes of the program; l7Seven of the model. -/
import Derived.Test.YtboaiojapgiedaaIntB
namespace Go.Proofs.Ytboaiojapgiedaa
set_option linter.unusedVariables false
set_option linter.unusedSimpArgs false
open Go.RowKit

/-- What is left of n without its k lowest digits. -/
def dv (n B : Int) : Nat → Int
  | 0 => n
  | k + 1 => dv n B k / B
def dg (n B : Int) (k : Nat) : Int := dv n B k % B
/-- L digits and one more are all. -/
structure IsLenB (n B : Int) (L : Nat) : Prop where
  yes : dv n B (L + 1) ≤ 0
  no : ∀ j, j < L → 0 < dv n B (j + 1)

def blen (B : Int) : Nat → Int → Nat
  | 0, _ => 0
  | k + 1, n => if n / B ≤ 0 then 0 else 1 + blen B k (n / B)
theorem dv_shift (n B : Int) (k : Nat) : dv n B (k + 1) = dv (n / B) B k := by
  induction k with
  | zero => rfl
  | succ k ih => rw [dv, ih]; rfl
theorem blen_is {B : Int} (hB : B = 128 ∨ B = 256) : ∀ (k : Nat) (n : Int), 0 ≤ n → n.toNat ≤ k → IsLenB n B (blen B k n)
  | 0, n, h0, hk => ⟨by show n / B ≤ 0; rcases hB with rfl | rfl <;> omega, fun j hj => absurd hj (Nat.not_lt_zero _)⟩
  | k + 1, n, h0, hk => by
    unfold blen
    by_cases h : n / B ≤ 0
    · rw [if_pos h]
      exact ⟨h, fun j hj => absurd hj (Nat.not_lt_zero _)⟩
    · rw [if_neg h]
      have ih := blen_is hB k (n / B) (by omega) (by rcases hB with rfl | rfl <;> omega)
      refine ⟨?_, fun j hj => ?_⟩
      · rw [Nat.add_comm 1, dv_shift]; exact ih.yes
      · cases j with
        | zero => show 0 < n / B; omega
        | succ j => rw [dv_shift]; exact ih.no j (by omega)
theorem dv_nonneg {n B : Int} (hB : B = 128 ∨ B = 256) (h0 : 0 ≤ n) (k : Nat) : 0 ≤ dv n B k ∧ dv n B k ≤ n := by
  induction k with
  | zero => exact ⟨h0, Int.le_refl _⟩
  | succ k ih => unfold dv; rcases hB with rfl | rfl <;> omega
theorem IsLenB.le {n B : Int} {L : Nat} (h : IsLenB n B L) (hB : B = 128 ∨ B = 256) (h0 : 0 ≤ n) (h1 : n ≤ 9223372036854775807) : L ≤ 8 := by
  by_cases hL : L ≤ 8
  · exact hL
  · exfalso
    have h9 := h.no 8 (by omega)
    rcases hB with rfl | rfl
    · have e : dv n 128 9 = n / 128 / 128 / 128 / 128 / 128 / 128 / 128 / 128 / 128 := rfl
      rw [e] at h9
      omega
    · have e : dv n 256 9 = n / 256 / 256 / 256 / 256 / 256 / 256 / 256 / 256 / 256 := rfl
      rw [e] at h9
      omega
theorem IsLenB.unique {n B : Int} {L M : Nat} (h : IsLenB n B L) (k : IsLenB n B M) : L = M := by
  rcases Nat.lt_trichotomy L M with hl | hl | hl
  · have := k.no L hl; have := h.yes; omega
  · exact hl
  · have := h.no M hl; have := k.yes; omega
/-- How many digits there are, less one. -/
def lenB (B n : Int) : Nat := blen B n.toNat n
theorem lenB_is {B : Int} (hB : B = 128 ∨ B = 256) (n : Int) (h0 : 0 ≤ n) : IsLenB n B (lenB B n) := blen_is hB _ n h0 (Nat.le_refl _)

theorem byts_set (F : Nat → Int) (n i : Nat) (x : Int) : (byts F n).set i (.int .u8 x) = byts (fun k => if k = i then x else F k) n := by
  apply List.ext_getElem?
  intro k
  rw [List.getElem?_set]
  simp only [byts, List.length_map, List.length_range, List.getElem?_map]
  by_cases hk : k < n
  · rw [List.getElem?_range hk]
    by_cases e : i = k
    · subst e; simp [hk]
    · rw [if_neg e]; simp [Ne.symm e]
  · rw [List.getElem?_eq_none (by simpa using hk)]
    by_cases e : i = k
    · subst e; simp [hk]
    · rw [if_neg e]; rfl
theorem owns_set {w : World} {base g n cap : Nat} {F : Nat → Int} (h : w.ownsRow base 5 1 (.slice (some ⟨g, 0, none⟩) n cap) n (byts F n)) (i : Nat) (x : Int) :
    (w.setCell ⟨g, i, none⟩ (.int .u8 x)).ownsRow base 5 1 (.slice (some ⟨g, 0, none⟩) n cap) n (byts (fun k => if k = i then x else F k) n) := by
  rw [← byts_set]
  exact (World.ownsRow.stored h i _).1
theorem owns_cell {w : World} {base g n cap : Nat} {F : Nat → Int} (h : w.ownsRow base 5 1 (.slice (some ⟨g, 0, none⟩) n cap) n (byts F n)) (i : Nat) (hi : i < n) : w.cell? ⟨g, i, none⟩ = some (.int .u8 (F i)) := by
  rw [World.ownsRow.cellAt h i (by omega)]
  simp [byts, hi]
theorem owns_free {w : World} {base g n cap : Nat} {xs : List Value} (h : w.ownsRow base 5 1 (.slice (some ⟨g, 0, none⟩) n cap) n xs) (i : Nat) : w.frozen? ⟨g, i, none⟩ = false := World.ownsRow.frozenAt h i

/-- Only what lies behind base may have turned. -/
theorem Touch.ext {g : Nat} {w0 w w' : World} (ht : Touch g w w') (he : Ext w0 w) (hg : w0.heap.size ≤ g) : Ext w0 w' := below_touch he ht hg

end Go.Proofs.Ytboaiojapgiedaa
