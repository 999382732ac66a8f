/- Walks: PatternOk, HostMatch, Under of both. -/
import Derived.Test.YtgdjaapjdmancaaHom
import Derived.Lib.Bytealg
import Derived.Lib.Strings
import Derived.OwnWalk
namespace Go.Proofs.Ytgdjaapjdmancaa
set_option linter.unusedVariables false
set_option linter.unusedSimpArgs false
open Go.RowKit

theorem bt_list (s : ByteArray) (i : Nat) (h : i < s.data.toList.length) : (s.data.toList[i]'h).toNat = bt s i := by
  have h' : i < s.size := by rw [Lib.size_eq]; exact h
  rw [← bt_get s i h']
  rfl

/-- k is the place of the first dot, or the end. -/
structure IsDot (s : ByteArray) (k : Nat) : Prop where
  le : k ≤ s.size
  no : ∀ j, j < k → bt s j ≠ 46
  yes : k < s.size → bt s k = 46

theorem IsDot.unique {s : ByteArray} {k l : Nat} (h : IsDot s k) (g : IsDot s l) : k = l := by
  rcases Nat.lt_trichotomy k l with c | c | c
  · exact absurd (h.yes (by have := g.le; omega)) (g.no k c)
  · exact c
  · exact absurd (g.yes (by have := h.le; omega)) (h.no l c)

def dotFrom (s : ByteArray) : Nat → Nat → Nat
  | 0, k => k
  | n + 1, k => if bt s k = 46 then k else dotFrom s n (k + 1)
theorem dotFrom_is (s : ByteArray) : ∀ n k, k + n = s.size → (∀ j, j < k → bt s j ≠ 46) → IsDot s (dotFrom s n k)
  | 0, k, hk, h => ⟨by unfold dotFrom; omega, h, fun h => by unfold dotFrom at h; omega⟩
  | n + 1, k, hk, h => by
    unfold dotFrom
    split
    · rename_i e
      exact ⟨by omega, h, fun _ => e⟩
    · rename_i e
      refine dotFrom_is s n (k + 1) (by omega) (fun j hj => ?_)
      by_cases e' : j = k
      · subst e'; exact e
      · exact h j (by omega)
def dot (s : ByteArray) : Nat := dotFrom s s.size 0
theorem dot_is (s : ByteArray) : IsDot s (dot s) := dotFrom_is s _ _ (by omega) (fun j hj => absurd hj (Nat.not_lt_zero _))

theorem indexByte_at (c : UInt8) : ∀ (l : List UInt8) (k : Nat), k ≤ l.length → (∀ j (h : j < l.length), j < k → l[j] ≠ c) → (∀ h : k < l.length, l[k] = c) → Lib.indexByte l c = if k < l.length then (k : Int) else -1
  | [], k, h0, h1, h2 => by simp [Lib.indexByte]
  | b :: l, 0, h0, h1, h2 => by
    have : b = c := h2 (by simp)
    simp [Lib.indexByte, this]
  | b :: l, k + 1, h0, h1, h2 => by
    have hb : b ≠ c := h1 0 (by simp) (by omega)
    have ih := indexByte_at c l k (by simpa using h0) (fun j h hj => h1 (j + 1) (by simpa using h) (by omega)) (fun h => h2 (by simpa using h))
    unfold Lib.indexByte
    rw [ih]
    simp only [beq_iff_eq, hb, if_false, List.length_cons]
    by_cases h : k < l.length
    · rw [if_pos h, if_neg (by omega), if_pos (by omega)]; simp
    · rw [if_neg h, if_pos rfl, if_neg (by omega)]

theorem indexByte_dot (s : ByteArray) : Lib.indexByte s.data.toList 46 = if dot s < s.size then (dot s : Int) else -1 := by
  have h := dot_is s
  have e := Lib.size_eq s
  rw [indexByte_at 46 s.data.toList (dot s) (by rw [← e]; exact h.le) (fun j hj hk hc => h.no j hk (by rw [← bt_list s j hj, hc]; rfl)) (fun hk => by
    have := h.yes (by rw [e]; exact hk)
    rw [← bt_list s _ hk] at this
    exact UInt8.toNat.inj this), ← e]

/-- What strings.Cut(s, dot) tells behind the dot. -/
def behind (s : ByteArray) : ByteArray := if dot s < s.size then s.extract (dot s + 1) s.size else ⟨#[]⟩
def ahead (s : ByteArray) : ByteArray := if dot s < s.size then s.extract 0 (dot s) else s
def found (s : ByteArray) : Bool := decide (dot s < s.size)

/-- A star and a dot ahead. -/
def starE (s : ByteArray) : Bool := eqS (s.extract 0 2) ⟨#[42, 46]⟩
def starB (s : ByteArray) : Bool := decide (2 ≤ s.size) && starE s
def base (s : ByteArray) : ByteArray := if starB s then s.extract 2 s.size else s

/-- A pattern. -/
def patB (s : ByteArray) : Bool := hostB (base s) && (!starB s || decide (1 < (parts (base s) 46).length))

theorem host_none : hostB ⟨#[]⟩ = false := by decide +kernel
theorem host_star : hostB ⟨#[42, 46]⟩ = false := by decide +kernel

theorem star_two {s : ByteArray} (h : s.size = 2) (e : starE s = true) : s = ⟨#[42, 46]⟩ := by
  have h1 := (eqS_iff _ _).1 e
  rw [← h] at h1
  rw [← h1]
  simp

/-- The model's own way. -/
theorem patB_spec (s : ByteArray) : patB s = if (decide (2 < s.size) && starE s) = true then hostB (s.extract 2 s.size) && decide (2 ≤ (parts (s.extract 2 s.size) 46).length) else hostB s := by
  by_cases h2 : 2 < s.size
  · cases e : starE s
    · have hb : starB s = false := by unfold starB; rw [e]; simp
      have hc : base s = s := by unfold base; rw [hb]; simp
      simp [patB, hb, hc]
    · have hb : starB s = true := by unfold starB; rw [e]; simp; omega
      have hc : base s = s.extract 2 s.size := by unfold base; rw [hb]; simp
      simp only [patB, hb, hc, h2, decide_true, Bool.true_and, if_true, Bool.not_true, Bool.false_or]
      rfl
  · simp only [h2, decide_false, Bool.false_and, if_neg (by decide : ¬ false = true)]
    cases hb : starB s
    · have hc : base s = s := by unfold base; rw [hb]; simp
      simp [patB, hb, hc]
    · have hx := hb
      unfold starB at hx
      simp only [Bool.and_eq_true, decide_eq_true_eq] at hx
      have hs := star_two (by omega) hx.2
      have hc : base s = ⟨#[]⟩ := by unfold base; rw [hb, hs]; simp; rfl
      rw [patB, hc, host_none, hs, host_star, Bool.false_and]

end Go.Proofs.Ytgdjaapjdmancaa
