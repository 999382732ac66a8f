/- Walks of small helpers: l1Digit, l1Norm; plain notions on digits behind a list's end. -/
import Derived.Test.YtmkmojcefgcmlaaDoorLists
import Derived.Test.YtmkmojcefgcmlaaDoorGives
import Derived.Test.YtmkmojcefgcmlaaDoorNoughts
import Derived.OwnWalk
import Derived.Maps.AppendAt
namespace Go.Proofs.YtmkmojcefgcmlaaDoor
set_option linter.unusedVariables false
open Go.RowKit

/-- The digit at a place; 0 behind the end. -/
def ext (n : Nat) (f : Nat → Int) (i : Nat) : Int := if i < n then f i else 0

theorem ext_in {n i : Nat} {f : Nat → Int} (h : i < n) : ext n f i = f i := by simp [ext, h]
theorem ext_out {n i : Nat} {f : Nat → Int} (h : n ≤ i) : ext n f i = 0 := by simp [ext, show ¬ i < n by omega]
theorem ext_bd {n : Nat} {f : Nat → Int} (h : Digs f n) (i : Nat) : 0 ≤ ext n f i ∧ ext n f i ≤ 65535 := by
  unfold ext
  by_cases e : i < n
  · rw [if_pos e]; exact h i e
  · rw [if_neg e]; omega
theorem ext_digs {n : Nat} {f : Nat → Int} (h : Digs f n) (m : Nat) : Digs (ext n f) m := fun i _ => ext_bd h i

theorem val_ext {n m : Nat} {f : Nat → Int} (h : n ≤ m) : val (ext n f) m = val f n := by
  rw [← val_noughts (f := ext n f) h (fun i h1 _ => ext_out h1)]
  exact val_congr (fun i hi => ext_in hi)

theorem ints_get (f : Nat → Int) (n j : Nat) (u : Value) (h : (ints f n)[j]? = some u) : j < n ∧ u = .int .i64 (f j) := by
  by_cases e : j < n
  · simp [ints, e] at h; exact ⟨e, h.symm⟩
  · simp [ints, e] at h

/-- A slice's cells, as append and copy ask for them. -/
theorem Seg.news {w : World} {b off n : Nat} {f : Nat → Int} {a : Option Addr} (h : Seg w a b off n f) : ∀ j u, (ints f n)[j]? = some u → w.cell? ((⟨b, off, none⟩ : Addr).add j) = some u := by
  intro j u hj
  obtain ⟨hlt, rfl⟩ := ints_get f n j u hj
  have e : Addr.add ⟨b, off, none⟩ j = ⟨b, off + j, none⟩ := by
    by_cases h0 : j = 0
    · subst h0; simp [Addr.add]
    · simp [Addr.add, h0]
  rw [e]
  exact h.cell j hlt

theorem Seg.news' {w : World} {b off n : Nat} {f : Nat → Int} {a : Option Addr} (h : Seg w a b off n f) : ∀ j u, (ints f n)[j]? = some u → w.cell? ⟨b, off + j, none⟩ = some u := by
  intro j u hj
  obtain ⟨hlt, rfl⟩ := ints_get f n j u hj
  exact h.cell j hlt

theorem ints_one (f : Nat → Int) (n : Nat) : ∀ u ∈ ints f n, u.oneCell' = true := by
  intro u hu
  simp only [ints, List.mem_map] at hu
  obtain ⟨i, _, rfl⟩ := hu
  rfl

/-- What appends have gathered, where the list was never nil. -/
theorem own_some {w : World} {base : Nat} {e : TypeId} {v : Value} {n : Nat} {f : Nat → Int} (h : w.ownsRow base e 1 v n (ints f n)) (hv : v ≠ .slice none 0 0) :
    ∃ g cap, v = .slice (some ⟨g, 0, none⟩) n cap ∧ base ≤ g ∧ n ≤ cap ∧ Own w (some ⟨g, 0, none⟩) g 0 n f := by
  have h' := h
  rcases h.2 with ⟨rfl, rfl⟩ | ⟨g, cap, cur, rfl, hg, hb, hn, hm, hs, ht⟩
  · exact absurd rfl hv
  · refine ⟨g, cap, rfl, hg, hn, ?_⟩
    obtain ⟨a, g', cap', hv', hg', hO⟩ := own_of_owns h'
    simp only [Value.slice.injEq] at hv'
    obtain ⟨rfl, -, rfl⟩ := hv'
    by_cases h0 : n = 0
    · subst h0; exact Own.nil _ _ _ _ _
    · have := hO.at' (by omega)
      simp only [Option.some.injEq, Addr.mk.injEq] at this
      obtain ⟨rfl, -, -⟩ := this
      exact hO

/-- A new list without the noughts at its end. -/
def GivesNorm (w : World) (n : Nat) (f : Nat → Int) (e : Ending) (w' : World) : Prop :=
  ∃ g cap m, e = .returned (.slice (some ⟨g, 0, none⟩) m cap) ∧ m ≤ n ∧ m ≤ cap ∧ (∀ i, m ≤ i → i < n → f i = 0) ∧ (m = 0 ∨ f (m - 1) ≠ 0) ∧ w.heap.size ≤ g ∧ Own w' (some ⟨g, 0, none⟩) g 0 m f ∧ Below w.heap.size w w'

end Go.Proofs.YtmkmojcefgcmlaaDoor
