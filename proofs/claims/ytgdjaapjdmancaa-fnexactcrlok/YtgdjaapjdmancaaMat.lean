/- Walks: PatternOk, HostMatch, Under of both. -/
import Derived.Test.YtgdjaapjdmancaaPat
namespace Go.Proofs.Ytgdjaapjdmancaa
set_option linter.unusedVariables false
set_option linter.unusedSimpArgs false
open Go.RowKit

theorem hostB_le {s : ByteArray} (h : hostB s = true) : s.size ≤ 80 := by
  unfold hostB at h
  simp only [Bool.and_eq_true, decide_eq_true_eq] at h
  exact h.1
theorem base_size (s : ByteArray) : (base s).size ≤ s.size := by unfold base; split <;> simp

/-- A pattern matches a host. -/
def matB (p h : ByteArray) : Bool := patB p && (hostB h && if starB p then decide (dot h < h.size) && eqS (behind h) (base p) else eqS p h)

theorem star_of_pat {s : ByteArray} (h : patB s = true) : (decide (2 < s.size) && starE s) = starB s := by
  by_cases h2 : 2 < s.size
  · unfold starB; simp [h2]; intro; omega
  · cases hb : starB s
    · simp [h2]
    · exfalso
      have hx := hb
      unfold starB at hx
      simp only [Bool.and_eq_true, decide_eq_true_eq] at hx
      have hs := star_two (by omega) hx.2
      have hc : base s = ⟨#[]⟩ := by unfold base; rw [hb, hs]; simp; rfl
      rw [patB, hc, host_none, Bool.false_and] at h
      cases h

theorem behind_none {h : ByteArray} (e : ¬ dot h < h.size) : behind h = ⟨#[]⟩ := by unfold behind; rw [if_neg e]

end Go.Proofs.Ytgdjaapjdmancaa
