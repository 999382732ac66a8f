/- A list of bytes that came in, opened. -/
import Derived.Test.YtdaneanloknkpaaDoorBLists
import Derived.Test.YtdaneanloknkpaaDoorRows
import Derived.WalkKit
import Derived.ProofKit
import Derived.OpenShut
import Derived.ChangeOld
import Derived.Below
namespace Go.Proofs.YtdaneanloknkpaaDoor
set_option linter.unusedVariables false
set_option linter.unusedSimpArgs false
open Go.RowKit
open Go.ChangeShapes Go.WideShapes Go.ChangeAt

section
variable {H : Type} {enc : TypeId × Value → H} {w : World} {base : Nat} {held : Bool}

set_option maxRecDepth 100000 in
theorem open_bytesC {fuel : Nat} {cs : List Value} {x : DataW H × List MemPlace} (h : DataW.trod enc Tryd.prog w base (fun _ => true) held fuel 26 cs = some x) :
    ∃ (a : Option Addr) (b off n cap : Nat) (f : Nat → Int), cs = [.slice a n cap] ∧ BSeg w a b off n f ∧ (∀ i, i < n → 0 ≤ f i ∧ f i ≤ 255) ∧ n ≤ 9223372036854775807 ∧ n ≤ cap := by
  rcases open_ints Tryd.underlying26 Tryd.underlying5 (by kernel_rfl) h with ⟨hcs, _⟩ | ⟨a, l, c, zs, hcs, _, hl, hm, hz, _, hcell, hwz⟩
  · exact ⟨none, 0, 0, 0, 0, fun _ => 0, hcs, ⟨fun h => absurd h (Nat.lt_irrefl _), fun i hi => absurd hi (Nat.not_lt_zero _)⟩, fun i hi => absurd hi (Nat.not_lt_zero _), Nat.zero_le _, Nat.zero_le _⟩
  · simp at hz
    obtain ⟨b, off, spot⟩ := a
    have hmm : l ≤ 9223372036854775807 := by unfold maxLen at hm; omega
    by_cases h0 : l = 0
    · subst h0
      exact ⟨_, 0, 0, 0, c, fun _ => 0, hcs, ⟨fun h => absurd h (Nat.lt_irrefl _), fun i hi => absurd hi (Nat.not_lt_zero _)⟩, fun i hi => absurd hi (Nat.not_lt_zero _), Nat.zero_le _, Nat.zero_le _⟩
    · have hspot : spot = none := by simpa [Addr.add] using World.cell?_spot (hcell 0 (by omega))
      subst hspot
      refine ⟨some ⟨b, off, none⟩, b, off, l, c, fun i => zs.getD i 0, hcs, ⟨fun _ => rfl, fun i hi => ?_⟩, fun j hj => ?_, hmm, hl⟩
      · have := hcell i (by omega)
        have e : (⟨b, off, none⟩ : Addr).add i = ⟨b, off + i, none⟩ := by
          by_cases h0 : i = 0
          · subst h0; simp [Addr.add]
          · simp [Addr.add, h0]
        rwa [e] at this
      · have hm : zs.getD j 0 ∈ zs := by
          rw [List.getD_eq_getElem?_getD, List.getElem?_eq_getElem (show j < zs.length by omega)]
          exact List.getElem_mem _
        have := bounds_u8 (hwz _ hm)
        show 0 ≤ zs.getD j 0 ∧ zs.getD j 0 ≤ 255
        omega

theorem open_bytes {r : Reach} {b0 : Nat} {v : Value} {d : DataW H} {p : List MemPlace} (hv : Value.okWide Tryd.prog w r b0 26 v) (h : DataW.Trod enc Tryd.prog w base (fun _ => true) held 26 v d p) :
    ∃ (a : Option Addr) (b off n cap : Nat) (f : Nat → Int), v = .slice a n cap ∧ BSeg w a b off n f ∧ (∀ i, i < n → 0 ≤ f i ∧ f i ≤ 255) := by
  obtain ⟨a', len', cap', rfl⟩ := okWide_slice Tryd.underlying26 hv
  obtain ⟨fuel, hf⟩ := h
  obtain ⟨a, b, off, n, cap, f, hcs, hI, hB, -, -⟩ := open_bytesC hf
  simp [Value.cells] at hcs
  obtain ⟨rfl, rfl, rfl⟩ := hcs
  exact ⟨_, b, off, _, _, f, rfl, hI, hB⟩

end

end Go.Proofs.YtdaneanloknkpaaDoor
