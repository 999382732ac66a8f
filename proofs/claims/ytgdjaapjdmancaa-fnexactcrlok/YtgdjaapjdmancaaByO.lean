/- A list of bytes that came in as a field, opened. -/
import Derived.Test.YtgdjaapjdmancaaByK
import Derived.Test.YtgdjaapjdmancaaExO
namespace Go.Proofs.Ytgdjaapjdmancaa
set_option linter.unusedVariables false
set_option linter.unusedSimpArgs false
set_option maxRecDepth 100000
open Go.RowKit
open Go.ChangeShapes Go.WideShapes Go.ChangeAt

section
variable {H : Type} {enc : TypeId × Value → H} {w : World} {base : Nat} {held : Bool}

theorem open_bysC {fuel : Nat} {cs : List Value} {x : DataW H × List MemPlace} (h : DataW.trod enc Try.prog w base (fun _ => true) held fuel 24 cs = some x) :
    ∃ (p : Plc) (n : Nat) (f : Nat → Int), cs = [.slice p.ad n p.cap] ∧ BSeg w p.ad p.b p.off n f ∧ n ≤ 9223372036854775807 := by
  rcases open_ints Try.underlying24 Try.underlying5 (by kernel_rfl) h with ⟨hcs, _⟩ | ⟨a, l, c, zs, hcs, _, hl, hm, hz, _, hcell, hwz⟩
  · exact ⟨⟨none, 0, 0, 0⟩, 0, fun _ => 0, hcs, ⟨fun h => absurd h (Nat.lt_irrefl _), fun i hi => absurd hi (Nat.not_lt_zero _)⟩, Nat.zero_le _⟩
  · simp at hz
    obtain ⟨b, off, spot⟩ := a
    have hmm : l ≤ 9223372036854775807 := by unfold maxLen at hm; omega
    by_cases h0 : l = 0
    · subst h0
      exact ⟨⟨_, 0, 0, c⟩, 0, fun _ => 0, hcs, ⟨fun h => absurd h (Nat.lt_irrefl _), fun i hi => absurd hi (Nat.not_lt_zero _)⟩, Nat.zero_le _⟩
    · have hspot : spot = none := by simpa [Addr.add] using World.cell?_spot (hcell 0 (by omega))
      subst hspot
      refine ⟨⟨some ⟨b, off, none⟩, b, off, c⟩, l, fun i => zs.getD i 0, hcs, ⟨fun _ => rfl, fun i hi => ?_⟩, hmm⟩
      have := hcell i (by omega)
      rwa [add_off] at this

end

end Go.Proofs.Ytgdjaapjdmancaa
