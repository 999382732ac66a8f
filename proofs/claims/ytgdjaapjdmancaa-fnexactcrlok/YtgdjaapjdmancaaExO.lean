/- Extensions that came in, opened. -/
import Derived.Test.YtgdjaapjdmancaaExs
namespace Go.Proofs.Ytgdjaapjdmancaa
set_option linter.unusedVariables false
set_option linter.unusedSimpArgs false
set_option maxRecDepth 100000
open Go.RowKit
open Go.ChangeShapes Go.WideShapes Go.ChangeAt

theorem listE8 {α : Type} {l : List α} (h : l.length = 8) : ∃ a b c d e f g i, l = [a, b, c, d, e, f, g, i] := by
  match l, h with
  | [a, b, c, d, e, f, g, i], _ => exact ⟨a, b, c, d, e, f, g, i, rfl⟩

section
variable {H : Type} {enc : TypeId × Value → H} {w : World} {base : Nat} {held : Bool}

theorem open_intsC {fuel : Nat} {cs : List Value} {x : DataW H × List MemPlace} (h : DataW.trod enc Try.prog w base (fun _ => true) held fuel 23 cs = some x) :
    ∃ (p : Plc) (n : Nat) (f : Nat → Int), cs = [.slice p.ad n p.cap] ∧ Seg w p.ad p.b p.off n f ∧ n ≤ 9223372036854775807 := by
  rcases open_ints Try.underlying23 Try.underlying3 (by kernel_rfl) h with ⟨hcs, _⟩ | ⟨a, l, c, zs, hcs, _, hl, hm, hz, _, hcell, hwz⟩
  · exact ⟨⟨none, 0, 0, 0⟩, 0, fun _ => 0, hcs, ⟨fun h => absurd h (Nat.lt_irrefl _), fun i hi => absurd hi (Nat.not_lt_zero _)⟩, Nat.zero_le _⟩
  · simp at hz
    obtain ⟨b, off, spot⟩ := a
    have hmm : l ≤ 9223372036854775807 := by unfold maxLen at hm; omega
    by_cases h0 : l = 0
    · subst h0
      exact ⟨⟨_, 0, 0, c⟩, 0, fun _ => 0, hcs, ⟨fun h => absurd h (Nat.lt_irrefl _), fun i hi => absurd hi (Nat.not_lt_zero _)⟩, Nat.zero_le _⟩
    · have hspot : spot = none := by simpa [Addr.add] using World.cell?_spot (hcell 0 (by omega))
      subst hspot
      refine ⟨⟨some ⟨b, off, none⟩, b, off, c⟩, l, fun i => zs.getD i 0, hcs, ⟨fun _ => rfl, fun i hi => ?_⟩, hmm⟩
      have := hcell i (by omega)
      rwa [add_off] at this

theorem open_strsP {fuel : Nat} {cs : List Value} {x : DataW H × List MemPlace} (h : DataW.trod enc Try.prog w base (fun _ => true) held fuel 22 cs = some x) :
    ∃ (p : Plc) (n : Nat) (f : Nat → ByteArray), cs = [.slice p.ad n p.cap] ∧ StsIn w p.ad p.b p.off n f := by
  obtain ⟨a, b, off, n, cap, f, hcs, hI⟩ := open_strsC h
  exact ⟨⟨a, b, off, cap⟩, n, f, hcs, hI⟩

/-- Extensions in memory. -/
structure ExM where
  x : Ex
  m : ExPl
structure ExtsIn (w : World) (X : ExM) : Prop where
  ok : ExIn w X.x X.m
  sm : ExSm X.x 9223372036854775807

end

end Go.Proofs.Ytgdjaapjdmancaa
