/- A list of items that came in, opened: what a reading of it says of its memory. Nothing of the program but its types. -/
import Derived.Test.YtboaiojapgiedaaRows
import Derived.Test.YtboaiojapgiedaaItm
import Derived.WalkKit
import Derived.ProofKit
import Derived.OpenShut
import Derived.ChangeOld
import Derived.Below
namespace Go.Proofs.Ytboaiojapgiedaa
open Go.ChangeShapes Go.WideShapes Go.ChangeAt Go.RowKit
set_option linter.unusedVariables false
set_option linter.unusedSimpArgs false

theorem laidOutB_prog : laidOutB Try.prog = true := by kernel_rfl
theorem cellsItem : Try.prog.cellsOf 45 = 3 := by kernel_rfl
theorem cellsI1 : Try.prog.cellsOf 3 = 1 := by kernel_rfl
theorem cellsB1 : Try.prog.cellsOf 37 = 1 := by kernel_rfl

theorem add_at (b off i : Nat) : Addr.add ⟨b, off, none⟩ i = ⟨b, off + i, none⟩ := by
  by_cases h0 : i = 0
  · subst h0; simp [Addr.add]
  · simp [Addr.add, h0]

theorem list3' {α : Type} {l : List α} (h : l.length = 3) : ∃ c0 c1 c2, l = [c0, c1, c2] := by
  match l, h with
  | [c0, c1, c2], _ => exact ⟨c0, c1, c2, rfl⟩

/-- What is known of an item that came in. -/
structure ItOk (w : World) (x : It) : Prop where
  body : BSeg w x.ad x.blk x.off x.len x.f
  small : x.len ≤ 9223372036854775807
  byts : ∀ j, j < x.len → 0 ≤ x.f j ∧ x.f j < 256
  t0 : -9223372036854775808 ≤ x.tag
  t1 : x.tag ≤ 9223372036854775807
  k0 : -9223372036854775808 ≤ x.kid
  k1 : x.kid ≤ 9223372036854775807

section
variable {H : Type} {enc : TypeId × Value → H} {w : World} {base : Nat} {held : Bool}

set_option maxRecDepth 100000 in
theorem open_item {fuel : Nat} {cs : List Value} {y : DataW H × List MemPlace} (h : DataW.trod enc Try.prog w base (fun _ => true) held fuel 45 cs = some y) :
    ∃ x : It, cs = [.int .i64 x.tag, .slice x.ad x.len x.cap, .int .i64 x.kid] ∧ ItOk w x := by
  obtain ⟨xs, n, _, hx, hcl, hlen, hel⟩ := DataW.trod_struct Try.underlying45 h
  rw [cellsItem] at hcl
  obtain ⟨c0, c1, c2, rfl⟩ := list3' hcl
  obtain ⟨y0, y1, y2, rfl⟩ := list3' hlen
  have e0 := hel 0 _ rfl
  have e1 := hel 1 _ rfl
  have e2 := hel 2 _ rfl
  simp [cellsI1, cellsB1] at e0 e1 e2
  obtain ⟨tag, q0, _, w0⟩ := DataW.trod_int Try.underlying3 e0
  obtain ⟨kid, q2, _, w2⟩ := DataW.trod_int Try.underlying3 e2
  simp at q0 q2
  subst q0 q2
  have b0 := bounds_i64 w0
  have b2 := bounds_i64 w2
  rcases open_ints Try.underlying37 Try.underlying5 (by kernel_rfl) e1 with ⟨hcs, _⟩ | ⟨a, l, c, zs, hcs, _, hl, hm, hz, _, hcell, hwz⟩
  · simp at hcs
    subst hcs
    exact ⟨⟨tag, kid, none, 0, 0, 0, 0, fun _ => 0⟩, rfl, ⟨⟨fun h => absurd h (Nat.lt_irrefl _), fun i hi => absurd hi (Nat.not_lt_zero _)⟩, Nat.zero_le _, fun j hj => absurd hj (Nat.not_lt_zero _), b0.1, b0.2, b2.1, b2.2⟩⟩
  · simp at hcs
    subst hcs
    simp at hz
    obtain ⟨b, off, spot⟩ := a
    have hmm : l ≤ 9223372036854775807 := by unfold maxLen at hm; omega
    by_cases h0 : l = 0
    · subst h0
      exact ⟨⟨tag, kid, some ⟨b, off, spot⟩, 0, 0, 0, c, fun _ => 0⟩, rfl, ⟨⟨fun h => absurd h (Nat.lt_irrefl _), fun i hi => absurd hi (Nat.not_lt_zero _)⟩, Nat.zero_le _, fun j hj => absurd hj (Nat.not_lt_zero _), b0.1, b0.2, b2.1, b2.2⟩⟩
    · have hspot : spot = none := by simpa [Addr.add] using World.cell?_spot (hcell 0 (by omega))
      subst hspot
      refine ⟨⟨tag, kid, some ⟨b, off, none⟩, b, off, l, c, fun i => zs.getD i 0⟩, rfl, ⟨⟨fun _ => rfl, fun i hi => ?_⟩, hmm, fun j hj => ?_, b0.1, b0.2, b2.1, b2.2⟩⟩
      · have hj : i < l := hi
        have := hcell i (by omega)
        rwa [add_at] at this
      · have hj' : j < l := hj
        have hm : zs.getD j 0 ∈ zs := by
          rw [List.getD_eq_getElem?_getD, List.getElem?_eq_getElem (show j < zs.length by omega)]
          exact List.getElem_mem _
        have := bounds_u8 (hwz _ hm)
        show 0 ≤ zs.getD j 0 ∧ zs.getD j 0 < 256
        omega

/-- A list of items that came in. -/
structure ItsIn (w : World) (a : Option Addr) (b off n : Nat) (x : Nat → It) : Prop where
  seg : ISeg w a b off n x
  ok : ∀ i, i < n → ItOk w (x i)
  small : n ≤ 9223372036854775807

set_option maxRecDepth 100000 in
theorem open_items {r : Reach} {b0 : Nat} {v : Value} {d : DataW H} {p : List MemPlace} (hv : Value.okWide Try.prog w r b0 22 v) (h : DataW.Trod enc Try.prog w base (fun _ => true) held 22 v d p) :
    ∃ (a : Option Addr) (b off n cap : Nat) (x : Nat → It), v = .slice a n cap ∧ ItsIn w a b off n x := by
  obtain ⟨a', len', cap', rfl⟩ := okWide_slice Try.underlying22 hv
  obtain ⟨fuel, hf⟩ := h
  have emp : ∀ (a : Option Addr), ItsIn w a 0 0 0 (fun _ => ⟨0, 0, none, 0, 0, 0, 0, fun _ => 0⟩) := fun a =>
    ⟨⟨fun h => absurd h (Nat.lt_irrefl _), fun i hi => absurd hi (Nat.not_lt_zero _), fun i hi => absurd hi (Nat.not_lt_zero _), fun i hi => absurd hi (Nat.not_lt_zero _), fun i hi => absurd hi (Nat.not_lt_zero _), fun i hi => absurd hi (Nat.not_lt_zero _)⟩, fun i hi => absurd hi (Nat.not_lt_zero _), Nat.zero_le _⟩
  rcases DataW.trod_slice Try.underlying22 hf with ⟨hcs, _⟩ | ⟨a, len, cap, elems, rest, n, _, hcs, _, hb, hl, hm, hlen, hel, _, _⟩
  · simp [Value.cells] at hcs
    obtain ⟨rfl, rfl, rfl⟩ := hcs
    exact ⟨none, 0, 0, 0, 0, _, rfl, emp none⟩
  · simp [Value.cells] at hcs
    obtain ⟨rfl, rfl, rfl⟩ := hcs
    by_cases h0 : len' = 0
    · subst h0
      exact ⟨_, 0, 0, 0, _, _, rfl, emp _⟩
    · have each : ∀ i, i < len' → ∃ x : It, (w.cell? (a.add (i * 3)) = some (.int .i64 x.tag) ∧ w.cell? ((a.add (i * 3)).add 1) = some (.slice x.ad x.len x.cap) ∧ w.cell? ((a.add (i * 3)).add 2) = some (.int .i64 x.kid)) ∧ ItOk w x := by
        intro i hi
        have h1 := hel i hi
        rw [cellsItem, List.getElem?_eq_getElem (by omega)] at h1
        obtain ⟨cs, h2, h3⟩ := Option.bind_eq_some_iff.1 h1
        obtain ⟨x, rfl, hx⟩ := open_item h3
        obtain ⟨h4, h5, h6⟩ := World.cells?_some h2
        refine ⟨x, ⟨?_, ?_, ?_⟩, hx⟩
        · have := h6 0 (by omega); simpa [Addr.add] using this
        · have := h6 1 (by omega); simpa using this
        · have := h6 2 (by omega); simpa using this
      obtain ⟨b, off, spot⟩ := a
      have hspot : spot = none := by
        obtain ⟨x, ⟨h, _, _⟩, _⟩ := each 0 (by omega)
        simpa [Addr.add] using World.cell?_spot h
      subst hspot
      have each' : ∀ i, i < len' → ∃ x : It, (w.cell? ⟨b, off + i * 3, none⟩ = some (.int .i64 x.tag) ∧ w.cell? ⟨b, off + i * 3 + 1, none⟩ = some (.slice x.ad x.len x.cap) ∧ w.cell? ⟨b, off + i * 3 + 2, none⟩ = some (.int .i64 x.kid)) ∧ ItOk w x := fun i hi => by
        have := each i hi
        simpa only [add_at] using this
      refine ⟨_, b, off, len', cap', fun i => if h : i < len' then Classical.choose (each' i h) else ⟨0, 0, none, 0, 0, 0, 0, fun _ => 0⟩, rfl, ?_⟩
      have hx : ∀ i (hi : i < len'), (if h : i < len' then Classical.choose (each' i h) else (⟨0, 0, none, 0, 0, 0, 0, fun _ => 0⟩ : It)) = Classical.choose (each' i hi) := fun i hi => dif_pos hi
      refine ⟨⟨fun _ => rfl, fun i hi => ?_, fun i hi => ?_, fun i hi => ?_, fun i hi => ?_, fun i hi => ?_⟩, fun i hi => ?_, by unfold maxLen at hm; omega⟩
      · rw [hx i hi]; have := (Classical.choose_spec (each' i hi)).1.1; exact this
      · rw [hx i hi]; have := (Classical.choose_spec (each' i hi)).1.2.1; exact this
      · rw [hx i hi]; have := (Classical.choose_spec (each' i hi)).1.2.2; exact this
      · rw [hx i hi]; exact (Classical.choose_spec (each' i hi)).2.body
      · rw [hx i hi]; exact (Classical.choose_spec (each' i hi)).2.small
      · rw [hx i hi]; exact (Classical.choose_spec (each' i hi)).2

end

end Go.Proofs.Ytboaiojapgiedaa
