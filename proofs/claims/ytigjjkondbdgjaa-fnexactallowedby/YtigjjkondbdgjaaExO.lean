/- Extensions that came in, opened. -/
import Derived.Test.YtigjjkondbdgjaaExs
namespace Go.Proofs.Ytigjjkondbdgjaa
set_option linter.unusedVariables false
set_option linter.unusedSimpArgs false
set_option maxRecDepth 100000
open Go.RowKit
open Go.ChangeShapes Go.WideShapes Go.ChangeAt

theorem ke : Try.prog.cellsOf 26 = 8 ∧ Try.prog.cellsOf 3 = 1 ∧ Try.prog.cellsOf 4 = 1 ∧ Try.prog.cellsOf 24 = 1 ∧ Try.prog.cellsOf 22 = 1 ∧ Try.prog.cellsOf 23 = 1 := by
  refine ⟨?_, ?_, ?_, ?_, ?_, ?_⟩ <;> kernel_rfl

theorem listE8 {α : Type} {l : List α} (h : l.length = 8) : ∃ a b c d e f g i, l = [a, b, c, d, e, f, g, i] := by
  match l, h with
  | [a, b, c, d, e, f, g, i], _ => exact ⟨a, b, c, d, e, f, g, i, rfl⟩

section
variable {H : Type} {enc : TypeId × Value → H} {w : World} {base : Nat} {held : Bool}

theorem open_intsC {fuel : Nat} {cs : List Value} {x : DataW H × List MemPlace} (h : DataW.trod enc Try.prog w base (fun _ => true) held fuel 24 cs = some x) :
    ∃ (p : Pl) (n : Nat) (f : Nat → Int), cs = [.slice p.ad n p.cap] ∧ Seg w p.ad p.b p.off n f ∧ n ≤ 9223372036854775807 := by
  rcases open_ints Try.underlying24 Try.underlying3 (by kernel_rfl) h with ⟨hcs, _⟩ | ⟨a, l, c, zs, hcs, _, hl, hm, hz, _, hcell, hwz⟩
  · exact ⟨⟨none, 0, 0, 0⟩, 0, fun _ => 0, hcs, ⟨fun h => absurd h (Nat.lt_irrefl _), fun i hi => absurd hi (Nat.not_lt_zero _)⟩, Nat.zero_le _⟩
  · simp at hz
    obtain ⟨b, off, spot⟩ := a
    have hmm : l ≤ 9223372036854775807 := by unfold maxLen at hm; omega
    by_cases h0 : l = 0
    · subst h0
      exact ⟨⟨_, 0, 0, c⟩, 0, fun _ => 0, hcs, ⟨fun h => absurd h (Nat.lt_irrefl _), fun i hi => absurd hi (Nat.not_lt_zero _)⟩, Nat.zero_le _⟩
    · have hspot : spot = none := by simpa [Addr.add] using World.cell?_spot (hcell 0 (by omega))
      subst hspot
      refine ⟨⟨some ⟨b, off, none⟩, b, off, c⟩, l, fun i => zs.getD i 0, hcs, ⟨fun _ => rfl, fun i hi => ?_⟩, hmm⟩
      have := hcell i (by omega)
      rwa [add_off] at this

theorem open_strsP {fuel : Nat} {cs : List Value} {x : DataW H × List MemPlace} (h : DataW.trod enc Try.prog w base (fun _ => true) held fuel 22 cs = some x) :
    ∃ (p : Pl) (n : Nat) (f : Nat → ByteArray), cs = [.slice p.ad n p.cap] ∧ StsIn w p.ad p.b p.off n f := by
  obtain ⟨a, b, off, n, cap, f, hcs, hI⟩ := open_strsC h
  exact ⟨⟨a, b, off, cap⟩, n, f, hcs, hI⟩

theorem open_nets {fuel : Nat} {cs : List Value} {x : DataW H × List MemPlace} (h : DataW.trod enc Try.prog w base (fun _ => true) held fuel 23 cs = some x) :
    ∃ (p : Pl) (q : Nat → Pl) (n : Nat) (ln : Nat → Nat) (f : Nat → Nat → Int), cs = [.slice p.ad n p.cap] ∧ NSeg w p q n ln f ∧ n ≤ 9223372036854775807 ∧ (∀ i, i < n → ln i ≤ 9223372036854775807) := by
  obtain ⟨-, -, -, k4, -, -⟩ := ke
  have emp : ∀ (a : Option Addr) (c : Nat), NSeg w ⟨a, 0, 0, c⟩ (fun _ => ⟨none, 0, 0, 0⟩) 0 (fun _ => 0) (fun _ _ => 0) := fun a c => ⟨fun h => absurd h (Nat.lt_irrefl _), fun i hi => absurd hi (Nat.not_lt_zero _), fun i hi => absurd hi (Nat.not_lt_zero _)⟩
  rcases DataW.trod_slice Try.underlying23 h with ⟨hcs, _⟩ | ⟨a, len, cap, elems, rest, n, _, hcs, _, hb, hl, hm, hlen, hel, _, _⟩
  · exact ⟨⟨none, 0, 0, 0⟩, _, 0, _, _, hcs, emp none 0, Nat.zero_le _, fun i hi => absurd hi (Nat.not_lt_zero _)⟩
  · by_cases h0 : len = 0
    · subst h0
      exact ⟨⟨_, 0, 0, cap⟩, _, 0, _, _, hcs, emp _ cap, Nat.zero_le _, fun i hi => absurd hi (Nat.not_lt_zero _)⟩
    · have each : ∀ i, i < len → ∃ r : Pl × Nat × (Nat → Int), w.cell? (a.add i) = some (.slice r.1.ad r.2.1 r.1.cap) ∧ Seg w r.1.ad r.1.b r.1.off r.2.1 r.2.2 ∧ r.2.1 ≤ 9223372036854775807 := by
        intro i hi
        have h1 := hel i hi
        rw [k4, List.getElem?_eq_getElem (by omega)] at h1
        obtain ⟨cs', h2, h3⟩ := Option.bind_eq_some_iff.1 h1
        obtain ⟨p, m, f, rfl, hS, hM⟩ := open_intsC h3
        obtain ⟨h4, h5, h6⟩ := World.cells?_some h2
        refine ⟨⟨p, m, f⟩, ?_, hS, hM⟩
        have := h6 0 (by omega)
        simpa [Addr.add] using this
      obtain ⟨b, off, spot⟩ := a
      have hspot : spot = none := by
        obtain ⟨x, h, _⟩ := each 0 (by omega)
        simpa [Addr.add] using World.cell?_spot h
      subst hspot
      have each' : ∀ i, i < len → ∃ r : Pl × Nat × (Nat → Int), w.cell? ⟨b, off + i, none⟩ = some (.slice r.1.ad r.2.1 r.1.cap) ∧ Seg w r.1.ad r.1.b r.1.off r.2.1 r.2.2 ∧ r.2.1 ≤ 9223372036854775807 := fun i hi => by
        have := each i hi
        simpa only [add_off] using this
      have hx : ∃ r : Nat → Pl × Nat × (Nat → Int), ∀ i, i < len → w.cell? ⟨b, off + i, none⟩ = some (.slice (r i).1.ad (r i).2.1 (r i).1.cap) ∧ Seg w (r i).1.ad (r i).1.b (r i).1.off (r i).2.1 (r i).2.2 ∧ (r i).2.1 ≤ 9223372036854775807 :=
        ⟨fun i => if h : i < len then Classical.choose (each' i h) else ⟨⟨none, 0, 0, 0⟩, 0, fun _ => 0⟩, fun i hi => by
          simp only [dif_pos hi]
          exact Classical.choose_spec (each' i hi)⟩
      obtain ⟨r, hr⟩ := hx
      exact ⟨⟨some ⟨b, off, none⟩, b, off, cap⟩, fun i => (r i).1, len, fun i => (r i).2.1, fun i => (r i).2.2, hcs, ⟨fun _ => rfl, fun i hi => (hr i hi).1, fun i hi => (hr i hi).2.1⟩, by unfold maxLen at hm; omega, fun i hi => (hr i hi).2.2⟩

/-- Extensions in memory. -/
structure ExM where
  x : Ex
  m : ExPl
structure ExtsIn (w : World) (X : ExM) : Prop where
  ok : ExIn w X.x X.m
  sm : ExSm X.x 9223372036854775807

set_option maxHeartbeats 1600000 in
theorem open_extsC {fuel : Nat} {cs : List Value} {y : DataW H × List MemPlace} (h : DataW.trod enc Try.prog w base (fun _ => true) held fuel 26 cs = some y) : ∃ X : ExM, cs = exL X.x X.m ∧ ExtsIn w X := by
  obtain ⟨k1, k2, k3, k4, k5, k6⟩ := ke
  obtain ⟨xs, n, _, hx, hcl, hlen, hel⟩ := DataW.trod_struct Try.underlying26 h
  rw [k1] at hcl
  obtain ⟨c0, c1, c2, c3, c4, c5, c6, c7, rfl⟩ := listE8 hcl
  obtain ⟨y0, y1, y2, y3, y4, y5, y6, y7, rfl⟩ := listE8 hlen
  have f0 := hel 0 _ rfl
  have f1 := hel 1 _ rfl
  have f2 := hel 2 _ rfl
  have f3 := hel 3 _ rfl
  have f4 := hel 4 _ rfl
  have f5 := hel 5 _ rfl
  have f6 := hel 6 _ rfl
  have f7 := hel 7 _ rfl
  simp [k2, k3, k4, k5, k6] at f0 f1 f2 f3 f4 f5 f6 f7
  obtain ⟨u0, g0, _⟩ := DataW.trod_bool Try.underlying4 f0
  obtain ⟨u1, g1, _, w1⟩ := DataW.trod_int Try.underlying3 f1
  obtain ⟨u2, g2, _, w2⟩ := DataW.trod_int Try.underlying3 f2
  obtain ⟨p3, n3, s3, g3, i3⟩ := open_strsP f3
  obtain ⟨p4, q4, n4, l4, s4, g4, i4, j4, e4⟩ := open_nets f4
  obtain ⟨p5, n5, s5, g5, i5⟩ := open_strsP f5
  obtain ⟨p6, n6, s6, g6, i6⟩ := open_strsP f6
  obtain ⟨p7, n7, s7, g7, i7, j7⟩ := open_intsC f7
  simp at g0 g1 g2 g3 g4 g5 g6 g7
  subst g0 g1 g2 g3 g4 g5 g6 g7
  exact ⟨⟨⟨u0, u1, u2, n3, s3, n4, l4, s4, n5, s5, n6, s6, n7, s7⟩, ⟨p3, p4, q4, p5, p6, p7⟩⟩, rfl, ⟨i3.seg, i4, i5.seg, i6.seg, i7⟩, ⟨i3.small, i3.each, j4, e4, i5.small, i5.each, i6.small, i6.each, j7⟩⟩

theorem open_exts {r : Reach} {b0 : Nat} {v : Value} {d : DataW H} {p : List MemPlace} (hv : Value.okWide Try.prog w r b0 26 v) (h : DataW.Trod enc Try.prog w base (fun _ => true) held 26 v d p) :
    ∃ X : ExM, v = .agg (exL X.x X.m).toArray ∧ ExtsIn w X := by
  obtain ⟨cs, rfl, hsz⟩ := okWide_struct Try.underlying26 hv
  obtain ⟨fuel, hf⟩ := h
  obtain ⟨X, hm, hI⟩ := open_extsC hf
  refine ⟨X, ?_, hI⟩
  simp only [Value.cells] at hm
  rw [← hm]

end

end Go.Proofs.Ytigjjkondbdgjaa
