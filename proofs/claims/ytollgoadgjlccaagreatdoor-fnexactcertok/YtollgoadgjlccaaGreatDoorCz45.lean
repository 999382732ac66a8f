/- Extensions that came in, opened. A list of bytes that came in as a field, opened. Keys: a key that came in, opened (written by mkkey.py). A certificate that came in, opened. The walk of the law FnExactCertOk (written by mkcrt.py). Walks: who is its own issuer: program and model; OwnIssuer of both. -/
import Derived.Test.YtollgoadgjlccaaGreatDoorCz04
import Derived.Test.YtollgoadgjlccaaGreatDoorCz34
import Derived.Test.YtollgoadgjlccaaGreatDoorRows
import Derived.WalkKit
import Derived.ProofKit
import Derived.OpenShut
import Derived.ChangeOld
import Derived.Below
import Derived.Test.YtollgoadgjlccaaGreatDoorCz35
import Derived.Test.YtollgoadgjlccaaGreatDoorCz44
import Derived.Test.YtollgoadgjlccaaGreatDoorCz39
namespace Go.Proofs.YtollgoadgjlccaaGreatDoor

section
set_option linter.unusedVariables false
set_option linter.unusedSimpArgs false
set_option maxRecDepth 100000

open Go.RowKit

open Go.ChangeShapes Go.WideShapes Go.ChangeAt

theorem ke : Tryz.prog.cellsOf 36 = 8 ∧ Tryz.prog.cellsOf 3 = 1 ∧ Tryz.prog.cellsOf 4 = 1 ∧ Tryz.prog.cellsOf 23 = 1 ∧ Tryz.prog.cellsOf 22 = 1 ∧ Tryz.prog.cellsOf 34 = 1 := by
  refine ⟨?_, ?_, ?_, ?_, ?_, ?_⟩ <;> kernel_rfl

theorem listE8 {α : Type} {l : List α} (h : l.length = 8) : ∃ a b c d e f g i, l = [a, b, c, d, e, f, g, i] := by
  match l, h with
  | [a, b, c, d, e, f, g, i], _ => exact ⟨a, b, c, d, e, f, g, i, rfl⟩

section

variable {H : Type} {enc : TypeId × Value → H} {w : World} {base : Nat} {held : Bool}

theorem open_intsC {fuel : Nat} {cs : List Value} {x : DataW H × List MemPlace} (h : DataW.trod enc Tryz.prog w base (fun _ => true) held fuel 23 cs = some x) :
    ∃ (p : Plc) (n : Nat) (f : Nat → Int), cs = [.slice p.ad n p.cap] ∧ Seg w p.ad p.b p.off n f ∧ n ≤ 9223372036854775807 := by
  rcases open_ints Tryz.underlying23 Tryz.underlying3 (by kernel_rfl) h with ⟨hcs, _⟩ | ⟨a, l, c, zs, hcs, _, hl, hm, hz, _, hcell, hwz⟩
  · exact ⟨⟨none, 0, 0, 0⟩, 0, fun _ => 0, hcs, ⟨fun h => absurd h (Nat.lt_irrefl _), fun i hi => absurd hi (Nat.not_lt_zero _)⟩, Nat.zero_le _⟩
  · simp at hz
    obtain ⟨b, off, spot⟩ := a
    have hmm : l ≤ 9223372036854775807 := by unfold maxLen at hm; omega
    by_cases h0 : l = 0
    · subst h0
      exact ⟨⟨_, 0, 0, c⟩, 0, fun _ => 0, hcs, ⟨fun h => absurd h (Nat.lt_irrefl _), fun i hi => absurd hi (Nat.not_lt_zero _)⟩, Nat.zero_le _⟩
    · have hspot : spot = none := by simpa [Addr.add] using World.cell?_spot (hcell 0 (by omega))
      subst hspot
      refine ⟨⟨some ⟨b, off, none⟩, b, off, c⟩, l, fun i => zs.getD i 0, hcs, ⟨fun _ => rfl, fun i hi => ?_⟩, hmm⟩
      have := hcell i (by omega)
      rwa [add_off] at this

theorem open_strsP {fuel : Nat} {cs : List Value} {x : DataW H × List MemPlace} (h : DataW.trod enc Tryz.prog w base (fun _ => true) held fuel 22 cs = some x) :
    ∃ (p : Plc) (n : Nat) (f : Nat → ByteArray), cs = [.slice p.ad n p.cap] ∧ StsIn w p.ad p.b p.off n f := by
  obtain ⟨a, b, off, n, cap, f, hcs, hI⟩ := open_strsC h
  exact ⟨⟨a, b, off, cap⟩, n, f, hcs, hI⟩

theorem open_nets {fuel : Nat} {cs : List Value} {x : DataW H × List MemPlace} (h : DataW.trod enc Tryz.prog w base (fun _ => true) held fuel 34 cs = some x) :
    ∃ (p : Plc) (q : Nat → Plc) (n : Nat) (ln : Nat → Nat) (f : Nat → Nat → Int), cs = [.slice p.ad n p.cap] ∧ NSeg w p q n ln f ∧ n ≤ 9223372036854775807 ∧ (∀ i, i < n → ln i ≤ 9223372036854775807) := by
  obtain ⟨-, -, -, k4, -, -⟩ := ke
  have emp : ∀ (a : Option Addr) (c : Nat), NSeg w ⟨a, 0, 0, c⟩ (fun _ => ⟨none, 0, 0, 0⟩) 0 (fun _ => 0) (fun _ _ => 0) := fun a c => ⟨fun h => absurd h (Nat.lt_irrefl _), fun i hi => absurd hi (Nat.not_lt_zero _), fun i hi => absurd hi (Nat.not_lt_zero _)⟩
  rcases DataW.trod_slice Tryz.underlying34 h with ⟨hcs, _⟩ | ⟨a, len, cap, elems, rest, n, _, hcs, _, hb, hl, hm, hlen, hel, _, _⟩
  · exact ⟨⟨none, 0, 0, 0⟩, _, 0, _, _, hcs, emp none 0, Nat.zero_le _, fun i hi => absurd hi (Nat.not_lt_zero _)⟩
  · by_cases h0 : len = 0
    · subst h0
      exact ⟨⟨_, 0, 0, cap⟩, _, 0, _, _, hcs, emp _ cap, Nat.zero_le _, fun i hi => absurd hi (Nat.not_lt_zero _)⟩
    · have each : ∀ i, i < len → ∃ r : Plc × Nat × (Nat → Int), w.cell? (a.add i) = some (.slice r.1.ad r.2.1 r.1.cap) ∧ Seg w r.1.ad r.1.b r.1.off r.2.1 r.2.2 ∧ r.2.1 ≤ 9223372036854775807 := by
        intro i hi
        have h1 := hel i hi
        rw [k4, List.getElem?_eq_getElem (by omega)] at h1
        obtain ⟨cs', h2, h3⟩ := Option.bind_eq_some_iff.1 h1
        obtain ⟨p, m, f, rfl, hS, hM⟩ := open_intsC h3
        obtain ⟨h4, h5, h6⟩ := World.cells?_some h2
        refine ⟨⟨p, m, f⟩, ?_, hS, hM⟩
        have := h6 0 (by omega)
        simpa [Addr.add] using this
      obtain ⟨b, off, spot⟩ := a
      have hspot : spot = none := by
        obtain ⟨x, h, _⟩ := each 0 (by omega)
        simpa [Addr.add] using World.cell?_spot h
      subst hspot
      have each' : ∀ i, i < len → ∃ r : Plc × Nat × (Nat → Int), w.cell? ⟨b, off + i, none⟩ = some (.slice r.1.ad r.2.1 r.1.cap) ∧ Seg w r.1.ad r.1.b r.1.off r.2.1 r.2.2 ∧ r.2.1 ≤ 9223372036854775807 := fun i hi => by
        have := each i hi
        simpa only [add_off] using this
      have hx : ∃ r : Nat → Plc × Nat × (Nat → Int), ∀ i, i < len → w.cell? ⟨b, off + i, none⟩ = some (.slice (r i).1.ad (r i).2.1 (r i).1.cap) ∧ Seg w (r i).1.ad (r i).1.b (r i).1.off (r i).2.1 (r i).2.2 ∧ (r i).2.1 ≤ 9223372036854775807 :=
        ⟨fun i => if h : i < len then Classical.choose (each' i h) else ⟨⟨none, 0, 0, 0⟩, 0, fun _ => 0⟩, fun i hi => by
          simp only [dif_pos hi]
          exact Classical.choose_spec (each' i hi)⟩
      obtain ⟨r, hr⟩ := hx
      exact ⟨⟨some ⟨b, off, none⟩, b, off, cap⟩, fun i => (r i).1, len, fun i => (r i).2.1, fun i => (r i).2.2, hcs, ⟨fun _ => rfl, fun i hi => (hr i hi).1, fun i hi => (hr i hi).2.1⟩, by unfold maxLen at hm; omega, fun i hi => (hr i hi).2.2⟩

/-- Extensions in memory. -/
structure ExM where
  x : Ex
  m : ExPl

structure ExtsIn (w : World) (X : ExM) : Prop where
  ok : ExIn w X.x X.m
  sm : ExSm X.x 9223372036854775807

set_option maxHeartbeats 1600000 in
theorem open_extsC {fuel : Nat} {cs : List Value} {y : DataW H × List MemPlace} (h : DataW.trod enc Tryz.prog w base (fun _ => true) held fuel 36 cs = some y) : ∃ X : ExM, cs = exL X.x X.m ∧ ExtsIn w X := by
  obtain ⟨k1, k2, k3, k4, k5, k6⟩ := ke
  obtain ⟨xs, n, _, hx, hcl, hlen, hel⟩ := DataW.trod_struct Tryz.underlying36 h
  rw [k1] at hcl
  obtain ⟨c0, c1, c2, c3, c4, c5, c6, c7, rfl⟩ := listE8 hcl
  obtain ⟨y0, y1, y2, y3, y4, y5, y6, y7, rfl⟩ := listE8 hlen
  have f0 := hel 0 _ rfl
  have f1 := hel 1 _ rfl
  have f2 := hel 2 _ rfl
  have f3 := hel 3 _ rfl
  have f4 := hel 4 _ rfl
  have f5 := hel 5 _ rfl
  have f6 := hel 6 _ rfl
  have f7 := hel 7 _ rfl
  simp [k2, k3, k4, k5, k6] at f0 f1 f2 f3 f4 f5 f6 f7
  obtain ⟨u0, g0, _⟩ := DataW.trod_bool Tryz.underlying4 f0
  obtain ⟨u1, g1, _, w1⟩ := DataW.trod_int Tryz.underlying3 f1
  obtain ⟨u2, g2, _, w2⟩ := DataW.trod_int Tryz.underlying3 f2
  obtain ⟨p3, n3, s3, g3, i3⟩ := open_strsP f3
  obtain ⟨p4, q4, n4, l4, s4, g4, i4, j4, e4⟩ := open_nets f4
  obtain ⟨p5, n5, s5, g5, i5⟩ := open_strsP f5
  obtain ⟨p6, n6, s6, g6, i6⟩ := open_strsP f6
  obtain ⟨p7, n7, s7, g7, i7, j7⟩ := open_intsC f7
  simp at g0 g1 g2 g3 g4 g5 g6 g7
  subst g0 g1 g2 g3 g4 g5 g6 g7
  exact ⟨⟨⟨u0, u1, u2, n3, s3, n4, l4, s4, n5, s5, n6, s6, n7, s7⟩, ⟨p3, p4, q4, p5, p6, p7⟩⟩, rfl, ⟨i3.seg, i4, i5.seg, i6.seg, i7⟩, ⟨i3.small, i3.each, j4, e4, i5.small, i5.each, i6.small, i6.each, j7⟩⟩

end
end

section
set_option linter.unusedVariables false
set_option linter.unusedSimpArgs false
set_option maxRecDepth 100000

open Go.RowKit

open Go.ChangeShapes Go.WideShapes Go.ChangeAt

section

variable {H : Type} {enc : TypeId × Value → H} {w : World} {base : Nat} {held : Bool}

theorem open_bysC {fuel : Nat} {cs : List Value} {x : DataW H × List MemPlace} (h : DataW.trod enc Tryz.prog w base (fun _ => true) held fuel 37 cs = some x) :
    ∃ (p : Plc) (n : Nat) (f : Nat → Int), cs = [.slice p.ad n p.cap] ∧ BSeg w p.ad p.b p.off n f ∧ n ≤ 9223372036854775807 := by
  rcases open_ints Tryz.underlying37 Tryz.underlying5 (by kernel_rfl) h with ⟨hcs, _⟩ | ⟨a, l, c, zs, hcs, _, hl, hm, hz, _, hcell, hwz⟩
  · exact ⟨⟨none, 0, 0, 0⟩, 0, fun _ => 0, hcs, ⟨fun h => absurd h (Nat.lt_irrefl _), fun i hi => absurd hi (Nat.not_lt_zero _)⟩, Nat.zero_le _⟩
  · simp at hz
    obtain ⟨b, off, spot⟩ := a
    have hmm : l ≤ 9223372036854775807 := by unfold maxLen at hm; omega
    by_cases h0 : l = 0
    · subst h0
      exact ⟨⟨_, 0, 0, c⟩, 0, fun _ => 0, hcs, ⟨fun h => absurd h (Nat.lt_irrefl _), fun i hi => absurd hi (Nat.not_lt_zero _)⟩, Nat.zero_le _⟩
    · have hspot : spot = none := by simpa [Addr.add] using World.cell?_spot (hcell 0 (by omega))
      subst hspot
      refine ⟨⟨some ⟨b, off, none⟩, b, off, c⟩, l, fun i => zs.getD i 0, hcs, ⟨fun _ => rfl, fun i hi => ?_⟩, hmm⟩
      have := hcell i (by omega)
      rwa [add_off] at this

end
end

section
set_option linter.unusedVariables false
set_option linter.unusedSimpArgs false

open Go.RowKit

open Go.ChangeShapes Go.WideShapes Go.ChangeAt

/-- A key in memory. -/
structure KyM where
  k : Ky
  ad : Option Addr
  b : Nat
  off : Nat
  cap : Nat

/-- What is known of a key that came in. -/
structure KeyIn (w : World) (m : KyM) : Prop where
  seg : Seg w m.ad m.b m.off m.k.n m.k.f
  small : m.k.n ≤ 9223372036854775807
  e0 : -9223372036854775808 ≤ m.k.e
  e1 : m.k.e ≤ 9223372036854775807
  p : m.k.cP ≤ 9223372036854775807
  c : m.k.cN ≤ 9223372036854775807
  d : m.k.dP ≤ 9223372036854775807
  l : m.k.dL ≤ 9223372036854775807

theorem listK {α : Type} {l : List α} (h : l.length = 19) : ∃ kd sl ee c0 c1 c2 c3 c4 c5 q0 q1 q2 e0 e1 e2 e3 e4 a0 a1, l = [kd, sl, ee, c0, c1, c2, c3, c4, c5, q0, q1, q2, e0, e1, e2, e3, e4, a0, a1] := by
  match l, h with
  | [kd, sl, ee, c0, c1, c2, c3, c4, c5, q0, q1, q2, e0, e1, e2, e3, e4, a0, a1], _ => exact ⟨kd, sl, ee, c0, c1, c2, c3, c4, c5, q0, q1, q2, e0, e1, e2, e3, e4, a0, a1, rfl⟩

theorem listN {α : Type} {l : List α} (h : l.length = 7) : ∃ y0 y1 y2 y3 y4 y5 y6, l = [y0, y1, y2, y3, y4, y5, y6] := by
  match l, h with
  | [y0, y1, y2, y3, y4, y5, y6], _ => exact ⟨y0, y1, y2, y3, y4, y5, y6, rfl⟩

theorem list6' {α : Type} {l : List α} (h : l.length = 6) : ∃ y0 y1 y2 y3 y4 y5, l = [y0, y1, y2, y3, y4, y5] := by
  match l, h with
  | [y0, y1, y2, y3, y4, y5], _ => exact ⟨y0, y1, y2, y3, y4, y5, rfl⟩

theorem list5' {α : Type} {l : List α} (h : l.length = 5) : ∃ y0 y1 y2 y3 y4, l = [y0, y1, y2, y3, y4] := by
  match l, h with
  | [y0, y1, y2, y3, y4], _ => exact ⟨y0, y1, y2, y3, y4, rfl⟩

theorem list3'' {α : Type} {l : List α} (h : l.length = 3) : ∃ y0 y1 y2, l = [y0, y1, y2] := by
  match l, h with
  | [y0, y1, y2], _ => exact ⟨y0, y1, y2, rfl⟩

theorem list2' {α : Type} {l : List α} (h : l.length = 2) : ∃ y0 y1, l = [y0, y1] := by
  match l, h with
  | [y0, y1], _ => exact ⟨y0, y1, rfl⟩

theorem kc : Tryz.prog.cellsOf 33 = 19 ∧ Tryz.prog.cellsOf 25 = 6 ∧ Tryz.prog.cellsOf 27 = 3 ∧ Tryz.prog.cellsOf 29 = 5 ∧ Tryz.prog.cellsOf 31 = 2 ∧ Tryz.prog.cellsOf 3 = 1 ∧ Tryz.prog.cellsOf 4 = 1 ∧ Tryz.prog.cellsOf 23 = 1 := by
  refine ⟨?_, ?_, ?_, ?_, ?_, ?_, ?_, ?_⟩ <;> kernel_rfl

section

variable {H : Type} {enc : TypeId × Value → H} {w : World} {base : Nat} {held : Bool}

set_option maxRecDepth 100000 in
theorem open_cv {fuel : Nat} {cs : List Value} {y : DataW H × List MemPlace} (h : DataW.trod enc Tryz.prog w base (fun _ => true) held fuel 25 cs = some y) : ∃ a b c d e f : Int, cs = [.int .i64 a, .int .i64 b, .int .i64 c, .int .i64 d, .int .i64 e, .int .i64 f] ∧ a ≤ 9223372036854775807 ∧ d ≤ 9223372036854775807 := by
  obtain ⟨k1, k2, k3, k4, k5, k6, k7, k8⟩ := kc
  obtain ⟨xs, n, _, hx, hcl, hlen, hel⟩ := DataW.trod_struct Tryz.underlying25 h
  rw [k2] at hcl
  obtain ⟨c0, c1, c2, c3, c4, c5, rfl⟩ := list6' hcl
  obtain ⟨y0, y1, y2, y3, y4, y5, rfl⟩ := list6' hlen
  have e0 := hel 0 _ rfl
  have e1 := hel 1 _ rfl
  have e2 := hel 2 _ rfl
  have e3 := hel 3 _ rfl
  have e4 := hel 4 _ rfl
  have e5 := hel 5 _ rfl
  simp [k6] at e0 e1 e2 e3 e4 e5
  obtain ⟨a0, q0, _, w0⟩ := DataW.trod_int Tryz.underlying3 e0
  obtain ⟨a1, q1, _, w1⟩ := DataW.trod_int Tryz.underlying3 e1
  obtain ⟨a2, q2, _, w2⟩ := DataW.trod_int Tryz.underlying3 e2
  obtain ⟨a3, q3, _, w3⟩ := DataW.trod_int Tryz.underlying3 e3
  obtain ⟨a4, q4, _, w4⟩ := DataW.trod_int Tryz.underlying3 e4
  obtain ⟨a5, q5, _, w5⟩ := DataW.trod_int Tryz.underlying3 e5
  simp at q0 q1 q2 q3 q4 q5
  subst q0 q1 q2 q3 q4 q5
  exact ⟨a0, a1, a2, a3, a4, a5, rfl, (bounds_i64 w0).2, (bounds_i64 w3).2⟩

set_option maxRecDepth 100000 in
theorem open_ed {fuel : Nat} {cs : List Value} {y : DataW H × List MemPlace} (h : DataW.trod enc Tryz.prog w base (fun _ => true) held fuel 29 cs = some y) : ∃ a b c d e : Int, cs = [.int .i64 a, .int .i64 b, .int .i64 c, .int .i64 d, .int .i64 e] ∧ a ≤ 9223372036854775807 ∧ c ≤ 9223372036854775807 := by
  obtain ⟨k1, k2, k3, k4, k5, k6, k7, k8⟩ := kc
  obtain ⟨xs, n, _, hx, hcl, hlen, hel⟩ := DataW.trod_struct Tryz.underlying29 h
  rw [k4] at hcl
  obtain ⟨c0, c1, c2, c3, c4, rfl⟩ := list5' hcl
  obtain ⟨y0, y1, y2, y3, y4, rfl⟩ := list5' hlen
  have e0 := hel 0 _ rfl
  have e1 := hel 1 _ rfl
  have e2 := hel 2 _ rfl
  have e3 := hel 3 _ rfl
  have e4 := hel 4 _ rfl
  simp [k6] at e0 e1 e2 e3 e4
  obtain ⟨a0, q0, _, w0⟩ := DataW.trod_int Tryz.underlying3 e0
  obtain ⟨a1, q1, _, w1⟩ := DataW.trod_int Tryz.underlying3 e1
  obtain ⟨a2, q2, _, w2⟩ := DataW.trod_int Tryz.underlying3 e2
  obtain ⟨a3, q3, _, w3⟩ := DataW.trod_int Tryz.underlying3 e3
  obtain ⟨a4, q4, _, w4⟩ := DataW.trod_int Tryz.underlying3 e4
  simp at q0 q1 q2 q3 q4
  subst q0 q1 q2 q3 q4
  exact ⟨a0, a1, a2, a3, a4, rfl, (bounds_i64 w0).2, (bounds_i64 w2).2⟩

set_option maxRecDepth 100000 in
theorem open_pt {fuel : Nat} {cs : List Value} {y : DataW H × List MemPlace} (h : DataW.trod enc Tryz.prog w base (fun _ => true) held fuel 27 cs = some y) : ∃ (a b : Int) (f : Bool), cs = [.int .i64 a, .int .i64 b, .bool f] := by
  obtain ⟨k1, k2, k3, k4, k5, k6, k7, k8⟩ := kc
  obtain ⟨xs, n, _, hx, hcl, hlen, hel⟩ := DataW.trod_struct Tryz.underlying27 h
  rw [k3] at hcl
  obtain ⟨c0, c1, c2, rfl⟩ := list3'' hcl
  obtain ⟨y0, y1, y2, rfl⟩ := list3'' hlen
  have e0 := hel 0 _ rfl
  have e1 := hel 1 _ rfl
  have e2 := hel 2 _ rfl
  simp [k6, k7] at e0 e1 e2
  obtain ⟨a0, q0, _, w0⟩ := DataW.trod_int Tryz.underlying3 e0
  obtain ⟨a1, q1, _, w1⟩ := DataW.trod_int Tryz.underlying3 e1
  obtain ⟨a2, q2, _⟩ := DataW.trod_bool Tryz.underlying4 e2
  simp at q0 q1 q2
  subst q0 q1 q2
  exact ⟨a0, a1, a2, rfl⟩

set_option maxRecDepth 100000 in
theorem open_pr {fuel : Nat} {cs : List Value} {y : DataW H × List MemPlace} (h : DataW.trod enc Tryz.prog w base (fun _ => true) held fuel 31 cs = some y) : ∃ a b : Int, cs = [.int .i64 a, .int .i64 b] := by
  obtain ⟨k1, k2, k3, k4, k5, k6, k7, k8⟩ := kc
  obtain ⟨xs, n, _, hx, hcl, hlen, hel⟩ := DataW.trod_struct Tryz.underlying31 h
  rw [k5] at hcl
  obtain ⟨c0, c1, rfl⟩ := list2' hcl
  obtain ⟨y0, y1, rfl⟩ := list2' hlen
  have e0 := hel 0 _ rfl
  have e1 := hel 1 _ rfl
  simp [k6] at e0 e1
  obtain ⟨a0, q0, _, w0⟩ := DataW.trod_int Tryz.underlying3 e0
  obtain ⟨a1, q1, _, w1⟩ := DataW.trod_int Tryz.underlying3 e1
  simp at q0 q1
  subst q0 q1
  exact ⟨a0, a1, rfl⟩

set_option maxRecDepth 100000 in
theorem open_ns {fuel : Nat} {cs : List Value} {x : DataW H × List MemPlace} (h : DataW.trod enc Tryz.prog w base (fun _ => true) held fuel 23 cs = some x) :
    ∃ (a : Option Addr) (b off n cap : Nat) (f : Nat → Int), cs = [.slice a n cap] ∧ Seg w a b off n f ∧ n ≤ 9223372036854775807 := by
  rcases open_ints Tryz.underlying23 Tryz.underlying3 (by kernel_rfl) h with ⟨hcs, _⟩ | ⟨a, l, c, zs, hcs, _, hl, hm, hz, _, hcell, hwz⟩
  · exact ⟨none, 0, 0, 0, 0, fun _ => 0, hcs, ⟨fun h => absurd h (Nat.lt_irrefl _), fun i hi => absurd hi (Nat.not_lt_zero _)⟩, Nat.zero_le _⟩
  · simp at hz
    obtain ⟨b, off, spot⟩ := a
    have hmm : l ≤ 9223372036854775807 := by unfold maxLen at hm; omega
    by_cases h0 : l = 0
    · subst h0
      exact ⟨_, 0, 0, 0, c, fun _ => 0, hcs, ⟨fun h => absurd h (Nat.lt_irrefl _), fun i hi => absurd hi (Nat.not_lt_zero _)⟩, Nat.zero_le _⟩
    · have hspot : spot = none := by simpa [Addr.add] using World.cell?_spot (hcell 0 (by omega))
      subst hspot
      refine ⟨some ⟨b, off, none⟩, b, off, l, c, fun i => zs.getD i 0, hcs, ⟨fun _ => rfl, fun i hi => ?_⟩, hmm⟩
      have := hcell i (by omega)
      have e : (⟨b, off, none⟩ : Addr).add i = ⟨b, off + i, none⟩ := by
        by_cases h0 : i = 0
        · subst h0; simp [Addr.add]
        · simp [Addr.add, h0]
      rwa [e] at this

set_option maxHeartbeats 1600000 in
set_option maxRecDepth 100000 in
theorem open_keyC {fuel : Nat} {cs : List Value} {y : DataW H × List MemPlace} (h : DataW.trod enc Tryz.prog w base (fun _ => true) held fuel 33 cs = some y) : ∃ m : KyM, cs = [.int .i64 m.k.kind, .slice m.ad m.k.n m.cap, .int .i64 m.k.e, .int .i64 m.k.cP, .int .i64 m.k.cA, .int .i64 m.k.cB, .int .i64 m.k.cN, .int .i64 m.k.cX, .int .i64 m.k.cY, .int .i64 m.k.q.x, .int .i64 m.k.q.y, .bool m.k.q.far, .int .i64 m.k.dP, .int .i64 m.k.dD, .int .i64 m.k.dL, .int .i64 m.k.dX, .int .i64 m.k.dY, .int .i64 m.k.a.x, .int .i64 m.k.a.y] ∧ KeyIn w m := by
  obtain ⟨k1, k2, k3, k4, k5, k6, k7, k8⟩ := kc
  obtain ⟨xs, n, _, hx, hcl, hlen, hel⟩ := DataW.trod_struct Tryz.underlying33 h
  rw [k1] at hcl
  obtain ⟨kd, sl, ee, c0, c1, c2, c3, c4, c5, q0, q1, q2, e0, e1, e2, e3, e4, a0, a1, rfl⟩ := listK hcl
  obtain ⟨y0, y1, y2, y3, y4, y5, y6, rfl⟩ := listN hlen
  have f0 := hel 0 _ rfl
  have f1 := hel 1 _ rfl
  have f2 := hel 2 _ rfl
  have f3 := hel 3 _ rfl
  have f4 := hel 4 _ rfl
  have f5 := hel 5 _ rfl
  have f6 := hel 6 _ rfl
  simp [k2, k3, k4, k5, k6, k8] at f0 f1 f2 f3 f4 f5 f6
  obtain ⟨u0, g0, _, w0⟩ := DataW.trod_int Tryz.underlying3 f0
  obtain ⟨a, b, off, ln, cap, f, g1, hS, hL⟩ := open_ns f1
  obtain ⟨u2, g2, _, w2⟩ := DataW.trod_int Tryz.underlying3 f2
  obtain ⟨p1, p2, p3, p4, p5, p6, g3, b1, b2⟩ := open_cv f3
  obtain ⟨r1, r2, r3, g4⟩ := open_pt f4
  obtain ⟨s1, s2, s3, s4, s5, g5, b3, b4⟩ := open_ed f5
  obtain ⟨t1, t2, g6⟩ := open_pr f6
  simp at g0 g1 g2 g3 g4 g5 g6
  obtain ⟨rfl, rfl, rfl, rfl, rfl, rfl⟩ := g3
  obtain ⟨rfl, rfl, rfl⟩ := g4
  obtain ⟨rfl, rfl, rfl, rfl, rfl⟩ := g5
  obtain ⟨rfl, rfl⟩ := g6
  subst g0 g1 g2
  have bb := bounds_i64 w2
  exact ⟨⟨⟨u0, ln, f, u2, p1, p2, p3, p4, p5, p6, ⟨r1, r2, r3⟩, s1, s2, s3, s4, s5, ⟨t1, t2⟩⟩, a, b, off, cap⟩, rfl, ⟨hS, hL, bb.1, bb.2, b1, b2, b3, b4⟩⟩

end
end

section
set_option linter.unusedVariables false
set_option linter.unusedSimpArgs false
set_option maxRecDepth 100000

open Go.RowKit

open Go.ChangeShapes Go.WideShapes Go.ChangeAt

theorem kq : Tryz.prog.cellsOf 39 = 34 ∧ Tryz.prog.cellsOf 33 = 19 ∧ Tryz.prog.cellsOf 36 = 8 ∧ Tryz.prog.cellsOf 3 = 1 ∧ Tryz.prog.cellsOf 22 = 1 ∧ Tryz.prog.cellsOf 37 = 1 := by
  refine ⟨?_, ?_, ?_, ?_, ?_, ?_⟩ <;> kernel_rfl

theorem listC9 {α : Type} {l : List α} (h : l.length = 9) : ∃ a b c d e f g i j, l = [a, b, c, d, e, f, g, i, j] := by
  match l, h with
  | [a, b, c, d, e, f, g, i, j], _ => exact ⟨a, b, c, d, e, f, g, i, j, rfl⟩

/-- A list of 34, in its parts. -/
theorem list34 {α : Type} {l : List α} (h : l.length = 34) : ∃ (c0 c1 c2 c3 c4 : α) (K : List α) (a : α) (X : List α) (s : α), l = [c0, c1, c2, c3, c4] ++ (K ++ ([a] ++ (X ++ [s]))) ∧ K.length = 19 ∧ X.length = 8 := by
  match l, h with
  | c0 :: c1 :: c2 :: c3 :: c4 :: r, h =>
    have hr : r.length = 29 := by simp at h; omega
    have h1 : (r.drop 19).length = 10 := by simp [hr]
    match e1 : r.drop 19, h1 with
    | a :: r2, h1 =>
      have hr2 : r2.length = 9 := by simpa using h1
      have h2 : (r2.drop 8).length = 1 := by simp [hr2]
      match e2 : r2.drop 8, h2 with
      | [s], _ =>
        refine ⟨c0, c1, c2, c3, c4, r.take 19, a, r2.take 8, s, ?_, by simp [hr], by simp [hr2]⟩
        rw [← e2, List.take_append_drop, show [a] ++ r2 = a :: r2 from rfl, ← e1, List.take_append_drop]
        rfl

section

variable {H : Type} {enc : TypeId × Value → H} {w : World} {base : Nat} {held : Bool}

/-- A certificate in memory. -/
structure CtM where
  c : Ct
  m : CtPl

structure CertIn (w : World) (X : CtM) : Prop where
  ok : CtIn w X.c X.m
  sm : CtSm X.c 9223372036854775807
  e0 : -9223372036854775808 ≤ X.c.k.e
  e1 : X.c.k.e ≤ 9223372036854775807
  p : X.c.k.cP ≤ 9223372036854775807
  n : X.c.k.cN ≤ 9223372036854775807
  d : X.c.k.dP ≤ 9223372036854775807
  l : X.c.k.dL ≤ 9223372036854775807

theorem CertIn.ky {w : World} {X : CtM} (h : CertIn w X) (hn : X.c.k.n ≤ 1048576) : KyIn X.c.k := ⟨hn, h.e0, h.e1, h.p, h.n, h.d, h.l⟩

set_option maxHeartbeats 3200000 in
theorem open_certC {fuel : Nat} {cs : List Value} {y : DataW H × List MemPlace} (h : DataW.trod enc Tryz.prog w base (fun _ => true) held fuel 39 cs = some y) : ∃ X : CtM, cs = ctL X.c X.m ∧ CertIn w X := by
  obtain ⟨k1, k2, k3, k4, k5, k6⟩ := kq
  obtain ⟨xs, n, _, hx, hcl, hlen, hel⟩ := DataW.trod_struct Tryz.underlying39 h
  rw [k1] at hcl
  obtain ⟨c0, c1, c2, c3, c4, K, a, X, s, rfl, hK, hX⟩ := list34 hcl
  obtain ⟨y0, y1, y2, y3, y4, y5, y6, y7, y8, rfl⟩ := listC9 hlen
  have f0 := hel 0 _ rfl
  have f1 := hel 1 _ rfl
  have f2 := hel 2 _ rfl
  have f3 := hel 3 _ rfl
  have f4 := hel 4 _ rfl
  have f5 := hel 5 _ rfl
  have f6 := hel 6 _ rfl
  have f7 := hel 7 _ rfl
  have f8 := hel 8 _ rfl
  simp [k2, k3, k4, k5, k6] at f0 f1 f2 f3 f4 f5 f6 f7 f8
  rw [List.take_left' hK] at f5
  rw [List.drop_left' hK] at f6
  rw [show K ++ a :: (X ++ [s]) = (K ++ [a]) ++ (X ++ [s]) by simp, List.drop_left' (by simp [hK]), List.take_left' hX] at f7
  rw [show K ++ a :: (X ++ [s]) = (K ++ [a] ++ X) ++ [s] by simp, List.drop_left' (by simp [hK, hX])] at f8
  simp only [List.take_succ_cons, List.take_zero] at f6 f8
  obtain ⟨u0, g0, _, w0⟩ := DataW.trod_int Tryz.underlying3 f0
  obtain ⟨p1, n1, s1, g1, i1⟩ := open_strsP f1
  obtain ⟨p2, n2, s2, g2, i2⟩ := open_strsP f2
  obtain ⟨u3, g3, _, w3⟩ := DataW.trod_int Tryz.underlying3 f3
  obtain ⟨u4, g4, _, w4⟩ := DataW.trod_int Tryz.underlying3 f4
  obtain ⟨m5, g5, i5⟩ := open_keyC f5
  obtain ⟨u6, g6, _, w6⟩ := DataW.trod_int Tryz.underlying3 f6
  obtain ⟨X7, g7, i7⟩ := open_extsC f7
  obtain ⟨p8, n8, s8, g8, i8, j8⟩ := open_bysC f8
  simp at g0 g1 g2 g3 g4 g6 g8
  subst g0 g1 g2 g3 g4 g5 g6 g7 g8
  exact ⟨⟨⟨u0, n1, s1, n2, s2, u3, u4, m5.k, u6, X7.x, n8, s8⟩, ⟨p1, p2, ⟨m5.ad, m5.b, m5.off, m5.cap⟩, X7.m, p8⟩⟩, rfl, ⟨i1.seg, i2.seg, i5.seg, i7.ok, i8⟩, ⟨i1.small, i1.each, i2.small, i2.each, i5.small, i7.sm, j8⟩, i5.e0, i5.e1, i5.p, i5.c, i5.d, i5.l⟩

theorem open_cert {r : Reach} {b0 : Nat} {v : Value} {d : DataW H} {p : List MemPlace} (hv : Value.okWide Tryz.prog w r b0 39 v) (h : DataW.Trod enc Tryz.prog w base (fun _ => true) held 39 v d p) :
    ∃ X : CtM, v = .agg (ctL X.c X.m).toArray ∧ CertIn w X := by
  obtain ⟨cs, rfl, hsz⟩ := okWide_struct Tryz.underlying39 hv
  obtain ⟨fuel, hf⟩ := h
  obtain ⟨X, hm, hI⟩ := open_certC hf
  refine ⟨X, ?_, hI⟩
  simp only [Value.cells] at hm
  rw [← hm]

end
end

section
set_option linter.unusedVariables false
set_option linter.unusedSimpArgs false

open Go.RowKit

set_option maxHeartbeats 12800000 in
set_option maxRecDepth 100000 in
theorem lawCertOk_at (c : Ct) (m : CtPl)  (ok : Bool) (w : World) 
    (HSz : Hid (∀ W, Ext w W → Calls Tryz.prog 8 #[.agg (ctL c m).toArray, .int .i64 1048576] W fun e w' => (∃ z : Int, e = .returned (.int .i64 z) ∧ -1 ≤ z ∧ z ≤ 1048576 ∧ (0 ≤ z → CtSm c 1048576)) ∧ Ext W w'))
    (HTo : Hid (CtSm c 1048576 → ∀ W, Ext w W → Calls Tryz.prog 10 #[.agg (ctL c m).toArray] W fun e w' => ∃ p : CtPl, e = .returned (.agg (ctL c p).toArray) ∧ CtIn w' c p ∧ Ext W w'))
    (HSp : Hid (CtSm c 1048576 → ∀ (p : CtPl) (W : World), CtIn W c p → Calls Tryz.prog 9 #[.agg (ctL c p).toArray] W fun e w' => e = .returned (.bool ok) ∧ Ext W w'))
    (HIm : Hid (CtSm c 1048576 → ∀ (p : CtPl) (W : World), CtIn W c p → Calls Tryz.prog 11 #[.agg (ctL c p).toArray] W fun e w' => e = .returned (.bool ok) ∧ Ext W w'))
    (HEq : Hid (CtSm c 1048576 → ∀ (p p2 : CtPl) (W : World), CtIn W c p → CtIn W c p2 → Calls Tryz.prog 12 #[.agg (ctL c p).toArray, .agg (ctL c p2).toArray] W fun e w' => e = .returned (.bool true) ∧ Ext W w')) :
    Calls Tryz.prog 3 #[.agg (ctL c m).toArray] w fun e w' => e = .returned (.bool true) ∧ Ext w w' := by
  obtain ⟨A, hA⟩ : ∃ A, ctL c m = A := ⟨_, rfl⟩
  have hlA : A.length = 34 := by rw [← hA]; rfl
  rw [hA] at HSz HTo ⊢
  clear hA
  obtain ⟨V, hV⟩ : ∃ V, w.alloc (.cells A.toArray 39) = V := ⟨_, rfl⟩
  obtain ⟨B0, hE, -⟩ := box1 w A 39 (w1 := V) (by rw [← hV]; exact Ext.refl _)
  have HBk := hide B0
  have HE := hide hE
  have ldA : ∀ (W : World), Blk W w.heap.size A → (loadVar 39 ⟨w.heap.size, 0, none⟩).run Tryz.prog W = .ok (.agg A.toArray) W := fun W hB => run_ld (P := Tryz.prog) 39 A W (by rw [hlA]; kernel_rfl) (by kernel_rfl) w.heap.size 0 (Blk.ld hB 0 _ (fun j v h => by rw [Nat.zero_add]; exact h))
  have HlA := hide ldA
  have HA0 : Hid (0 < A.length) := hide (by rw [hlA]; decide)
  clear B0 hE ldA
  have hldL := HlA.out V HBk.out
  go_enter Tryz.func3, Tryz.ntmps3
  go_wp2_with (refine wpList_ld (by first | rfl | simp [Region.wanted, yielded]) 39 _ rfl _ rfl _ hldL ?_)
  refine (HSz.out _ HE.out).mono ?_
  rintro e w1 ⟨⟨z, rfl, z0, z1, hz⟩, HEW⟩
  replace HBk := hide (Blk.ext HBk.out HEW (Blk.lt HBk.out HA0.out))
  replace HE := hide (Ext.trans HE.out HEW)
  clear HEW hldL HSz
  by_cases hz0 : z < 0
  · clear hz
    go_wp2
    go_ret
    exact ⟨rfl, HE.out⟩
  have hn := hz (by omega)
  have HT := hide (HTo.out hn)
  have HS := hide (HSp.out hn)
  have HI := hide (HIm.out hn)
  have HQ := hide (HEq.out hn)
  clear hz hn HTo HSp HIm HEq
  have hldL := HlA.out w1 HBk.out
  go_wp2_with (refine wpList_ld (by first | rfl | simp [Region.wanted, yielded]) 39 _ rfl _ rfl _ hldL ?_)
  refine (HT.out _ HE.out).mono ?_
  rintro e w2 ⟨p2, rfl, hs2, HEW⟩
  replace HBk := hide (Blk.ext HBk.out HEW (Blk.lt HBk.out HA0.out))
  replace HE := hide (Ext.trans HE.out HEW)
  clear HEW hldL
  have HSx := hide (HS.out p2 _ hs2)
  obtain ⟨C2, hC2⟩ : ∃ C, ctL c p2 = C := ⟨_, rfl⟩
  rw [hC2] at HSx ⊢
  clear hC2 hs2 HS
  go_wp2_with fail
  refine HSx.out.mono ?_
  rintro e w3 ⟨rfl, HEW⟩
  replace HBk := hide (Blk.ext HBk.out HEW (Blk.lt HBk.out HA0.out))
  replace HE := hide (Ext.trans HE.out HEW)
  clear HEW HSx
  have hldL := HlA.out w3 HBk.out
  go_wp2_with (refine wpList_ld (by first | rfl | simp [Region.wanted, yielded]) 39 _ rfl _ rfl _ hldL ?_)
  refine (HT.out _ HE.out).mono ?_
  rintro e w4 ⟨p4, rfl, hs4, HEW⟩
  replace HBk := hide (Blk.ext HBk.out HEW (Blk.lt HBk.out HA0.out))
  replace HE := hide (Ext.trans HE.out HEW)
  clear HEW hldL
  have HIx := hide (HI.out p4)
  have HQx := hide (fun p' => HQ.out p4 p')
  have hone : ∀ v ∈ ctL c p4, v.oneCell' = true := by simp [ctL, kyL, exL, Value.oneCell']
  have hlC : (ctL c p4).length = 34 := rfl
  obtain ⟨C, hC⟩ : ∃ C, ctL c p4 = C := ⟨_, rfl⟩
  rw [hC] at HIx HQx hone hlC ⊢
  clear hC HI HQ
  have hst := run_st (P := Tryz.prog) 50 C (w4.alloc (.cells #[.int .i64 0, .slice none 0 0, .slice none 0 0, .int .i64 0, .int .i64 0, .int .i64 0, .slice none 0 0, .int .i64 0, .int .i64 0, .int .i64 0, .int .i64 0, .int .i64 0, .int .i64 0, .int .i64 0, .int .i64 0, .int .i64 0, .bool false, .int .i64 0, .int .i64 0, .int .i64 0, .int .i64 0, .int .i64 0, .int .i64 0, .int .i64 0, .int .i64 0, .bool false, .int .i64 0, .int .i64 0, .slice none 0 0, .slice none 0 0, .slice none 0 0, .slice none 0 0, .slice none 0 0, .slice none 0 0] 50)) (by rw [hlC]; kernel_rfl) hone w4.heap.size 0 (Blk.st (Blk.alloc w4 [.int .i64 0, .slice none 0 0, .slice none 0 0, .int .i64 0, .int .i64 0, .int .i64 0, .slice none 0 0, .int .i64 0, .int .i64 0, .int .i64 0, .int .i64 0, .int .i64 0, .int .i64 0, .int .i64 0, .int .i64 0, .int .i64 0, .bool false, .int .i64 0, .int .i64 0, .int .i64 0, .int .i64 0, .int .i64 0, .int .i64 0, .int .i64 0, .int .i64 0, .bool false, .int .i64 0, .int .i64 0, .slice none 0 0, .slice none 0 0, .slice none 0 0, .slice none 0 0, .slice none 0 0, .slice none 0 0] 50) 0 _ (by rw [hlC]; decide))
  have hB5 := Blk.putAll1 (vs := C) (Blk.alloc w4 [.int .i64 0, .slice none 0 0, .slice none 0 0, .int .i64 0, .int .i64 0, .int .i64 0, .slice none 0 0, .int .i64 0, .int .i64 0, .int .i64 0, .int .i64 0, .int .i64 0, .int .i64 0, .int .i64 0, .int .i64 0, .int .i64 0, .bool false, .int .i64 0, .int .i64 0, .int .i64 0, .int .i64 0, .int .i64 0, .int .i64 0, .int .i64 0, .int .i64 0, .bool false, .int .i64 0, .int .i64 0, .slice none 0 0, .slice none 0 0, .slice none 0 0, .slice none 0 0, .slice none 0 0, .slice none 0 0] 50) (by rw [hlC]; rfl)
  have HEW : Ext w4 (putL w4.heap.size 0 C (w4.alloc (.cells #[.int .i64 0, .slice none 0 0, .slice none 0 0, .int .i64 0, .int .i64 0, .int .i64 0, .slice none 0 0, .int .i64 0, .int .i64 0, .int .i64 0, .int .i64 0, .int .i64 0, .int .i64 0, .int .i64 0, .int .i64 0, .int .i64 0, .bool false, .int .i64 0, .int .i64 0, .int .i64 0, .int .i64 0, .int .i64 0, .int .i64 0, .int .i64 0, .int .i64 0, .bool false, .int .i64 0, .int .i64 0, .slice none 0 0, .slice none 0 0, .slice none 0 0, .slice none 0 0, .slice none 0 0, .slice none 0 0] 50))) := below_putL (Nat.le_refl _) _ 0 _ (Ext.alloc _ _)
  obtain ⟨V5, hV5⟩ : ∃ V5, putL w4.heap.size 0 C (w4.alloc (.cells #[.int .i64 0, .slice none 0 0, .slice none 0 0, .int .i64 0, .int .i64 0, .int .i64 0, .slice none 0 0, .int .i64 0, .int .i64 0, .int .i64 0, .int .i64 0, .int .i64 0, .int .i64 0, .int .i64 0, .int .i64 0, .int .i64 0, .bool false, .int .i64 0, .int .i64 0, .int .i64 0, .int .i64 0, .int .i64 0, .int .i64 0, .int .i64 0, .int .i64 0, .bool false, .int .i64 0, .int .i64 0, .slice none 0 0, .slice none 0 0, .slice none 0 0, .slice none 0 0, .slice none 0 0, .slice none 0 0] 50)) = V5 := ⟨_, rfl⟩
  rw [hV5] at hst hB5 HEW
  replace HBk := hide (Blk.ext HBk.out HEW (Blk.lt HBk.out HA0.out))
  replace HE := hide (Ext.trans HE.out HEW)
  have HB5 := hide hB5
  have HC0 : Hid (0 < C.length) := hide (by rw [hlC]; decide)
  have hs5 := hs4.ext HEW
  have ldC : ∀ (W : World), Blk W w4.heap.size C → (loadVar 50 ⟨w4.heap.size, 0, none⟩).run Tryz.prog W = .ok (.agg C.toArray) W := fun W hB => run_ld (P := Tryz.prog) 50 C W (by rw [hlC]; kernel_rfl) (by kernel_rfl) w4.heap.size 0 (Blk.ld hB 0 _ (fun j v h => by rw [Nat.zero_add]; exact h))
  have HlC := hide ldC
  have hldK := HlC.out V5 HB5.out
  clear HEW hB5 hs4 hV5 ldC hone hlC hlA
  go_wp2_with (first | (refine wpList_st (by first | rfl | simp [Region.wanted, yielded]) 50 _ _ rfl _ rfl _ rfl _ hst ?_) | (refine wpList_ld (by first | rfl | simp [Region.wanted, yielded]) 50 _ rfl _ rfl _ hldK ?_))
  refine (HIx.out _ hs5).mono ?_
  rintro e w6 ⟨rfl, HEW⟩
  replace HBk := hide (Blk.ext HBk.out HEW (Blk.lt HBk.out HA0.out))
  replace HE := hide (Ext.trans HE.out HEW)
  replace HB5 := hide (Blk.ext HB5.out HEW (Blk.lt HB5.out HC0.out))
  replace hs5 := hs5.ext HEW
  clear HEW hldK hst HIx
  have hne : (ok != ok) = false := by simp
  have ltC : w4.heap.size < w6.heap.size := Blk.lt HB5.out HC0.out
  have ltA : w.heap.size < w6.heap.size := Blk.lt HBk.out HA0.out
  have HltC := hide ltC
  have HltA := hide ltA
  clear ltC ltA
  go_wp2_with fail
  refine anyK_begin (fun _ => False) 5 rfl (by kernel_rfl) ?_
  refine anyK_take 0 2 3 rfl (by decide) (by kernel_rfl) (fun _ _ d _ _ h => by cases d <;> exact h) ?_
  refine head_ld (by first | rfl | simp [Region.wanted, yielded]) rfl rfl (fun q => HlC.out _ (blk_reC HB5.out HltC.out q)) ?_
  refine head_ld (by first | rfl | simp [Region.wanted, yielded]) rfl rfl (fun q => HlA.out _ (blk_reC HBk.out HltA.out q)) ?_
  refine headC_nil ?_
  refine anyK_one 2 (by kernel_rfl) ?_
  refine stepK_run rfl ?_
  intro w7 h7 K hKK
  go_simp
  refine (HT.out _ (Ext.trans HE.out h7)).mono ?_
  rintro e w8 ⟨p8, rfl, hs8, hE8⟩
  have HX := hide (Ext.trans h7 hE8)
  have hs9 := hs5.ext HX.out
  have HQy := hide (HQx.out p8)
  obtain ⟨D, hD⟩ : ∃ C, ctL c p8 = C := ⟨_, rfl⟩
  rw [hD] at HQy ⊢
  clear hD HQx
  go_simp
  refine hKK _ _ (Grw.of_ext HX.out) ?_
  clear hKK K h7 hE8
  refine anyK_one 3 (by kernel_rfl) ?_
  refine stepK_run rfl ?_
  intro w9 h9 K hKK
  go_simp
  refine (HQy.out _ (hs9.ext h9) (hs8.ext h9)).mono ?_
  rintro e w10 ⟨rfl, hE10⟩
  replace HX := hide (Ext.trans HX.out (Ext.trans h9 hE10))
  go_simp
  refine hKK _ _ (Grw.of_ext HX.out) ?_
  clear hKK K h9 hE10 hs8 hs9
  refine anyK_one 4 (by kernel_rfl) ?_
  refine stepK_run rfl ?_
  intro w11 h11 K hKK
  go_simp
  refine hKK _ _ (Grw.of_ext (Ext.trans HX.out h11)) ?_
  clear hKK K
  refine anyK_done (by kernel_rfl) ?_ 0
  intro w12 h12
  have HY := hide (Ext.trans HE.out (Ext.trans HX.out (Ext.trans h11 h12)))
  clear h11 h12 HX HE
  go_wp2
  go_ret
  exact ⟨rfl, HY.out⟩

theorem lawCertOk_any (X : CtM) (w : World) (hI : CertIn w X) :
    Calls Tryz.prog 3 #[.agg (ctL X.c X.m).toArray] w fun e w' => e = .returned (.bool true) ∧ Ext w w' := by
  obtain ⟨ok, hok⟩ := tell (KeyP X.c.k)
  exact lawCertOk_at X.c X.m (ctB X.c ok) w (hide fun W hW => szCert_any X.c X.m 1048576 W (hI.ok.ext hW) hI.sm (by omega) (by omega))
    (hide fun hS W hW => (toCert_any X.c X.m W (hI.ok.ext hW) hS).mono fun e w' ⟨p, h1, h2, h3⟩ => ⟨p, h1, h2 _ (Kp.refl _ _), h3⟩)
    (hide fun hS p W h => specCertOk_at X.c p ok hok W h hS (hI.ky hS.k)) (hide fun hS p W h => implCertOk_at X.c p ok hok W h hS (hI.ky hS.k))
    (hide fun hS p p2 W h h2 => eqCert_same X.c p p2 W h h2 hS)
end

section
set_option linter.unusedVariables false
set_option linter.unusedSimpArgs false
set_option maxRecDepth 100000

open Go.RowKit

theorem nameB_turn (n m : Nat) (f g : Nat → ByteArray) : nameB n m f g = nameB m n g f := by
  unfold nameB samN
  by_cases h : n = m
  · subst h
    congr 1
    by_cases k : ∀ i, i < n → plainS (f i) = plainS (g i)
    · rw [decide_eq_true k, decide_eq_true (fun i hi => (k i hi).symm)]
    · rw [decide_eq_false k, decide_eq_false (fun k2 => k (fun i hi => (k2 i hi).symm))]
  · rw [decide_eq_false h, Bool.false_and, decide_eq_false (show ¬ m = n from fun e => h e.symm), Bool.false_and]

/-- Whether c is the one that d names as its issuer. -/
def namB (c d : Ct) : Bool := nameB c.ns d.ni c.fs d.fi

set_option maxHeartbeats 3200000 in
theorem isNamedBy_at (c d : Ct) (m m2 : CtPl) (w : World) (hI : CtIn w c m) (hJ : CtIn w d m2) (hS : CtSm c 1048576) (hT : CtSm d 1048576) :
    Calls Tryz.prog 131 #[.agg (ctL c m).toArray, .agg (ctL d m2).toArray] w fun e w' => e = .returned (.bool (namB c d)) ∧ Ext w w' := by
  obtain ⟨V, hV⟩ : ∃ V, (w.alloc (.cells (ctL c m).toArray 50)).alloc (.cells (ctL d m2).toArray 50) = V := ⟨_, rfl⟩
  obtain ⟨B0, B1, hE, -⟩ := box2 w (ctL c m) (ctL d m2) 50 50 (w1 := V) (by rw [← hV]; exact Ext.refl _)
  have c2 := (B0 2 _ rfl).1
  have d1 := (B1 1 _ rfl).1
  have HE := hide hE
  have HX := hide (implNameSame_any m.s.ad m.s.b m.s.off c.ns m.s.cap c.fs m2.i.ad m2.i.b m2.i.off d.ni m2.i.cap d.fi V (hI.s.of_all hE) (hJ.i.of_all hE) hS.s hT.i hS.ss hT.is)
  have HV : Hid (namB c d = nameB c.ns d.ni c.fs d.fi) := rfl
  rw [HV.out]
  generalize nameB c.ns d.ni c.fs d.fi = R at *
  clear HV B0 B1 hE hI hJ hS hT
  go_enter Tryz.func131, Tryz.ntmps131
  go_wp2_with fail
  refine HX.out.mono ?_
  rintro e w1 ⟨rfl, hE1⟩
  have HE1 := hide hE1
  clear hE1
  go_wp2
  go_ret
  exact ⟨rfl, Ext.trans HE.out HE1.out⟩

set_option maxHeartbeats 3200000 in
theorem isOwn_at (c : Ct) (m : CtPl) (w : World) (hI : CtIn w c m) (hS : CtSm c 1048576) :
    Calls Tryz.prog 61 #[.agg (ctL c m).toArray] w fun e w' => e = .returned (.bool (namB c c)) ∧ Ext w w' := by
  obtain ⟨V, hV⟩ : ∃ V, w.alloc (.cells (ctL c m).toArray 50) = V := ⟨_, rfl⟩
  obtain ⟨B0, hE, -⟩ := box1 w (ctL c m) 50 (w1 := V) (by rw [← hV]; exact Ext.refl _)
  have HE := hide hE
  have hld := run_ld (P := Tryz.prog) 50 (ctL c m) V (by kernel_rfl) (by kernel_rfl) w.heap.size 0 (Blk.ld B0 0 _ (fun j v h => by rw [Nat.zero_add]; exact h))
  have HX := hide (isNamedBy_at c c m m V (hI.ext hE) (hI.ext hE) hS hS)
  generalize namB c c = R at *
  generalize ctL c m = L at *
  clear B0 hE hI hS
  go_enter Tryz.func61, Tryz.ntmps61
  go_wp2_with (refine wpList_ld (by first | rfl | simp [Region.wanted, yielded]) 50 _ rfl _ rfl _ hld ?_)
  refine HX.out.mono ?_
  rintro e w1 ⟨rfl, hE1⟩
  have HE1 := hide hE1
  clear hE1
  go_wp2
  go_ret
  exact ⟨rfl, Ext.trans HE.out HE1.out⟩

set_option maxHeartbeats 3200000 in
theorem l11Own_at (c : Ct) (m : CtPl) (w : World) (hI : CtIn w c m) (hS : CtSm c 1048576) :
    Calls Tryz.prog 60 #[.agg (ctL c m).toArray] w fun e w' => e = .returned (.bool (namB c c)) ∧ Ext w w' := by
  obtain ⟨V, hV⟩ : ∃ V, w.alloc (.cells (ctL c m).toArray 50) = V := ⟨_, rfl⟩
  obtain ⟨B0, hE, -⟩ := box1 w (ctL c m) 50 (w1 := V) (by rw [← hV]; exact Ext.refl _)
  have c1 := (B0 1 _ rfl).1
  have c2 := (B0 2 _ rfl).1
  have HE := hide hE
  have HX := hide (specNameSame_any m.i.ad m.i.b m.i.off c.ni m.i.cap c.fi m.s.ad m.s.b m.s.off c.ns m.s.cap c.fs V (hI.i.of_all hE) (hI.s.of_all hE) hS.i hS.s hS.is hS.ss)
  have HV : Hid (namB c c = nameB c.ni c.ns c.fi c.fs) := hide (nameB_turn _ _ _ _)
  rw [HV.out]
  generalize nameB c.ni c.ns c.fi c.fs = R at *
  clear HV B0 hE hI hS
  go_enter Tryz.func60, Tryz.ntmps60
  go_wp2_with fail
  refine HX.out.mono ?_
  rintro e w1 ⟨rfl, hE1⟩
  have HE1 := hide hE1
  clear hE1
  go_wp2
  go_ret
  exact ⟨rfl, Ext.trans HE.out HE1.out⟩

def owB (c : Ct) (ok : Bool) : Bool := ctB c ok && namB c c

set_option maxHeartbeats 3200000 in
theorem implOwnIssuer_at (c : Ct) (m : CtPl) (ok : Bool) (hk : ok = true ↔ KeyP c.k) (w : World) (hI : CtIn w c m) (hS : CtSm c 1048576) (hK : KyIn c.k) :
    Calls Tryz.prog 22 #[.agg (ctL c m).toArray] w fun e w' => e = .returned (.bool (owB c ok)) ∧ Ext w w' := by
  obtain ⟨V, hV⟩ : ∃ V, w.alloc (.cells (ctL c m).toArray 50) = V := ⟨_, rfl⟩
  obtain ⟨B0, hE, -⟩ := box1 w (ctL c m) 50 (w1 := V) (by rw [← hV]; exact Ext.refl _)
  have HE := hide hE
  have HB := hide B0
  have HLd : Hid (∀ W, Blk W w.heap.size (ctL c m) → (loadVar 50 ⟨w.heap.size, 0, none⟩).run Tryz.prog W = .ok (.agg (ctL c m).toArray) W) := fun W hB => run_ld (P := Tryz.prog) 50 (ctL c m) W (by kernel_rfl) (by kernel_rfl) w.heap.size 0 (Blk.ld hB 0 _ (fun j v h => by rw [Nat.zero_add]; exact h))
  have H1 := hide (implCertOk_at c m ok hk V (hI.ext hE) hS hK)
  have H2 : Hid (∀ W, Ext V W → Calls Tryz.prog 61 #[.agg (ctL c m).toArray] W fun e w' => e = .returned (.bool (namB c c)) ∧ Ext W w') := fun W hW => isOwn_at c m W (hI.ext (Ext.trans hE hW)) hS
  have HV : Hid (owB c ok = (ctB c ok && namB c c)) := rfl
  rw [HV.out]
  have HL : Hid (0 < (ctL c m).length) := hide (by simp [ctL])
  have hld := HLd.out V HB.out
  generalize namB c c = q2 at *
  generalize ctB c ok = q1 at *
  generalize ctL c m = L at *
  clear HV B0 hE hI hS hK hk
  go_enter Tryz.func22, Tryz.ntmps22
  go_wp2_with (refine wpList_ld (by first | rfl | simp [Region.wanted, yielded]) 50 _ rfl _ rfl _ hld ?_)
  refine H1.out.mono ?_
  rintro e w1 ⟨rfl, hE1⟩
  replace HB := hide (Blk.ext HB.out hE1 (Blk.lt HB.out HL.out))
  have HE1 := hide hE1
  clear hE1 hld
  cases q1
  · go_wp2
    go_ret
    exact ⟨rfl, Ext.trans HE.out HE1.out⟩
  · have hld := HLd.out w1 HB.out
    go_wp2_with (refine wpList_ld (by first | rfl | simp [Region.wanted, yielded]) 50 _ rfl _ rfl _ hld ?_)
    refine (H2.out _ HE1.out).mono ?_
    rintro e w2 ⟨rfl, hE2⟩
    have HE2 := hide hE2
    clear hE2 hld
    go_wp2
    go_ret
    exact ⟨rfl, Ext.trans HE.out (Ext.trans HE1.out HE2.out)⟩

set_option maxHeartbeats 3200000 in
theorem specOwnIssuer_at (c : Ct) (m : CtPl) (ok : Bool) (hk : ok = true ↔ KeyP c.k) (w : World) (hI : CtIn w c m) (hS : CtSm c 1048576) (hK : KyIn c.k) :
    Calls Tryz.prog 21 #[.agg (ctL c m).toArray] w fun e w' => e = .returned (.bool (owB c ok)) ∧ Ext w w' := by
  obtain ⟨V, hV⟩ : ∃ V, w.alloc (.cells (ctL c m).toArray 50) = V := ⟨_, rfl⟩
  obtain ⟨B0, hE, -⟩ := box1 w (ctL c m) 50 (w1 := V) (by rw [← hV]; exact Ext.refl _)
  have HE := hide hE
  have HB := hide B0
  have HLd : Hid (∀ W, Blk W w.heap.size (ctL c m) → (loadVar 50 ⟨w.heap.size, 0, none⟩).run Tryz.prog W = .ok (.agg (ctL c m).toArray) W) := fun W hB => run_ld (P := Tryz.prog) 50 (ctL c m) W (by kernel_rfl) (by kernel_rfl) w.heap.size 0 (Blk.ld hB 0 _ (fun j v h => by rw [Nat.zero_add]; exact h))
  have H1 := hide (specCertOk_at c m ok hk V (hI.ext hE) hS hK)
  have H2 : Hid (∀ W, Ext V W → Calls Tryz.prog 60 #[.agg (ctL c m).toArray] W fun e w' => e = .returned (.bool (namB c c)) ∧ Ext W w') := fun W hW => l11Own_at c m W (hI.ext (Ext.trans hE hW)) hS
  have HV : Hid (owB c ok = (ctB c ok && namB c c)) := rfl
  rw [HV.out]
  have HL : Hid (0 < (ctL c m).length) := hide (by simp [ctL])
  have hld := HLd.out V HB.out
  generalize namB c c = q2 at *
  generalize ctB c ok = q1 at *
  generalize ctL c m = L at *
  clear HV B0 hE hI hS hK hk
  go_enter Tryz.func21, Tryz.ntmps21
  go_wp2_with (refine wpList_ld (by first | rfl | simp [Region.wanted, yielded]) 50 _ rfl _ rfl _ hld ?_)
  refine H1.out.mono ?_
  rintro e w1 ⟨rfl, hE1⟩
  replace HB := hide (Blk.ext HB.out hE1 (Blk.lt HB.out HL.out))
  have HE1 := hide hE1
  clear hE1 hld
  cases q1
  · go_wp2
    go_ret
    exact ⟨rfl, Ext.trans HE.out HE1.out⟩
  · have hld := HLd.out w1 HB.out
    go_wp2_with (refine wpList_ld (by first | rfl | simp [Region.wanted, yielded]) 50 _ rfl _ rfl _ hld ?_)
    refine (H2.out _ HE1.out).mono ?_
    rintro e w2 ⟨rfl, hE2⟩
    have HE2 := hide hE2
    clear hE2 hld
    go_wp2
    go_ret
    exact ⟨rfl, Ext.trans HE.out (Ext.trans HE1.out HE2.out)⟩
end

end Go.Proofs.YtollgoadgjlccaaGreatDoor
