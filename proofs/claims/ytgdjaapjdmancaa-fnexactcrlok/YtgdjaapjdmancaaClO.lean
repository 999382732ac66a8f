/- A list of what is void that came in, opened (written by mkcrl.py). -/
import Derived.Test.YtgdjaapjdmancaaCrl
import Derived.Test.YtgdjaapjdmancaaByO
namespace Go.Proofs.Ytgdjaapjdmancaa
set_option linter.unusedVariables false
set_option linter.unusedSimpArgs false
set_option maxRecDepth 100000
open Go.RowKit
open Go.ChangeShapes Go.WideShapes Go.ChangeAt

theorem kl : Try.prog.cellsOf 26 = 6 ∧ Try.prog.cellsOf 3 = 1 ∧ Try.prog.cellsOf 22 = 1 ∧ Try.prog.cellsOf 24 = 1 ∧ Try.prog.cellsOf 23 = 1 := by
  refine ⟨?_, ?_, ?_, ?_, ?_⟩ <;> kernel_rfl

theorem listL6 {α : Type} {l : List α} (h : l.length = 6) : ∃ a b c d e f, l = [a, b, c, d, e, f] := by
  match l, h with
  | [a, b, c, d, e, f], _ => exact ⟨a, b, c, d, e, f, rfl⟩

section
variable {H : Type} {enc : TypeId × Value → H} {w : World} {base : Nat} {held : Bool}

/-- A list of what is void in memory. -/
structure ClM where
  c : Cl
  m : ClPl
structure CrlIn (w : World) (X : ClM) : Prop where
  ok : ClIn w X.c X.m
  sm : ClSm X.c 9223372036854775807

set_option maxHeartbeats 3200000 in
theorem open_crlC {fuel : Nat} {cs : List Value} {y : DataW H × List MemPlace} (h : DataW.trod enc Try.prog w base (fun _ => true) held fuel 26 cs = some y) : ∃ X : ClM, cs = clL X.c X.m ∧ CrlIn w X := by
  obtain ⟨k1, k4, k5, k6, k7⟩ := kl
  obtain ⟨xs, n, _, hx, hcl, hlen, hel⟩ := DataW.trod_struct Try.underlying26 h
  rw [k1] at hcl
  obtain ⟨c0, c1, c2, c3, c4, c5, rfl⟩ := listL6 hcl
  obtain ⟨y0, y1, y2, y3, y4, y5, rfl⟩ := listL6 hlen
  have f0 := hel 0 _ rfl
  have f1 := hel 1 _ rfl
  have f2 := hel 2 _ rfl
  have f3 := hel 3 _ rfl
  have f4 := hel 4 _ rfl
  have f5 := hel 5 _ rfl
  simp [k4, k5, k6, k7] at f0 f1 f2 f3 f4 f5
  obtain ⟨p0, n0, s0, g0, i0⟩ := open_strsP f0
  obtain ⟨u1, g1, _, w1⟩ := DataW.trod_int Try.underlying3 f1
  obtain ⟨u2, g2, _, w2⟩ := DataW.trod_int Try.underlying3 f2
  obtain ⟨u3, g3, _, w3⟩ := DataW.trod_int Try.underlying3 f3
  obtain ⟨p4, n4, s4, g4, i4, j4⟩ := open_intsC f4
  obtain ⟨p5, n5, s5, g5, i5, j5⟩ := open_bysC f5
  simp at g0 g1 g2 g3 g4 g5
  subst g0 g1 g2 g3 g4 g5
  exact ⟨⟨⟨n0, s0, u1, u2, u3, n4, s4, n5, s5⟩, ⟨p0, p4, p5⟩⟩, rfl, ⟨i0.seg, i4, i5⟩, ⟨i0.small, i0.each, j4, j5⟩⟩

theorem open_crl {r : Reach} {b0 : Nat} {v : Value} {d : DataW H} {p : List MemPlace} (hv : Value.okWide Try.prog w r b0 26 v) (h : DataW.Trod enc Try.prog w base (fun _ => true) held 26 v d p) :
    ∃ X : ClM, v = .agg (clL X.c X.m).toArray ∧ CrlIn w X := by
  obtain ⟨cs, rfl, hsz⟩ := okWide_struct Try.underlying26 hv
  obtain ⟨fuel, hf⟩ := h
  obtain ⟨X, hm, hI⟩ := open_crlC hf
  refine ⟨X, ?_, hI⟩
  simp only [Value.cells] at hm
  rw [← hm]

end

end Go.Proofs.Ytgdjaapjdmancaa
