/- A twisted curve and a pair among a law's arguments, read as data: opened and shut. -/
import Derived.Test.YtcfpmillbdkpcaaDoorChecked
import Derived.WalkKit
import Derived.ProofKit
import Derived.OpenShut
import Derived.Lib.SmallJoins
namespace Go.Proofs.YtcfpmillbdkpcaaDoor
set_option linter.unusedVariables false
open Go.RowKit Go.ChangeShapes Go.WideShapes Go.ChangeAt

theorem cellsEd : Tryd.prog.cellsOf 62 = 5 := by kernel_rfl
theorem cellsPair : Tryd.prog.cellsOf 63 = 2 := by kernel_rfl
theorem cellsIntE : Tryd.prog.cellsOf 3 = 1 := by kernel_rfl

theorem array5 {α : Type} {cs : Array α} (h : cs.size = 5) : ∃ c0 c1 c2 c3 c4, cs = #[c0, c1, c2, c3, c4] := by
  obtain ⟨l⟩ := cs
  match l, h with
  | [c0, c1, c2, c3, c4], _ => exact ⟨c0, c1, c2, c3, c4, rfl⟩

theorem array2 {α : Type} {cs : Array α} (h : cs.size = 2) : ∃ c0 c1, cs = #[c0, c1] := by
  obtain ⟨l⟩ := cs
  match l, h with
  | [c0, c1], _ => exact ⟨c0, c1, rfl⟩

theorem list5 {α : Type} {l : List α} (h : l.length = 5) : ∃ c0 c1 c2 c3 c4, l = [c0, c1, c2, c3, c4] := by
  match l, h with
  | [c0, c1, c2, c3, c4], _ => exact ⟨c0, c1, c2, c3, c4, rfl⟩

theorem list2 {α : Type} {l : List α} (h : l.length = 2) : ∃ c0 c1, l = [c0, c1] := by
  match l, h with
  | [c0, c1], _ => exact ⟨c0, c1, rfl⟩

section
variable {H : Type} {enc : TypeId × Value → H} {w : World} {base : Nat} {spare : Nat → Bool} {held : Bool}

set_option maxRecDepth 100000 in
theorem open_ed {r : Reach} {b0 : Nat} {v : Value} {d : DataW H} {p : List MemPlace} (hv : Value.okWide Tryd.prog w r b0 62 v) (h : DataW.Trod enc Tryd.prog w base spare held 62 v d p) :
    ∃ P D L bx cy : Int, v = .agg #[.int .i64 P, .int .i64 D, .int .i64 L, .int .i64 bx, .int .i64 cy] ∧ d = .agg [.lit (.int .i64 P), .lit (.int .i64 D), .lit (.int .i64 L), .lit (.int .i64 bx), .lit (.int .i64 cy)] ∧ p = [] ∧ (Lit.int .i64 P).wf = true ∧ (Lit.int .i64 D).wf = true ∧ (Lit.int .i64 L).wf = true ∧ (Lit.int .i64 bx).wf = true ∧ (Lit.int .i64 cy).wf = true := by
  obtain ⟨cs, rfl, hsz⟩ := okWide_struct Tryd.underlying62 hv
  obtain ⟨c0, c1, c2, c3, c4, rfl⟩ := array5 (hsz.trans cellsEd)
  obtain ⟨fuel, hf⟩ := h
  obtain ⟨xs, n, _, hx, _, hlen, hel⟩ := DataW.trod_struct Tryd.underlying62 hf
  obtain ⟨y0, y1, y2, y3, y4, rfl⟩ := list5 hlen
  have h0 := hel 0 _ rfl
  have h1 := hel 1 _ rfl
  have h2 := hel 2 _ rfl
  have h3 := hel 3 _ rfl
  have h4 := hel 4 _ rfl
  simp only [Value.cells] at h0 h1 h2 h3 h4
  obtain ⟨a0, e0, z0, w0⟩ := DataW.trod_int Tryd.underlying3 h0
  obtain ⟨a1, e1, z1, w1⟩ := DataW.trod_int Tryd.underlying3 h1
  obtain ⟨a2, e2, z2, w2⟩ := DataW.trod_int Tryd.underlying3 h2
  obtain ⟨a3, e3, z3, w3⟩ := DataW.trod_int Tryd.underlying3 h3
  obtain ⟨a4, e4, z4, w4⟩ := DataW.trod_int Tryd.underlying3 h4
  simp [cellsIntE] at e0 e1 e2 e3 e4
  subst e0 e1 e2 e3 e4 z0 z1 z2 z3 z4
  simp at hx
  exact ⟨a0, a1, a2, a3, a4, rfl, hx.1, hx.2, w0, w1, w2, w3, w4⟩

set_option maxRecDepth 100000 in
theorem shut_ed {P D L bx cy : Int} (w0 : (Lit.int .i64 P).wf = true) (w1 : (Lit.int .i64 D).wf = true) (w2 : (Lit.int .i64 L).wf = true) (w3 : (Lit.int .i64 bx).wf = true) (w4 : (Lit.int .i64 cy).wf = true) :
    DataW.Trod enc Tryd.prog w base spare held 62 (.agg #[.int .i64 P, .int .i64 D, .int .i64 L, .int .i64 bx, .int .i64 cy]) (.agg [.lit (.int .i64 P), .lit (.int .i64 D), .lit (.int .i64 L), .lit (.int .i64 bx), .lit (.int .i64 cy)]) [] := by
  have h := trod_struct_mk (enc := enc) (w := w) (base := base) (spare := spare) (held := held) (n := 1) (cs := [.int .i64 P, .int .i64 D, .int .i64 L, .int .i64 bx, .int .i64 cy]) (xs := [(.lit (.int .i64 P), []), (.lit (.int .i64 D), []), (.lit (.int .i64 L), []), (.lit (.int .i64 bx), []), (.lit (.int .i64 cy), [])]) Tryd.underlying62 (by simp [cellsEd])
    (by simp [DataW.trod, Tryd.underlying3, cellsIntE, w0, w1, w2, w3, w4])
  exact ⟨_, by simpa [Value.cells] using h⟩

set_option maxRecDepth 100000 in
theorem open_pair {r : Reach} {b0 : Nat} {v : Value} {d : DataW H} {p : List MemPlace} (hv : Value.okWide Tryd.prog w r b0 63 v) (h : DataW.Trod enc Tryd.prog w base spare held 63 v d p) :
    ∃ x y : Int, v = .agg #[.int .i64 x, .int .i64 y] ∧ d = .agg [.lit (.int .i64 x), .lit (.int .i64 y)] ∧ p = [] ∧ (Lit.int .i64 x).wf = true ∧ (Lit.int .i64 y).wf = true := by
  obtain ⟨cs, rfl, hsz⟩ := okWide_struct Tryd.underlying63 hv
  obtain ⟨c0, c1, rfl⟩ := array2 (hsz.trans cellsPair)
  obtain ⟨fuel, hf⟩ := h
  obtain ⟨xs, n, _, hx, _, hlen, hel⟩ := DataW.trod_struct Tryd.underlying63 hf
  obtain ⟨y0, y1, rfl⟩ := list2 hlen
  have h0 := hel 0 _ rfl
  have h1 := hel 1 _ rfl
  simp only [Value.cells] at h0 h1
  obtain ⟨a0, e0, z0, w0⟩ := DataW.trod_int Tryd.underlying3 h0
  obtain ⟨a1, e1, z1, w1⟩ := DataW.trod_int Tryd.underlying3 h1
  simp [cellsIntE] at e0 e1
  subst e0 e1 z0 z1
  simp at hx
  exact ⟨a0, a1, rfl, hx.1, hx.2, w0, w1⟩

set_option maxRecDepth 100000 in
theorem shut_pair {x y : Int} (w0 : (Lit.int .i64 x).wf = true) (w1 : (Lit.int .i64 y).wf = true) :
    DataW.Trod enc Tryd.prog w base spare held 63 (.agg #[.int .i64 x, .int .i64 y]) (.agg [.lit (.int .i64 x), .lit (.int .i64 y)]) [] := by
  have h := trod_struct_mk (enc := enc) (w := w) (base := base) (spare := spare) (held := held) (n := 1) (cs := [.int .i64 x, .int .i64 y]) (xs := [(.lit (.int .i64 x), []), (.lit (.int .i64 y), [])]) Tryd.underlying63 (by simp [cellsPair])
    (by simp [DataW.trod, Tryd.underlying3, cellsIntE, w0, w1])
  exact ⟨_, by simpa [Value.cells] using h⟩

end

end Go.Proofs.YtcfpmillbdkpcaaDoor
