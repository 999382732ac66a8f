/- A curve and a point among a law's arguments, read as data: opened and shut. -/
import Derived.Test.YtcfpmillbdkpcaaDoorChecked
import Derived.WalkKit
import Derived.ProofKit
import Derived.OpenShut
import Derived.Lib.SmallJoins
namespace Go.Proofs.YtcfpmillbdkpcaaDoor
set_option linter.unusedVariables false
open Go.RowKit Go.ChangeShapes Go.WideShapes Go.ChangeAt

theorem cellsCurve : Tryd.prog.cellsOf 53 = 6 := by kernel_rfl
theorem cellsPoint : Tryd.prog.cellsOf 54 = 3 := by kernel_rfl
theorem cellsInt : Tryd.prog.cellsOf 3 = 1 := by kernel_rfl
theorem cellsBool : Tryd.prog.cellsOf 4 = 1 := by kernel_rfl

theorem array6 {α : Type} {cs : Array α} (h : cs.size = 6) : ∃ c0 c1 c2 c3 c4 c5, cs = #[c0, c1, c2, c3, c4, c5] := by
  obtain ⟨l⟩ := cs
  match l, h with
  | [c0, c1, c2, c3, c4, c5], _ => exact ⟨c0, c1, c2, c3, c4, c5, rfl⟩

theorem list6 {α : Type} {l : List α} (h : l.length = 6) : ∃ c0 c1 c2 c3 c4 c5, l = [c0, c1, c2, c3, c4, c5] := by
  match l, h with
  | [c0, c1, c2, c3, c4, c5], _ => exact ⟨c0, c1, c2, c3, c4, c5, rfl⟩

theorem list3 {α : Type} {l : List α} (h : l.length = 3) : ∃ c0 c1 c2, l = [c0, c1, c2] := by
  match l, h with
  | [c0, c1, c2], _ => exact ⟨c0, c1, c2, rfl⟩

section
variable {H : Type} {enc : TypeId × Value → H} {w : World} {base : Nat} {spare : Nat → Bool} {held : Bool}

set_option maxRecDepth 100000 in
theorem open_curve {r : Reach} {b0 : Nat} {v : Value} {d : DataW H} {p : List MemPlace} (hv : Value.okWide Tryd.prog w r b0 53 v) (h : DataW.Trod enc Tryd.prog w base spare held 53 v d p) :
    ∃ P A B N gx gy : Int, v = .agg #[.int .i64 P, .int .i64 A, .int .i64 B, .int .i64 N, .int .i64 gx, .int .i64 gy] ∧ d = .agg [.lit (.int .i64 P), .lit (.int .i64 A), .lit (.int .i64 B), .lit (.int .i64 N), .lit (.int .i64 gx), .lit (.int .i64 gy)] ∧ p = [] ∧
      (Lit.int .i64 P).wf = true ∧ (Lit.int .i64 A).wf = true ∧ (Lit.int .i64 B).wf = true ∧ (Lit.int .i64 N).wf = true ∧ (Lit.int .i64 gx).wf = true ∧ (Lit.int .i64 gy).wf = true := by
  obtain ⟨cs, rfl, hsz⟩ := okWide_struct Tryd.underlying53 hv
  obtain ⟨c0, c1, c2, c3, c4, c5, rfl⟩ := array6 (hsz.trans cellsCurve)
  obtain ⟨fuel, hf⟩ := h
  obtain ⟨xs, n, _, hx, _, hlen, hel⟩ := DataW.trod_struct Tryd.underlying53 hf
  obtain ⟨y0, y1, y2, y3, y4, y5, rfl⟩ := list6 hlen
  have h0 := hel 0 _ rfl
  have h1 := hel 1 _ rfl
  have h2 := hel 2 _ rfl
  have h3 := hel 3 _ rfl
  have h4 := hel 4 _ rfl
  have h5 := hel 5 _ rfl
  simp only [Value.cells] at h0 h1 h2 h3 h4 h5
  obtain ⟨a0, e0, z0, w0⟩ := DataW.trod_int Tryd.underlying3 h0
  obtain ⟨a1, e1, z1, w1⟩ := DataW.trod_int Tryd.underlying3 h1
  obtain ⟨a2, e2, z2, w2⟩ := DataW.trod_int Tryd.underlying3 h2
  obtain ⟨a3, e3, z3, w3⟩ := DataW.trod_int Tryd.underlying3 h3
  obtain ⟨a4, e4, z4, w4⟩ := DataW.trod_int Tryd.underlying3 h4
  obtain ⟨a5, e5, z5, w5⟩ := DataW.trod_int Tryd.underlying3 h5
  simp [cellsInt] at e0 e1 e2 e3 e4 e5
  subst e0 e1 e2 e3 e4 e5 z0 z1 z2 z3 z4 z5
  simp at hx
  exact ⟨a0, a1, a2, a3, a4, a5, rfl, hx.1, hx.2, w0, w1, w2, w3, w4, w5⟩

set_option maxRecDepth 100000 in
theorem shut_curve {P A B N gx gy : Int} (w0 : (Lit.int .i64 P).wf = true) (w1 : (Lit.int .i64 A).wf = true) (w2 : (Lit.int .i64 B).wf = true) (w3 : (Lit.int .i64 N).wf = true) (w4 : (Lit.int .i64 gx).wf = true) (w5 : (Lit.int .i64 gy).wf = true) :
    DataW.Trod enc Tryd.prog w base spare held 53 (.agg #[.int .i64 P, .int .i64 A, .int .i64 B, .int .i64 N, .int .i64 gx, .int .i64 gy]) (.agg [.lit (.int .i64 P), .lit (.int .i64 A), .lit (.int .i64 B), .lit (.int .i64 N), .lit (.int .i64 gx), .lit (.int .i64 gy)]) [] := by
  have h := trod_struct_mk (enc := enc) (w := w) (base := base) (spare := spare) (held := held) (n := 1) (cs := [.int .i64 P, .int .i64 A, .int .i64 B, .int .i64 N, .int .i64 gx, .int .i64 gy]) (xs := [(.lit (.int .i64 P), []), (.lit (.int .i64 A), []), (.lit (.int .i64 B), []), (.lit (.int .i64 N), []), (.lit (.int .i64 gx), []), (.lit (.int .i64 gy), [])]) Tryd.underlying53 (by simp [cellsCurve])
    (by simp [DataW.trod, Tryd.underlying3, cellsInt, w0, w1, w2, w3, w4, w5])
  exact ⟨_, by simpa [Value.cells] using h⟩

set_option maxRecDepth 100000 in
theorem open_point {r : Reach} {b0 : Nat} {v : Value} {d : DataW H} {p : List MemPlace} (hv : Value.okWide Tryd.prog w r b0 54 v) (h : DataW.Trod enc Tryd.prog w base spare held 54 v d p) :
    ∃ (x y : Int) (f : Bool), v = .agg #[.int .i64 x, .int .i64 y, .bool f] ∧ d = .agg [.lit (.int .i64 x), .lit (.int .i64 y), .lit (.bool f)] ∧ p = [] ∧ (Lit.int .i64 x).wf = true ∧ (Lit.int .i64 y).wf = true := by
  obtain ⟨cs, rfl, hsz⟩ := okWide_struct Tryd.underlying54 hv
  obtain ⟨c0, c1, c2, rfl⟩ := Joins.array3 (hsz.trans cellsPoint)
  obtain ⟨fuel, hf⟩ := h
  obtain ⟨xs, n, _, hx, _, hlen, hel⟩ := DataW.trod_struct Tryd.underlying54 hf
  obtain ⟨y0, y1, y2, rfl⟩ := list3 hlen
  have h0 := hel 0 _ rfl
  have h1 := hel 1 _ rfl
  have h2 := hel 2 _ rfl
  simp only [Value.cells] at h0 h1 h2
  obtain ⟨a0, e0, z0, w0⟩ := DataW.trod_int Tryd.underlying3 h0
  obtain ⟨a1, e1, z1, w1⟩ := DataW.trod_int Tryd.underlying3 h1
  obtain ⟨a2, e2, z2⟩ := DataW.trod_bool Tryd.underlying4 h2
  simp [cellsInt] at e0 e1
  simp [cellsBool] at e2
  subst e0 e1 e2 z0 z1 z2
  simp at hx
  exact ⟨a0, a1, a2, rfl, hx.1, hx.2, w0, w1⟩

set_option maxRecDepth 100000 in
theorem shut_point {x y : Int} {f : Bool} (w0 : (Lit.int .i64 x).wf = true) (w1 : (Lit.int .i64 y).wf = true) :
    DataW.Trod enc Tryd.prog w base spare held 54 (.agg #[.int .i64 x, .int .i64 y, .bool f]) (.agg [.lit (.int .i64 x), .lit (.int .i64 y), .lit (.bool f)]) [] := by
  have h := trod_struct_mk (enc := enc) (w := w) (base := base) (spare := spare) (held := held) (n := 1) (cs := [.int .i64 x, .int .i64 y, .bool f]) (xs := [(.lit (.int .i64 x), []), (.lit (.int .i64 y), []), (.lit (.bool f), [])]) Tryd.underlying54 (by simp [cellsPoint])
    (by simp [DataW.trod, Tryd.underlying3, Tryd.underlying4, cellsInt, cellsBool, w0, w1])
  exact ⟨_, by simpa [Value.cells] using h⟩

end

end Go.Proofs.YtcfpmillbdkpcaaDoor
