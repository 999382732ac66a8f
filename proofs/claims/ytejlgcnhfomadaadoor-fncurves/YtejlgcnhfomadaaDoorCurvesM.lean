/- What the law of curves needs: contracts at arguments that are right, and the group's laws. -/
import Derived.Test.YtejlgcnhfomadaaDoorDrawC2
import Derived.Test.YtejlgcnhfomadaaDoorCurU
import Derived.Test.YtejlgcnhfomadaaDoorCurW
import Derived.Test.YtejlgcnhfomadaaDoorCurveY
namespace Go.Proofs.YtejlgcnhfomadaaDoor
set_option linter.unusedVariables false
open Go.RowKit Go.Sort

theorem run_nePt_same (x y : Int) (f : Bool) (w : World) : (binOp .neq 27 (.agg #[.int .i64 x, .int .i64 y, .bool f]) (.agg #[.int .i64 x, .int .i64 y, .bool f])).run Tryd.prog w = .ok (.bool false) w := by
  rw [run_nePt]; simp

theorem run_eqPt_same (x y : Int) (f : Bool) (w : World) : (binOp .eql 27 (.agg #[.int .i64 x, .int .i64 y, .bool f]) (.agg #[.int .i64 x, .int .i64 y, .bool f])).run Tryd.prog w = .ok (.bool true) w := by
  rw [run_eqPt]; simp

theorem PtAt.ext {w w' : World} {C : Nat} {a : Pt} (h : PtAt w C a) (e : Ext w w') : PtAt w' C a := h.of_block (e.block C h.lt)
theorem CvAt.lt {w : World} {C : Nat} {p A B N x y : Int} (h : CvAt w C p A B N x y) : C < w.heap.size := block_lt_of_cell h.c0
theorem CvAt.ext {w w' : World} {C : Nat} {p A B N x y : Int} (h : CvAt w C p A B N x y) (e : Ext w w') : CvAt w' C p A B N x y := h.below e h.lt

section
variable {P A B N gx gy : Int}

theorem CvOk.p63 (h : CvOk P A B N gx gy) : P ≤ 9223372036854775807 := by have := h.pM; omega
theorem CvOk.n63 (h : CvOk P A B N gx gy) : N ≤ 9223372036854775807 := by have := h.nM; omega

theorem curve_yes (hc : CvOk P A B N gx gy) (w : World) : Calls Tryd.prog 11 #[.agg #[.int .i64 P, .int .i64 A, .int .i64 B, .int .i64 N, .int .i64 gx, .int .i64 gy]] w fun r w' => r = .returned (.bool true) ∧ Below w.heap.size w w' :=
  implCurveOk_at P A B N gx gy hc.p63 hc.n63 true (by simp [hc]) w

theorem ok_yes (hc : CvOk P A B N gx gy) {a : Pt} (ha : On P.toNat A B a) (w : World) : Calls Tryd.prog 12 #[.agg #[.int .i64 P, .int .i64 A, .int .i64 B, .int .i64 N, .int .i64 gx, .int .i64 gy], .agg #[.int .i64 a.x, .int .i64 a.y, .bool a.far]] w fun r w' => r = .returned (.bool true) ∧ Below w.heap.size w w' := by
  refine (implPointOk_any P A B N gx gy a w hc.p63 hc.n63).mono ?_
  rintro r w' ⟨⟨ok, rfl, h⟩, hw⟩
  exact ⟨by rw [h.2 ⟨hc, ha⟩], hw⟩

theorem add_yes (hc : CvOk P A B N gx gy) {a b s : Pt} (ha : On P.toNat A B a) (hb : On P.toNat A B b) (hs : addF P.toNat A a b = s) (w : World) : Calls Tryd.prog 13 #[.agg #[.int .i64 P, .int .i64 A, .int .i64 B, .int .i64 N, .int .i64 gx, .int .i64 gy], .agg #[.int .i64 a.x, .int .i64 a.y, .bool a.far], .agg #[.int .i64 b.x, .int .i64 b.y, .bool b.far]] w fun r w' => r = .returned (.tuple #[.agg #[.int .i64 s.x, .int .i64 s.y, .bool s.far], .bool true]) ∧ Below w.heap.size w w' :=
  givesPt_at (Or.inl ⟨rfl, ⟨hc, ha, hb⟩, hs.symm⟩) (implPointAdd_any P A B N gx gy a b w hc.p63 hc.n63)

theorem mul_yes (hc : CvOk P A B N gx gy) {a s : Pt} {n : Int} (ha : On P.toNat A B a) (n0 : 0 ≤ n) (n1 : n ≤ 1099511627776) (hs : mulF P.toNat A n.toNat a = s) (w : World) : Calls Tryd.prog 15 #[.agg #[.int .i64 P, .int .i64 A, .int .i64 B, .int .i64 N, .int .i64 gx, .int .i64 gy], .int .i64 n, .agg #[.int .i64 a.x, .int .i64 a.y, .bool a.far]] w fun r w' => r = .returned (.tuple #[.agg #[.int .i64 s.x, .int .i64 s.y, .bool s.far], .bool true]) ∧ Below w.heap.size w w' :=
  givesPt_at (Or.inl ⟨rfl, ⟨hc, ha, n0, n1⟩, hs.symm⟩) (implPointMul_any P A B N gx gy n a w hc.p63 hc.n63)

theorem two_yes (hc : CvOk P A B N gx gy) {a s : Pt} {u v : Int} (ha : On P.toNat A B a) (u0 : 0 ≤ u) (u1 : u ≤ 1099511627776) (v0 : 0 ≤ v) (v1 : v ≤ 1099511627776) (hs : addF P.toNat A (mulF P.toNat A u.toNat ⟨gx, gy, false⟩) (mulF P.toNat A v.toNat a) = s) (w : World) : Calls Tryd.prog 16 #[.agg #[.int .i64 P, .int .i64 A, .int .i64 B, .int .i64 N, .int .i64 gx, .int .i64 gy], .int .i64 u, .int .i64 v, .agg #[.int .i64 a.x, .int .i64 a.y, .bool a.far]] w fun r w' => r = .returned (.tuple #[.agg #[.int .i64 s.x, .int .i64 s.y, .bool s.far], .bool true]) ∧ Below w.heap.size w w' :=
  givesPt_at (Or.inl ⟨rfl, ⟨hc, ha, ⟨u0, u1⟩, v0, v1⟩, hs.symm⟩) (implTwoMul_any P A B N gx gy u v a w hc.p63 hc.n63)

theorem CvOk.mul_eq (hc : CvOk P A B N gx gy) {a : Pt} (ha : On P.toNat A B a) {n : Nat} (hn : n ≤ 9223372036854775807) : mulF P.toNat A n a = nF P.toNat A n a := mulF_eq hc.cv (by omega) ha

theorem CvOk.mul_on (hc : CvOk P A B N gx gy) {a : Pt} (ha : On P.toNat A B a) {n : Nat} (hn : n ≤ 9223372036854775807) : On P.toNat A B (mulF P.toNat A n a) := mulF_on hc.cv (by omega) ha

/-- The N-fold of each multiple of the base point is the far one. -/
theorem CvOk.all_far (hc : CvOk P A B N gx gy) {m : Nat} (hm : m ≤ 20000) : mulF P.toNat A N.toNat (mulF P.toNat A m ⟨gx, gy, false⟩) = farP := by
  have hN : N.toNat ≤ 9223372036854775807 := by have := hc.nM; omega
  have h := hc.far
  have ho := hc.mul_on hc.g hN
  have e := ho.far_eq h
  rw [hc.mul_eq hc.g hN] at e
  rw [hc.mul_eq (hc.mul_on hc.g (by omega)) hN, hc.mul_eq hc.g (by omega), nF_mul hc.cv hc.g, Nat.mul_comm, ← nF_mul hc.cv hc.g, e, nF_far]

theorem CvOk.mul_add (hc : CvOk P A B N gx gy) {a : Pt} (ha : On P.toNat A B a) {m n : Nat} (hm : m ≤ 100000) (hn : n ≤ 100000) : addF P.toNat A (mulF P.toNat A m a) (mulF P.toNat A n a) = mulF P.toNat A (m + n) a := by
  rw [hc.mul_eq ha (by omega), hc.mul_eq ha (by omega), hc.mul_eq ha (by omega), nF_add hc.cv ha]

/-- A point's other side, as the law writes it. -/
theorem CvOk.other (hc : CvOk P A B N gx gy) {x y : Int} (ha : On P.toNat A B ⟨x, y, false⟩) : On P.toNat A B ⟨x, Int.tmod (P - y) P, false⟩ ∧ addF P.toNat A ⟨x, y, false⟩ ⟨x, Int.tmod (P - y) P, false⟩ = farP := by
  have e := hc.nat
  have h5 := hc.p5
  have k := ha.aff rfl
  have y1 := k.y1
  rw [e] at y1
  have hy : Int.tmod (P - y) P = (-y) % P := by
    rw [Int.tmod_eq_emod_of_nonneg (by simp only at y1; omega), Int.sub_eq_add_neg, Int.add_emod_left]
  have hn : negF P.toNat ⟨x, y, false⟩ = ⟨x, Int.tmod (P - y) P, false⟩ := by rw [negF_fin rfl, e, hy]
  rw [← hn]
  exact ⟨negF_on (by omega) ha, add_negF hc.cv ha⟩

end

end Go.Proofs.YtejlgcnhfomadaaDoor
