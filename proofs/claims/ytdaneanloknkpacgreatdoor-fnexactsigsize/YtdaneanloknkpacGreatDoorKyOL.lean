/- Keys: a key that came in, opened (written by mkkey.py). The walk of the law FnExactKeyOk (written by mkkey.py). -/
import Derived.Test.YtdaneanloknkpacGreatDoorKyAll
import Derived.Test.YtdaneanloknkpacGreatDoorRows
import Derived.WalkKit
import Derived.ProofKit
import Derived.OpenShut
import Derived.ChangeOld
import Derived.Below
namespace Go.Proofs.YtdaneanloknkpacGreatDoor
set_option linter.unusedVariables false
open Go.RowKit

set_option linter.unusedSimpArgs false

open Go.ChangeShapes Go.WideShapes Go.ChangeAt
/-- A key in memory. -/
structure KyM where
  k : Ky
  ad : Option Addr
  b : Nat
  off : Nat
  cap : Nat
/-- What is known of a key that came in. -/
structure KeyIn (w : World) (m : KyM) : Prop where
  seg : Seg w m.ad m.b m.off m.k.n m.k.f
  small : m.k.n ≤ 9223372036854775807
  e0 : -9223372036854775808 ≤ m.k.e
  e1 : m.k.e ≤ 9223372036854775807
  p : m.k.cP ≤ 9223372036854775807
  c : m.k.cN ≤ 9223372036854775807
  d : m.k.dP ≤ 9223372036854775807
  l : m.k.dL ≤ 9223372036854775807

theorem listK {α : Type} {l : List α} (h : l.length = 19) : ∃ kd sl ee c0 c1 c2 c3 c4 c5 q0 q1 q2 e0 e1 e2 e3 e4 a0 a1, l = [kd, sl, ee, c0, c1, c2, c3, c4, c5, q0, q1, q2, e0, e1, e2, e3, e4, a0, a1] := by
  match l, h with
  | [kd, sl, ee, c0, c1, c2, c3, c4, c5, q0, q1, q2, e0, e1, e2, e3, e4, a0, a1], _ => exact ⟨kd, sl, ee, c0, c1, c2, c3, c4, c5, q0, q1, q2, e0, e1, e2, e3, e4, a0, a1, rfl⟩
theorem listN {α : Type} {l : List α} (h : l.length = 7) : ∃ y0 y1 y2 y3 y4 y5 y6, l = [y0, y1, y2, y3, y4, y5, y6] := by
  match l, h with
  | [y0, y1, y2, y3, y4, y5, y6], _ => exact ⟨y0, y1, y2, y3, y4, y5, y6, rfl⟩
theorem list6' {α : Type} {l : List α} (h : l.length = 6) : ∃ y0 y1 y2 y3 y4 y5, l = [y0, y1, y2, y3, y4, y5] := by
  match l, h with
  | [y0, y1, y2, y3, y4, y5], _ => exact ⟨y0, y1, y2, y3, y4, y5, rfl⟩
theorem list5' {α : Type} {l : List α} (h : l.length = 5) : ∃ y0 y1 y2 y3 y4, l = [y0, y1, y2, y3, y4] := by
  match l, h with
  | [y0, y1, y2, y3, y4], _ => exact ⟨y0, y1, y2, y3, y4, rfl⟩
theorem list3'' {α : Type} {l : List α} (h : l.length = 3) : ∃ y0 y1 y2, l = [y0, y1, y2] := by
  match l, h with
  | [y0, y1, y2], _ => exact ⟨y0, y1, y2, rfl⟩
theorem list2' {α : Type} {l : List α} (h : l.length = 2) : ∃ y0 y1, l = [y0, y1] := by
  match l, h with
  | [y0, y1], _ => exact ⟨y0, y1, rfl⟩

theorem kc : Tryz.prog.cellsOf 32 = 19 ∧ Tryz.prog.cellsOf 24 = 6 ∧ Tryz.prog.cellsOf 26 = 3 ∧ Tryz.prog.cellsOf 28 = 5 ∧ Tryz.prog.cellsOf 30 = 2 ∧ Tryz.prog.cellsOf 3 = 1 ∧ Tryz.prog.cellsOf 4 = 1 ∧ Tryz.prog.cellsOf 22 = 1 := by
  refine ⟨?_, ?_, ?_, ?_, ?_, ?_, ?_, ?_⟩ <;> kernel_rfl

section
variable {H : Type} {enc : TypeId × Value → H} {w : World} {base : Nat} {held : Bool}

set_option maxRecDepth 100000 in
theorem open_cv {fuel : Nat} {cs : List Value} {y : DataW H × List MemPlace} (h : DataW.trod enc Tryz.prog w base (fun _ => true) held fuel 24 cs = some y) : ∃ a b c d e f : Int, cs = [.int .i64 a, .int .i64 b, .int .i64 c, .int .i64 d, .int .i64 e, .int .i64 f] ∧ a ≤ 9223372036854775807 ∧ d ≤ 9223372036854775807 := by
  obtain ⟨k1, k2, k3, k4, k5, k6, k7, k8⟩ := kc
  obtain ⟨xs, n, _, hx, hcl, hlen, hel⟩ := DataW.trod_struct Tryz.underlying24 h
  rw [k2] at hcl
  obtain ⟨c0, c1, c2, c3, c4, c5, rfl⟩ := list6' hcl
  obtain ⟨y0, y1, y2, y3, y4, y5, rfl⟩ := list6' hlen
  have e0 := hel 0 _ rfl
  have e1 := hel 1 _ rfl
  have e2 := hel 2 _ rfl
  have e3 := hel 3 _ rfl
  have e4 := hel 4 _ rfl
  have e5 := hel 5 _ rfl
  simp [k6] at e0 e1 e2 e3 e4 e5
  obtain ⟨a0, q0, _, w0⟩ := DataW.trod_int Tryz.underlying3 e0
  obtain ⟨a1, q1, _, w1⟩ := DataW.trod_int Tryz.underlying3 e1
  obtain ⟨a2, q2, _, w2⟩ := DataW.trod_int Tryz.underlying3 e2
  obtain ⟨a3, q3, _, w3⟩ := DataW.trod_int Tryz.underlying3 e3
  obtain ⟨a4, q4, _, w4⟩ := DataW.trod_int Tryz.underlying3 e4
  obtain ⟨a5, q5, _, w5⟩ := DataW.trod_int Tryz.underlying3 e5
  simp at q0 q1 q2 q3 q4 q5
  subst q0 q1 q2 q3 q4 q5
  exact ⟨a0, a1, a2, a3, a4, a5, rfl, (bounds_i64 w0).2, (bounds_i64 w3).2⟩

set_option maxRecDepth 100000 in
theorem open_ed {fuel : Nat} {cs : List Value} {y : DataW H × List MemPlace} (h : DataW.trod enc Tryz.prog w base (fun _ => true) held fuel 28 cs = some y) : ∃ a b c d e : Int, cs = [.int .i64 a, .int .i64 b, .int .i64 c, .int .i64 d, .int .i64 e] ∧ a ≤ 9223372036854775807 ∧ c ≤ 9223372036854775807 := by
  obtain ⟨k1, k2, k3, k4, k5, k6, k7, k8⟩ := kc
  obtain ⟨xs, n, _, hx, hcl, hlen, hel⟩ := DataW.trod_struct Tryz.underlying28 h
  rw [k4] at hcl
  obtain ⟨c0, c1, c2, c3, c4, rfl⟩ := list5' hcl
  obtain ⟨y0, y1, y2, y3, y4, rfl⟩ := list5' hlen
  have e0 := hel 0 _ rfl
  have e1 := hel 1 _ rfl
  have e2 := hel 2 _ rfl
  have e3 := hel 3 _ rfl
  have e4 := hel 4 _ rfl
  simp [k6] at e0 e1 e2 e3 e4
  obtain ⟨a0, q0, _, w0⟩ := DataW.trod_int Tryz.underlying3 e0
  obtain ⟨a1, q1, _, w1⟩ := DataW.trod_int Tryz.underlying3 e1
  obtain ⟨a2, q2, _, w2⟩ := DataW.trod_int Tryz.underlying3 e2
  obtain ⟨a3, q3, _, w3⟩ := DataW.trod_int Tryz.underlying3 e3
  obtain ⟨a4, q4, _, w4⟩ := DataW.trod_int Tryz.underlying3 e4
  simp at q0 q1 q2 q3 q4
  subst q0 q1 q2 q3 q4
  exact ⟨a0, a1, a2, a3, a4, rfl, (bounds_i64 w0).2, (bounds_i64 w2).2⟩

set_option maxRecDepth 100000 in
theorem open_pt {fuel : Nat} {cs : List Value} {y : DataW H × List MemPlace} (h : DataW.trod enc Tryz.prog w base (fun _ => true) held fuel 26 cs = some y) : ∃ (a b : Int) (f : Bool), cs = [.int .i64 a, .int .i64 b, .bool f] := by
  obtain ⟨k1, k2, k3, k4, k5, k6, k7, k8⟩ := kc
  obtain ⟨xs, n, _, hx, hcl, hlen, hel⟩ := DataW.trod_struct Tryz.underlying26 h
  rw [k3] at hcl
  obtain ⟨c0, c1, c2, rfl⟩ := list3'' hcl
  obtain ⟨y0, y1, y2, rfl⟩ := list3'' hlen
  have e0 := hel 0 _ rfl
  have e1 := hel 1 _ rfl
  have e2 := hel 2 _ rfl
  simp [k6, k7] at e0 e1 e2
  obtain ⟨a0, q0, _, w0⟩ := DataW.trod_int Tryz.underlying3 e0
  obtain ⟨a1, q1, _, w1⟩ := DataW.trod_int Tryz.underlying3 e1
  obtain ⟨a2, q2, _⟩ := DataW.trod_bool Tryz.underlying4 e2
  simp at q0 q1 q2
  subst q0 q1 q2
  exact ⟨a0, a1, a2, rfl⟩

set_option maxRecDepth 100000 in
theorem open_pr {fuel : Nat} {cs : List Value} {y : DataW H × List MemPlace} (h : DataW.trod enc Tryz.prog w base (fun _ => true) held fuel 30 cs = some y) : ∃ a b : Int, cs = [.int .i64 a, .int .i64 b] := by
  obtain ⟨k1, k2, k3, k4, k5, k6, k7, k8⟩ := kc
  obtain ⟨xs, n, _, hx, hcl, hlen, hel⟩ := DataW.trod_struct Tryz.underlying30 h
  rw [k5] at hcl
  obtain ⟨c0, c1, rfl⟩ := list2' hcl
  obtain ⟨y0, y1, rfl⟩ := list2' hlen
  have e0 := hel 0 _ rfl
  have e1 := hel 1 _ rfl
  simp [k6] at e0 e1
  obtain ⟨a0, q0, _, w0⟩ := DataW.trod_int Tryz.underlying3 e0
  obtain ⟨a1, q1, _, w1⟩ := DataW.trod_int Tryz.underlying3 e1
  simp at q0 q1
  subst q0 q1
  exact ⟨a0, a1, rfl⟩

set_option maxRecDepth 100000 in
theorem open_ns {fuel : Nat} {cs : List Value} {x : DataW H × List MemPlace} (h : DataW.trod enc Tryz.prog w base (fun _ => true) held fuel 22 cs = some x) :
    ∃ (a : Option Addr) (b off n cap : Nat) (f : Nat → Int), cs = [.slice a n cap] ∧ Seg w a b off n f ∧ n ≤ 9223372036854775807 := by
  rcases open_ints Tryz.underlying22 Tryz.underlying3 (by kernel_rfl) h with ⟨hcs, _⟩ | ⟨a, l, c, zs, hcs, _, hl, hm, hz, _, hcell, hwz⟩
  · exact ⟨none, 0, 0, 0, 0, fun _ => 0, hcs, ⟨fun h => absurd h (Nat.lt_irrefl _), fun i hi => absurd hi (Nat.not_lt_zero _)⟩, Nat.zero_le _⟩
  · simp at hz
    obtain ⟨b, off, spot⟩ := a
    have hmm : l ≤ 9223372036854775807 := by unfold maxLen at hm; omega
    by_cases h0 : l = 0
    · subst h0
      exact ⟨_, 0, 0, 0, c, fun _ => 0, hcs, ⟨fun h => absurd h (Nat.lt_irrefl _), fun i hi => absurd hi (Nat.not_lt_zero _)⟩, Nat.zero_le _⟩
    · have hspot : spot = none := by simpa [Addr.add] using World.cell?_spot (hcell 0 (by omega))
      subst hspot
      refine ⟨some ⟨b, off, none⟩, b, off, l, c, fun i => zs.getD i 0, hcs, ⟨fun _ => rfl, fun i hi => ?_⟩, hmm⟩
      have := hcell i (by omega)
      have e : (⟨b, off, none⟩ : Addr).add i = ⟨b, off + i, none⟩ := by
        by_cases h0 : i = 0
        · subst h0; simp [Addr.add]
        · simp [Addr.add, h0]
      rwa [e] at this

set_option maxHeartbeats 1600000 in
set_option maxRecDepth 100000 in
theorem open_keyC {fuel : Nat} {cs : List Value} {y : DataW H × List MemPlace} (h : DataW.trod enc Tryz.prog w base (fun _ => true) held fuel 32 cs = some y) : ∃ m : KyM, cs = [.int .i64 m.k.kind, .slice m.ad m.k.n m.cap, .int .i64 m.k.e, .int .i64 m.k.cP, .int .i64 m.k.cA, .int .i64 m.k.cB, .int .i64 m.k.cN, .int .i64 m.k.cX, .int .i64 m.k.cY, .int .i64 m.k.q.x, .int .i64 m.k.q.y, .bool m.k.q.far, .int .i64 m.k.dP, .int .i64 m.k.dD, .int .i64 m.k.dL, .int .i64 m.k.dX, .int .i64 m.k.dY, .int .i64 m.k.a.x, .int .i64 m.k.a.y] ∧ KeyIn w m := by
  obtain ⟨k1, k2, k3, k4, k5, k6, k7, k8⟩ := kc
  obtain ⟨xs, n, _, hx, hcl, hlen, hel⟩ := DataW.trod_struct Tryz.underlying32 h
  rw [k1] at hcl
  obtain ⟨kd, sl, ee, c0, c1, c2, c3, c4, c5, q0, q1, q2, e0, e1, e2, e3, e4, a0, a1, rfl⟩ := listK hcl
  obtain ⟨y0, y1, y2, y3, y4, y5, y6, rfl⟩ := listN hlen
  have f0 := hel 0 _ rfl
  have f1 := hel 1 _ rfl
  have f2 := hel 2 _ rfl
  have f3 := hel 3 _ rfl
  have f4 := hel 4 _ rfl
  have f5 := hel 5 _ rfl
  have f6 := hel 6 _ rfl
  simp [k2, k3, k4, k5, k6, k8] at f0 f1 f2 f3 f4 f5 f6
  obtain ⟨u0, g0, _, w0⟩ := DataW.trod_int Tryz.underlying3 f0
  obtain ⟨a, b, off, ln, cap, f, g1, hS, hL⟩ := open_ns f1
  obtain ⟨u2, g2, _, w2⟩ := DataW.trod_int Tryz.underlying3 f2
  obtain ⟨p1, p2, p3, p4, p5, p6, g3, b1, b2⟩ := open_cv f3
  obtain ⟨r1, r2, r3, g4⟩ := open_pt f4
  obtain ⟨s1, s2, s3, s4, s5, g5, b3, b4⟩ := open_ed f5
  obtain ⟨t1, t2, g6⟩ := open_pr f6
  simp at g0 g1 g2 g3 g4 g5 g6
  obtain ⟨rfl, rfl, rfl, rfl, rfl, rfl⟩ := g3
  obtain ⟨rfl, rfl, rfl⟩ := g4
  obtain ⟨rfl, rfl, rfl, rfl, rfl⟩ := g5
  obtain ⟨rfl, rfl⟩ := g6
  subst g0 g1 g2
  have bb := bounds_i64 w2
  exact ⟨⟨⟨u0, ln, f, u2, p1, p2, p3, p4, p5, p6, ⟨r1, r2, r3⟩, s1, s2, s3, s4, s5, ⟨t1, t2⟩⟩, a, b, off, cap⟩, rfl, ⟨hS, hL, bb.1, bb.2, b1, b2, b3, b4⟩⟩

set_option maxRecDepth 100000 in
theorem open_key {r : Reach} {b0 : Nat} {v : Value} {d : DataW H} {p : List MemPlace} (hv : Value.okWide Tryz.prog w r b0 32 v) (h : DataW.Trod enc Tryz.prog w base (fun _ => true) held 32 v d p) :
    ∃ m : KyM, v = .agg #[.int .i64 m.k.kind, .slice m.ad m.k.n m.cap, .int .i64 m.k.e, .int .i64 m.k.cP, .int .i64 m.k.cA, .int .i64 m.k.cB, .int .i64 m.k.cN, .int .i64 m.k.cX, .int .i64 m.k.cY, .int .i64 m.k.q.x, .int .i64 m.k.q.y, .bool m.k.q.far, .int .i64 m.k.dP, .int .i64 m.k.dD, .int .i64 m.k.dL, .int .i64 m.k.dX, .int .i64 m.k.dY, .int .i64 m.k.a.x, .int .i64 m.k.a.y] ∧ KeyIn w m := by
  obtain ⟨cs, rfl, hsz⟩ := okWide_struct Tryz.underlying32 hv
  obtain ⟨fuel, hf⟩ := h
  obtain ⟨m, hm, hI⟩ := open_keyC hf
  refine ⟨m, ?_, hI⟩
  simp only [Value.cells] at hm
  rw [← hm]

end

set_option linter.unusedSimpArgs false

theorem KeyIn.ky {w : World} {m : KyM} (h : KeyIn w m) (hn : m.k.n ≤ 1048576) : KyIn m.k := ⟨hn, h.e0, h.e1, h.p, h.c, h.d, h.l⟩

theorem run_loadKeyL (cs : List Value) (hl : cs.length = 19) (b : Nat) (w : World) (hc : ∀ j v, cs[j]? = some v → w.cell? ⟨b, j, none⟩ = some v) :
    (loadVar 32 ⟨b, 0, none⟩).run Tryz.prog w = .ok (.agg cs.toArray) w := by
  have hs : (Go.sizeOf 32).run Tryz.prog w = .ok 19 w := by kernel_rfl
  have ha : (isAgg 32).run Tryz.prog w = .ok true w := by kernel_rfl
  have hld := run_loadCells_list (P := Tryz.prog) w ⟨b, 0, none⟩ cs (fun j v h => by
    have := hc j v h
    rwa [show (⟨b, 0, none⟩ : Addr).add j = ⟨b, j, none⟩ by unfold Addr.add; split <;> simp_all])
  rw [hl] at hld
  simp only [loadVar, Sem.run_bind, ha, Result.andThen_ok, if_true, hs, hld, Sem.run_pure]

theorem quiet_load {P : Program} {o : Oper} {a : Act} {C : World → Prop} {w : World} {v : Value} {ty : TypeId} {x : Operand} {p : Addr} (ho : o.op = .load ty x) (hp : a.eval x = .pointer (some p)) (hl : (loadVar ty p).run P w = .ok v w) : o.quietAt P a C w v := by
  unfold Oper.quietAt execOp
  simp only [ho, hp, Instr.loadAt, Instr.sureAddr, Sem.run_bind, Sem.run_pure, Result.andThen_ok, hl]
  exact ⟨rfl, rfl⟩

theorem head_load {P : Program} {ops : Array Oper} {X : Nat → Prop} {w : World} {N : Act → Prop} {o : Oper} {rest : List Oper} {a : Act} (hw : Region.wanted o (yielded ops a.tmps) = true) {ty : TypeId} {x : Operand} (ho : o.op = .load ty x) {p : Addr} (hp : a.eval x = .pointer (some p)) {v : Value} (hl : ∀ q : ReC X w, (loadVar ty p).run P q.val = .ok v q.val) (h : headC P ops X w N rest (a.put o.dst v)) : headC P ops X w N (o :: rest) a := by
  refine headC_step (fun K hK => ?_)
  simp only [hw, if_true]
  exact ⟨v, fun q => quiet_load ho hp (hl q), hK _ h⟩

theorem blk_re {w : World} {C : Nat} {vs : List Value} (h : Blk w C vs) (h0 : C < w.heap.size) (q : ReC (fun _ => False) w) : Blk q.val C vs := h.ext ⟨q.ok.os, q.ok.tape, q.ok.output, q.ok.size, fun k hk => q.ok.block k hk (fun h => h)⟩ h0

end Go.Proofs.YtdaneanloknkpacGreatDoor
