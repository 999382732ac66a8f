/- Keys: what is asked of them; keys compared; the program's helpers (written by mkkey.py). Keys: the helpers of KeyOk of both (written by mkkey.py). Keys: KeyOk of both (written by mkkey.py). Keys: KeyOk of the model (written by mkkey.py). Keys: KeyOk of the model (written by mkkey.py). Keys: KeyOk of the model (written by mkkey.py). Keys: KeyOk of the model (written by mkkey.py). Walks: the law's own helpers over curves and points: toCurve, toPoint, eqPoint. Walks: the laws' own helpers over twisted curves and pairs; the laws, where model and program answer alike. Keys: the laws' own helpers over keys; a key that came in, opened (written by mkkey.py). Keys: copied keys compared (written by mkkey.py). -/
import Derived.Test.YtdaneanloknkpacGreatDoorPtEnd
import Derived.Test.YtdaneanloknkpacGreatDoorCurveK
import Derived.Test.YtdaneanloknkpacGreatDoorCurveN
import Derived.Test.YtdaneanloknkpacGreatDoorEdVY
import Derived.Test.YtdaneanloknkpacGreatDoorPrEnd
import Derived.Test.YtdaneanloknkpacGreatDoorNatCm
import Derived.Test.YtdaneanloknkpacGreatDoorChecked
import Derived.Test.YtdaneanloknkpacGreatDoorBlk
import Derived.Test.YtdaneanloknkpacGreatDoorEdS
import Derived.Test.YtdaneanloknkpacGreatDoorRows
import Derived.WalkKit
import Derived.ProofKit
import Derived.OpenShut
import Derived.ChangeOld
import Derived.Below
namespace Go.Proofs.YtdaneanloknkpacGreatDoor
set_option linter.unusedVariables false
open Go.RowKit

set_option linter.unusedSimpArgs false

/-- A key. -/
structure Ky where
  kind : Int
  n : Nat
  f : Nat → Int
  e : Int
  cP : Int
  cA : Int
  cB : Int
  cN : Int
  cX : Int
  cY : Int
  q : Pt
  dP : Int
  dD : Int
  dL : Int
  dX : Int
  dY : Int
  a : Pr

theorem wpList_load_on {P : Program} {w : World} {ops : Array Oper} {rest : List Oper} {o : Oper} {a : Act} {Q : Exit → Act → World → Prop} (hw : Region.wanted o (yielded ops a.tmps) = true) (ty : TypeId) (x : Operand) (ho : o.op = .load ty x) (p : Addr) (hp : a.eval x = .pointer (some p)) (v : Value) (hl : (loadVar ty p).run P w = .ok v w)
    (h : wpList P ops Q rest (a.put o.dst v) w) : wpList P ops Q (o :: rest) a w := by
  rw [wpList]
  simp only [hw, if_true]
  refine Or.inl ?_
  unfold Oper.wp execOp
  simp only [ho, hp, Instr.loadAt, Instr.sureAddr, Sem.run_bind, Sem.run_pure, Result.andThen_ok, hl]
  exact h

theorem run_loadKey (cs : List Value) (hl : cs.length = 19) (b : Nat) (w : World) (hc : ∀ j v, cs[j]? = some v → w.cell? ⟨b, j, none⟩ = some v) :
    (loadVar 40 ⟨b, 0, none⟩).run Tryz.prog w = .ok (.agg cs.toArray) w := by
  have hs : (Go.sizeOf 40).run Tryz.prog w = .ok 19 w := by kernel_rfl
  have ha : (isAgg 40).run Tryz.prog w = .ok true w := by kernel_rfl
  have hld := run_loadCells_list (P := Tryz.prog) w ⟨b, 0, none⟩ cs (fun j v h => by
    have := hc j v h
    rwa [show (⟨b, 0, none⟩ : Addr).add j = ⟨b, j, none⟩ by unfold Addr.add; split <;> simp_all])
  rw [hl] at hld
  simp only [loadVar, Sem.run_bind, ha, Result.andThen_ok, if_true, hs, hld, Sem.run_pure]

theorem cvHeld : Tryz.prog.stoodInHeld 35 = false := by kernel_rfl
set_option maxHeartbeats 1600000 in
theorem run_eqCv (x0 x1 x2 x3 x4 x5 y0 y1 y2 y3 y4 y5 : Int) (w : World) : (binOp .eql 35 (.agg #[.int .i64 x0, .int .i64 x1, .int .i64 x2, .int .i64 x3, .int .i64 x4, .int .i64 x5]) (.agg #[.int .i64 y0, .int .i64 y1, .int .i64 y2, .int .i64 y3, .int .i64 y4, .int .i64 y5])).run Tryz.prog w = .ok (.bool (x0 == y0 && (x1 == y1 && (x2 == y2 && (x3 == y3 && (x4 == y4 && (x5 == y5))))))) w := by
  have u2 := cvHeld
  cases h0 : (x0 == y0)
  · simp [go_sem, u2, h0]
  · skip
    cases h1 : (x1 == y1)
    · simp [go_sem, u2, h0, h1]
    · skip
      cases h2 : (x2 == y2)
      · simp [go_sem, u2, h0, h1, h2]
      · skip
        cases h3 : (x3 == y3)
        · simp [go_sem, u2, h0, h1, h2, h3]
        · skip
          cases h4 : (x4 == y4)
          · simp [go_sem, u2, h0, h1, h2, h3, h4]
          · skip
            cases h5 : (x5 == y5)
            · simp [go_sem, u2, h0, h1, h2, h3, h4, h5]
            · simp [go_sem, u2, h0, h1, h2, h3, h4, h5]

theorem edHeld : Tryz.prog.stoodInHeld 37 = false := by kernel_rfl
set_option maxHeartbeats 1600000 in
theorem run_eqEd (x0 x1 x2 x3 x4 y0 y1 y2 y3 y4 : Int) (w : World) : (binOp .eql 37 (.agg #[.int .i64 x0, .int .i64 x1, .int .i64 x2, .int .i64 x3, .int .i64 x4]) (.agg #[.int .i64 y0, .int .i64 y1, .int .i64 y2, .int .i64 y3, .int .i64 y4])).run Tryz.prog w = .ok (.bool (x0 == y0 && (x1 == y1 && (x2 == y2 && (x3 == y3 && (x4 == y4)))))) w := by
  have u2 := edHeld
  cases h0 : (x0 == y0)
  · simp [go_sem, u2, h0]
  · skip
    cases h1 : (x1 == y1)
    · simp [go_sem, u2, h0, h1]
    · skip
      cases h2 : (x2 == y2)
      · simp [go_sem, u2, h0, h1, h2]
      · skip
        cases h3 : (x3 == y3)
        · simp [go_sem, u2, h0, h1, h2, h3]
        · skip
          cases h4 : (x4 == y4)
          · simp [go_sem, u2, h0, h1, h2, h3, h4]
          · simp [go_sem, u2, h0, h1, h2, h3, h4]

def cvB (k l : Ky) : Bool := k.cP == l.cP && (k.cA == l.cA && (k.cB == l.cB && (k.cN == l.cN && (k.cX == l.cX && k.cY == l.cY))))
def ptB (k l : Ky) : Bool := k.q.x == l.q.x && (k.q.y == l.q.y && k.q.far == l.q.far)
def edB (k l : Ky) : Bool := k.dP == l.dP && (k.dD == l.dD && (k.dL == l.dL && (k.dX == l.dX && k.dY == l.dY)))
def prB (k l : Ky) : Bool := k.a.x == l.a.x && k.a.y == l.a.y
def nsB (k l : Ky) : Bool := k.n == l.n && alike k.f l.f k.n
/-- Keys are alike. -/
def alkB (k l : Ky) : Bool := k.kind == l.kind && (nsB k l && (k.e == l.e && (cvB k l && (ptB k l && (edB k l && prB k l)))))

set_option maxHeartbeats 800000 in
theorem eqInts_any (a : Option Addr) (b off n cap : Nat) (f : Nat → Int) (a2 : Option Addr) (b2 off2 m cap2 : Nat) (g : Nat → Int) (w : World) (hs : Seg w a b off n f) (hs2 : Seg w a2 b2 off2 m g) (hn : n ≤ 1048576) :
    Calls Tryz.prog 115 #[.slice a n cap, .slice a2 m cap2] w fun e w' => e = .returned (.bool (n == m && alike f g n)) ∧ Ext w w' := by
  by_cases hnm : n = m
  · subst hnm
    obtain ⟨R, hR⟩ : ∃ R, R = (n == n && alike f g n) := ⟨_, rfl⟩
    rw [← hR]
    have HR : Hid (R = alike f g n) := by show _ = _; rw [hR]; simp
    clear hR
    go_enter Tryz.func115, Tryz.ntmps115
    go_wp2
    go_loopw [13] (fun i wr => ∃ k : Nat, k ≤ n ∧ i = .int .i64 (k : Int) ∧ (∀ j, j < k → f j = g j) ∧ Ext w wr) (fun i _ => n - (intOf i).toNat)
    case atStart => exact ⟨0, Nat.zero_le _, rfl, fun j hj => absurd hj (Nat.not_lt_zero _), Ext.refl _⟩
    case round =>
      obtain ⟨k, hk, rfl, hd, hE⟩ := hrel
      have HD := hide hd
      have HE := hide hE
      by_cases hlt : k < n
      · obtain rfl := hs.at' (by omega)
        obtain rfl := hs2.at' (by omega)
        have c1 := (hs.of_all hE).cell k hlt
        have c2 := (hs2.of_all hE).cell k hlt
        have hkn : (k : Int) < (n : Int) := by omega
        have Hs := hide hs
        have Hs2 := hide hs2
        clear hd hE hs hs2
        by_cases hq : f k = g k
        · have hq1 : (f k != g k) = false := by simp [hq]
          have Hq := hide hq
          clear hq
          go_wp2
          go_quiet (fail)
          go_wp2
          go_roundw
          case rel => exact ⟨k + 1, by omega, by go_num, fun j hj => by
                        by_cases e : j = k
                        · subst e; exact Hq.out
                        · exact HD.out j (by omega), below_drewN HE.out _⟩
          case measure => simp [intOf]; omega
        · have hq1 : (f k != g k) = true := by simp [hq]
          have Hq := hide hq
          clear hq
          go_wp2
          go_quiet (fail)
          go_wp2
          go_ret
          exact ⟨ret_bool (by rw [HR.out, alike_false hlt Hq.out]), below_drewN HE.out _⟩
      · obtain rfl : k = n := by omega
        clear hd hE
        go_wp2
        go_ret
        exact ⟨ret_bool (by rw [HR.out, (alike_iff f g k).2 HD.out]), HE.out⟩
  · have hne : ((n : Int) != (m : Int)) = true := by simp; omega
    go_enter Tryz.func115, Tryz.ntmps115
    go_wp2
    go_ret
    exact ⟨ret_bool (by simp [hnm]), Ext.refl _⟩

set_option maxHeartbeats 6400000 in
set_option maxRecDepth 100000 in
theorem alike_any (k l : Ky) (ad : Option Addr) (b off cap : Nat) (ad2 : Option Addr) (b2 off2 cap2 : Nat) (w : World) (hs : Seg w ad b off k.n k.f) (hs2 : Seg w ad2 b2 off2 l.n l.f) (hn : k.n ≤ 1048576) :
    Calls Tryz.prog 63 #[.agg #[.int .i64 k.kind, .slice ad k.n cap, .int .i64 k.e, .int .i64 k.cP, .int .i64 k.cA, .int .i64 k.cB, .int .i64 k.cN, .int .i64 k.cX, .int .i64 k.cY, .int .i64 k.q.x, .int .i64 k.q.y, .bool k.q.far, .int .i64 k.dP, .int .i64 k.dD, .int .i64 k.dL, .int .i64 k.dX, .int .i64 k.dY, .int .i64 k.a.x, .int .i64 k.a.y], .agg #[.int .i64 l.kind, .slice ad2 l.n cap2, .int .i64 l.e, .int .i64 l.cP, .int .i64 l.cA, .int .i64 l.cB, .int .i64 l.cN, .int .i64 l.cX, .int .i64 l.cY, .int .i64 l.q.x, .int .i64 l.q.y, .bool l.q.far, .int .i64 l.dP, .int .i64 l.dD, .int .i64 l.dL, .int .i64 l.dX, .int .i64 l.dY, .int .i64 l.a.x, .int .i64 l.a.y]] w fun e w' => e = .returned (.bool (alkB k l)) ∧ Ext w w' := by
  obtain ⟨V, hV⟩ : ∃ V, (w.alloc (.cells #[.int .i64 k.kind, .slice ad k.n cap, .int .i64 k.e, .int .i64 k.cP, .int .i64 k.cA, .int .i64 k.cB, .int .i64 k.cN, .int .i64 k.cX, .int .i64 k.cY, .int .i64 k.q.x, .int .i64 k.q.y, .bool k.q.far, .int .i64 k.dP, .int .i64 k.dD, .int .i64 k.dL, .int .i64 k.dX, .int .i64 k.dY, .int .i64 k.a.x, .int .i64 k.a.y] 40)).alloc (.cells #[.int .i64 l.kind, .slice ad2 l.n cap2, .int .i64 l.e, .int .i64 l.cP, .int .i64 l.cA, .int .i64 l.cB, .int .i64 l.cN, .int .i64 l.cX, .int .i64 l.cY, .int .i64 l.q.x, .int .i64 l.q.y, .bool l.q.far, .int .i64 l.dP, .int .i64 l.dD, .int .i64 l.dL, .int .i64 l.dX, .int .i64 l.dY, .int .i64 l.a.x, .int .i64 l.a.y] 40) = V := ⟨_, rfl⟩
  obtain ⟨B0, B1, hE, -⟩ := box2 w [.int .i64 k.kind, .slice ad k.n cap, .int .i64 k.e, .int .i64 k.cP, .int .i64 k.cA, .int .i64 k.cB, .int .i64 k.cN, .int .i64 k.cX, .int .i64 k.cY, .int .i64 k.q.x, .int .i64 k.q.y, .bool k.q.far, .int .i64 k.dP, .int .i64 k.dD, .int .i64 k.dL, .int .i64 k.dX, .int .i64 k.dY, .int .i64 k.a.x, .int .i64 k.a.y] [.int .i64 l.kind, .slice ad2 l.n cap2, .int .i64 l.e, .int .i64 l.cP, .int .i64 l.cA, .int .i64 l.cB, .int .i64 l.cN, .int .i64 l.cX, .int .i64 l.cY, .int .i64 l.q.x, .int .i64 l.q.y, .bool l.q.far, .int .i64 l.dP, .int .i64 l.dD, .int .i64 l.dL, .int .i64 l.dX, .int .i64 l.dY, .int .i64 l.a.x, .int .i64 l.a.y] 40 40 (w1 := V) (by rw [← hV]; exact Ext.refl _)
  have c0 := (B0 0 _ rfl).1
  have c1 := (B0 1 _ rfl).1
  have c2 := (B0 2 _ rfl).1
  have c3 := (B0 3 _ rfl).1
  have c4 := (B0 4 _ rfl).1
  have c5 := (B0 5 _ rfl).1
  have c6 := (B0 6 _ rfl).1
  have c7 := (B0 7 _ rfl).1
  have c8 := (B0 8 _ rfl).1
  have c9 := (B0 9 _ rfl).1
  have c10 := (B0 10 _ rfl).1
  have c11 := (B0 11 _ rfl).1
  have c12 := (B0 12 _ rfl).1
  have c13 := (B0 13 _ rfl).1
  have c14 := (B0 14 _ rfl).1
  have c15 := (B0 15 _ rfl).1
  have c16 := (B0 16 _ rfl).1
  have c17 := (B0 17 _ rfl).1
  have c18 := (B0 18 _ rfl).1
  have d0 := (B1 0 _ rfl).1
  have d1 := (B1 1 _ rfl).1
  have d2 := (B1 2 _ rfl).1
  have d3 := (B1 3 _ rfl).1
  have d4 := (B1 4 _ rfl).1
  have d5 := (B1 5 _ rfl).1
  have d6 := (B1 6 _ rfl).1
  have d7 := (B1 7 _ rfl).1
  have d8 := (B1 8 _ rfl).1
  have d9 := (B1 9 _ rfl).1
  have d10 := (B1 10 _ rfl).1
  have d11 := (B1 11 _ rfl).1
  have d12 := (B1 12 _ rfl).1
  have d13 := (B1 13 _ rfl).1
  have d14 := (B1 14 _ rfl).1
  have d15 := (B1 15 _ rfl).1
  have d16 := (B1 16 _ rfl).1
  have d17 := (B1 17 _ rfl).1
  have d18 := (B1 18 _ rfl).1
  have HEq := hide (fun W (h : Ext V W) => eqInts_any ad b off k.n cap k.f ad2 b2 off2 l.n cap2 l.f W (hs.of_all (Ext.trans hE h)) (hs2.of_all (Ext.trans hE h)) hn)
  have HE := hide hE
  have HV : Hid (alkB k l = (k.kind == l.kind && (nsB k l && (k.e == l.e && (cvB k l && (ptB k l && (edB k l && prB k l))))))) := rfl
  have h4 : ∀ w, (binOp .eql 35 (.agg #[.int .i64 k.cP, .int .i64 k.cA, .int .i64 k.cB, .int .i64 k.cN, .int .i64 k.cX, .int .i64 k.cY]) (.agg #[.int .i64 l.cP, .int .i64 l.cA, .int .i64 l.cB, .int .i64 l.cN, .int .i64 l.cX, .int .i64 l.cY])).run Tryz.prog w = .ok (.bool (cvB k l)) w := fun w => run_eqCv _ _ _ _ _ _ _ _ _ _ _ _ w
  have h5 : ∀ w, (binOp .eql 36 (.agg #[.int .i64 k.q.x, .int .i64 k.q.y, .bool k.q.far]) (.agg #[.int .i64 l.q.x, .int .i64 l.q.y, .bool l.q.far])).run Tryz.prog w = .ok (.bool (ptB k l)) w := fun w => run_eqPt _ _ _ _ _ _ w
  have h6 : ∀ w, (binOp .eql 37 (.agg #[.int .i64 k.dP, .int .i64 k.dD, .int .i64 k.dL, .int .i64 k.dX, .int .i64 k.dY]) (.agg #[.int .i64 l.dP, .int .i64 l.dD, .int .i64 l.dL, .int .i64 l.dX, .int .i64 l.dY])).run Tryz.prog w = .ok (.bool (edB k l)) w := fun w => run_eqEd _ _ _ _ _ _ _ _ _ _ w
  have h7 : ∀ w, (binOp .eql 38 (.agg #[.int .i64 k.a.x, .int .i64 k.a.y]) (.agg #[.int .i64 l.a.x, .int .i64 l.a.y])).run Tryz.prog w = .ok (.bool (prB k l)) w := fun w => run_eqPr _ _ _ _ w
  rw [show (k.n == l.n && alike k.f l.f k.n) = nsB k l from rfl] at HEq
  clear B0 B1 hE hs hs2
  generalize alkB k l = R at *
  generalize cvB k l = q4 at *
  generalize ptB k l = q5 at *
  generalize edB k l = q6 at *
  generalize prB k l = q7 at *
  generalize nsB k l = q2 at *
  obtain ⟨q1, h1⟩ : ∃ q1, (k.kind == l.kind) = q1 := ⟨_, rfl⟩
  obtain ⟨q3, h3⟩ : ∃ q3, (k.e == l.e) = q3 := ⟨_, rfl⟩
  rw [h1, h3] at HV
  cases q1
  · skip
    go_enter Tryz.func63, Tryz.ntmps63
    go_wp2
    go_ret
    exact ⟨ret_bool (by rw [HV.out]; rfl), HE.out⟩
  · cases q2
    · skip
      go_enter Tryz.func63, Tryz.ntmps63
      go_wp2_with (go_at_call 115; refine (HEq.out _ (Ext.refl _)).mono ?_; rintro e W ⟨rfl, hEW⟩; have HEW := hide hEW; replace c2 := (Below.cell hEW (World.block_lt_of_cell? _ _ c2)).trans c2; replace d2 := (Below.cell hEW (World.block_lt_of_cell? _ _ d2)).trans d2; replace c3 := (Below.cell hEW (World.block_lt_of_cell? _ _ c3)).trans c3; replace d3 := (Below.cell hEW (World.block_lt_of_cell? _ _ d3)).trans d3; replace c4 := (Below.cell hEW (World.block_lt_of_cell? _ _ c4)).trans c4; replace d4 := (Below.cell hEW (World.block_lt_of_cell? _ _ d4)).trans d4; replace c5 := (Below.cell hEW (World.block_lt_of_cell? _ _ c5)).trans c5; replace d5 := (Below.cell hEW (World.block_lt_of_cell? _ _ d5)).trans d5; replace c6 := (Below.cell hEW (World.block_lt_of_cell? _ _ c6)).trans c6; replace d6 := (Below.cell hEW (World.block_lt_of_cell? _ _ d6)).trans d6; replace c7 := (Below.cell hEW (World.block_lt_of_cell? _ _ c7)).trans c7; replace d7 := (Below.cell hEW (World.block_lt_of_cell? _ _ d7)).trans d7; replace c8 := (Below.cell hEW (World.block_lt_of_cell? _ _ c8)).trans c8; replace d8 := (Below.cell hEW (World.block_lt_of_cell? _ _ d8)).trans d8; replace c9 := (Below.cell hEW (World.block_lt_of_cell? _ _ c9)).trans c9; replace d9 := (Below.cell hEW (World.block_lt_of_cell? _ _ d9)).trans d9; replace c10 := (Below.cell hEW (World.block_lt_of_cell? _ _ c10)).trans c10; replace d10 := (Below.cell hEW (World.block_lt_of_cell? _ _ d10)).trans d10; replace c11 := (Below.cell hEW (World.block_lt_of_cell? _ _ c11)).trans c11; replace d11 := (Below.cell hEW (World.block_lt_of_cell? _ _ d11)).trans d11; replace c12 := (Below.cell hEW (World.block_lt_of_cell? _ _ c12)).trans c12; replace d12 := (Below.cell hEW (World.block_lt_of_cell? _ _ d12)).trans d12; replace c13 := (Below.cell hEW (World.block_lt_of_cell? _ _ c13)).trans c13; replace d13 := (Below.cell hEW (World.block_lt_of_cell? _ _ d13)).trans d13; replace c14 := (Below.cell hEW (World.block_lt_of_cell? _ _ c14)).trans c14; replace d14 := (Below.cell hEW (World.block_lt_of_cell? _ _ d14)).trans d14; replace c15 := (Below.cell hEW (World.block_lt_of_cell? _ _ c15)).trans c15; replace d15 := (Below.cell hEW (World.block_lt_of_cell? _ _ d15)).trans d15; replace c16 := (Below.cell hEW (World.block_lt_of_cell? _ _ c16)).trans c16; replace d16 := (Below.cell hEW (World.block_lt_of_cell? _ _ d16)).trans d16; replace c17 := (Below.cell hEW (World.block_lt_of_cell? _ _ c17)).trans c17; replace d17 := (Below.cell hEW (World.block_lt_of_cell? _ _ d17)).trans d17; replace c18 := (Below.cell hEW (World.block_lt_of_cell? _ _ c18)).trans c18; replace d18 := (Below.cell hEW (World.block_lt_of_cell? _ _ d18)).trans d18; clear hEW)
      go_ret
      exact ⟨ret_bool (by rw [HV.out]; rfl), Ext.trans HE.out HEW.out⟩
    · cases q3
      · skip
        go_enter Tryz.func63, Tryz.ntmps63
        go_wp2_with (go_at_call 115; refine (HEq.out _ (Ext.refl _)).mono ?_; rintro e W ⟨rfl, hEW⟩; have HEW := hide hEW; replace c2 := (Below.cell hEW (World.block_lt_of_cell? _ _ c2)).trans c2; replace d2 := (Below.cell hEW (World.block_lt_of_cell? _ _ d2)).trans d2; replace c3 := (Below.cell hEW (World.block_lt_of_cell? _ _ c3)).trans c3; replace d3 := (Below.cell hEW (World.block_lt_of_cell? _ _ d3)).trans d3; replace c4 := (Below.cell hEW (World.block_lt_of_cell? _ _ c4)).trans c4; replace d4 := (Below.cell hEW (World.block_lt_of_cell? _ _ d4)).trans d4; replace c5 := (Below.cell hEW (World.block_lt_of_cell? _ _ c5)).trans c5; replace d5 := (Below.cell hEW (World.block_lt_of_cell? _ _ d5)).trans d5; replace c6 := (Below.cell hEW (World.block_lt_of_cell? _ _ c6)).trans c6; replace d6 := (Below.cell hEW (World.block_lt_of_cell? _ _ d6)).trans d6; replace c7 := (Below.cell hEW (World.block_lt_of_cell? _ _ c7)).trans c7; replace d7 := (Below.cell hEW (World.block_lt_of_cell? _ _ d7)).trans d7; replace c8 := (Below.cell hEW (World.block_lt_of_cell? _ _ c8)).trans c8; replace d8 := (Below.cell hEW (World.block_lt_of_cell? _ _ d8)).trans d8; replace c9 := (Below.cell hEW (World.block_lt_of_cell? _ _ c9)).trans c9; replace d9 := (Below.cell hEW (World.block_lt_of_cell? _ _ d9)).trans d9; replace c10 := (Below.cell hEW (World.block_lt_of_cell? _ _ c10)).trans c10; replace d10 := (Below.cell hEW (World.block_lt_of_cell? _ _ d10)).trans d10; replace c11 := (Below.cell hEW (World.block_lt_of_cell? _ _ c11)).trans c11; replace d11 := (Below.cell hEW (World.block_lt_of_cell? _ _ d11)).trans d11; replace c12 := (Below.cell hEW (World.block_lt_of_cell? _ _ c12)).trans c12; replace d12 := (Below.cell hEW (World.block_lt_of_cell? _ _ d12)).trans d12; replace c13 := (Below.cell hEW (World.block_lt_of_cell? _ _ c13)).trans c13; replace d13 := (Below.cell hEW (World.block_lt_of_cell? _ _ d13)).trans d13; replace c14 := (Below.cell hEW (World.block_lt_of_cell? _ _ c14)).trans c14; replace d14 := (Below.cell hEW (World.block_lt_of_cell? _ _ d14)).trans d14; replace c15 := (Below.cell hEW (World.block_lt_of_cell? _ _ c15)).trans c15; replace d15 := (Below.cell hEW (World.block_lt_of_cell? _ _ d15)).trans d15; replace c16 := (Below.cell hEW (World.block_lt_of_cell? _ _ c16)).trans c16; replace d16 := (Below.cell hEW (World.block_lt_of_cell? _ _ d16)).trans d16; replace c17 := (Below.cell hEW (World.block_lt_of_cell? _ _ c17)).trans c17; replace d17 := (Below.cell hEW (World.block_lt_of_cell? _ _ d17)).trans d17; replace c18 := (Below.cell hEW (World.block_lt_of_cell? _ _ c18)).trans c18; replace d18 := (Below.cell hEW (World.block_lt_of_cell? _ _ d18)).trans d18; clear hEW)
        go_ret
        exact ⟨ret_bool (by rw [HV.out]; rfl), Ext.trans HE.out HEW.out⟩
      · cases q4
        · skip
          go_enter Tryz.func63, Tryz.ntmps63
          go_wp2_with (go_at_call 115; refine (HEq.out _ (Ext.refl _)).mono ?_; rintro e W ⟨rfl, hEW⟩; have HEW := hide hEW; replace c2 := (Below.cell hEW (World.block_lt_of_cell? _ _ c2)).trans c2; replace d2 := (Below.cell hEW (World.block_lt_of_cell? _ _ d2)).trans d2; replace c3 := (Below.cell hEW (World.block_lt_of_cell? _ _ c3)).trans c3; replace d3 := (Below.cell hEW (World.block_lt_of_cell? _ _ d3)).trans d3; replace c4 := (Below.cell hEW (World.block_lt_of_cell? _ _ c4)).trans c4; replace d4 := (Below.cell hEW (World.block_lt_of_cell? _ _ d4)).trans d4; replace c5 := (Below.cell hEW (World.block_lt_of_cell? _ _ c5)).trans c5; replace d5 := (Below.cell hEW (World.block_lt_of_cell? _ _ d5)).trans d5; replace c6 := (Below.cell hEW (World.block_lt_of_cell? _ _ c6)).trans c6; replace d6 := (Below.cell hEW (World.block_lt_of_cell? _ _ d6)).trans d6; replace c7 := (Below.cell hEW (World.block_lt_of_cell? _ _ c7)).trans c7; replace d7 := (Below.cell hEW (World.block_lt_of_cell? _ _ d7)).trans d7; replace c8 := (Below.cell hEW (World.block_lt_of_cell? _ _ c8)).trans c8; replace d8 := (Below.cell hEW (World.block_lt_of_cell? _ _ d8)).trans d8; replace c9 := (Below.cell hEW (World.block_lt_of_cell? _ _ c9)).trans c9; replace d9 := (Below.cell hEW (World.block_lt_of_cell? _ _ d9)).trans d9; replace c10 := (Below.cell hEW (World.block_lt_of_cell? _ _ c10)).trans c10; replace d10 := (Below.cell hEW (World.block_lt_of_cell? _ _ d10)).trans d10; replace c11 := (Below.cell hEW (World.block_lt_of_cell? _ _ c11)).trans c11; replace d11 := (Below.cell hEW (World.block_lt_of_cell? _ _ d11)).trans d11; replace c12 := (Below.cell hEW (World.block_lt_of_cell? _ _ c12)).trans c12; replace d12 := (Below.cell hEW (World.block_lt_of_cell? _ _ d12)).trans d12; replace c13 := (Below.cell hEW (World.block_lt_of_cell? _ _ c13)).trans c13; replace d13 := (Below.cell hEW (World.block_lt_of_cell? _ _ d13)).trans d13; replace c14 := (Below.cell hEW (World.block_lt_of_cell? _ _ c14)).trans c14; replace d14 := (Below.cell hEW (World.block_lt_of_cell? _ _ d14)).trans d14; replace c15 := (Below.cell hEW (World.block_lt_of_cell? _ _ c15)).trans c15; replace d15 := (Below.cell hEW (World.block_lt_of_cell? _ _ d15)).trans d15; replace c16 := (Below.cell hEW (World.block_lt_of_cell? _ _ c16)).trans c16; replace d16 := (Below.cell hEW (World.block_lt_of_cell? _ _ d16)).trans d16; replace c17 := (Below.cell hEW (World.block_lt_of_cell? _ _ c17)).trans c17; replace d17 := (Below.cell hEW (World.block_lt_of_cell? _ _ d17)).trans d17; replace c18 := (Below.cell hEW (World.block_lt_of_cell? _ _ c18)).trans c18; replace d18 := (Below.cell hEW (World.block_lt_of_cell? _ _ d18)).trans d18; clear hEW)
          go_ret
          exact ⟨ret_bool (by rw [HV.out]; rfl), Ext.trans HE.out HEW.out⟩
        · cases q5
          · skip
            go_enter Tryz.func63, Tryz.ntmps63
            go_wp2_with (go_at_call 115; refine (HEq.out _ (Ext.refl _)).mono ?_; rintro e W ⟨rfl, hEW⟩; have HEW := hide hEW; replace c2 := (Below.cell hEW (World.block_lt_of_cell? _ _ c2)).trans c2; replace d2 := (Below.cell hEW (World.block_lt_of_cell? _ _ d2)).trans d2; replace c3 := (Below.cell hEW (World.block_lt_of_cell? _ _ c3)).trans c3; replace d3 := (Below.cell hEW (World.block_lt_of_cell? _ _ d3)).trans d3; replace c4 := (Below.cell hEW (World.block_lt_of_cell? _ _ c4)).trans c4; replace d4 := (Below.cell hEW (World.block_lt_of_cell? _ _ d4)).trans d4; replace c5 := (Below.cell hEW (World.block_lt_of_cell? _ _ c5)).trans c5; replace d5 := (Below.cell hEW (World.block_lt_of_cell? _ _ d5)).trans d5; replace c6 := (Below.cell hEW (World.block_lt_of_cell? _ _ c6)).trans c6; replace d6 := (Below.cell hEW (World.block_lt_of_cell? _ _ d6)).trans d6; replace c7 := (Below.cell hEW (World.block_lt_of_cell? _ _ c7)).trans c7; replace d7 := (Below.cell hEW (World.block_lt_of_cell? _ _ d7)).trans d7; replace c8 := (Below.cell hEW (World.block_lt_of_cell? _ _ c8)).trans c8; replace d8 := (Below.cell hEW (World.block_lt_of_cell? _ _ d8)).trans d8; replace c9 := (Below.cell hEW (World.block_lt_of_cell? _ _ c9)).trans c9; replace d9 := (Below.cell hEW (World.block_lt_of_cell? _ _ d9)).trans d9; replace c10 := (Below.cell hEW (World.block_lt_of_cell? _ _ c10)).trans c10; replace d10 := (Below.cell hEW (World.block_lt_of_cell? _ _ d10)).trans d10; replace c11 := (Below.cell hEW (World.block_lt_of_cell? _ _ c11)).trans c11; replace d11 := (Below.cell hEW (World.block_lt_of_cell? _ _ d11)).trans d11; replace c12 := (Below.cell hEW (World.block_lt_of_cell? _ _ c12)).trans c12; replace d12 := (Below.cell hEW (World.block_lt_of_cell? _ _ d12)).trans d12; replace c13 := (Below.cell hEW (World.block_lt_of_cell? _ _ c13)).trans c13; replace d13 := (Below.cell hEW (World.block_lt_of_cell? _ _ d13)).trans d13; replace c14 := (Below.cell hEW (World.block_lt_of_cell? _ _ c14)).trans c14; replace d14 := (Below.cell hEW (World.block_lt_of_cell? _ _ d14)).trans d14; replace c15 := (Below.cell hEW (World.block_lt_of_cell? _ _ c15)).trans c15; replace d15 := (Below.cell hEW (World.block_lt_of_cell? _ _ d15)).trans d15; replace c16 := (Below.cell hEW (World.block_lt_of_cell? _ _ c16)).trans c16; replace d16 := (Below.cell hEW (World.block_lt_of_cell? _ _ d16)).trans d16; replace c17 := (Below.cell hEW (World.block_lt_of_cell? _ _ c17)).trans c17; replace d17 := (Below.cell hEW (World.block_lt_of_cell? _ _ d17)).trans d17; replace c18 := (Below.cell hEW (World.block_lt_of_cell? _ _ c18)).trans c18; replace d18 := (Below.cell hEW (World.block_lt_of_cell? _ _ d18)).trans d18; clear hEW)
            go_ret
            exact ⟨ret_bool (by rw [HV.out]; rfl), Ext.trans HE.out HEW.out⟩
          · cases q6
            · skip
              go_enter Tryz.func63, Tryz.ntmps63
              go_wp2_with (go_at_call 115; refine (HEq.out _ (Ext.refl _)).mono ?_; rintro e W ⟨rfl, hEW⟩; have HEW := hide hEW; replace c2 := (Below.cell hEW (World.block_lt_of_cell? _ _ c2)).trans c2; replace d2 := (Below.cell hEW (World.block_lt_of_cell? _ _ d2)).trans d2; replace c3 := (Below.cell hEW (World.block_lt_of_cell? _ _ c3)).trans c3; replace d3 := (Below.cell hEW (World.block_lt_of_cell? _ _ d3)).trans d3; replace c4 := (Below.cell hEW (World.block_lt_of_cell? _ _ c4)).trans c4; replace d4 := (Below.cell hEW (World.block_lt_of_cell? _ _ d4)).trans d4; replace c5 := (Below.cell hEW (World.block_lt_of_cell? _ _ c5)).trans c5; replace d5 := (Below.cell hEW (World.block_lt_of_cell? _ _ d5)).trans d5; replace c6 := (Below.cell hEW (World.block_lt_of_cell? _ _ c6)).trans c6; replace d6 := (Below.cell hEW (World.block_lt_of_cell? _ _ d6)).trans d6; replace c7 := (Below.cell hEW (World.block_lt_of_cell? _ _ c7)).trans c7; replace d7 := (Below.cell hEW (World.block_lt_of_cell? _ _ d7)).trans d7; replace c8 := (Below.cell hEW (World.block_lt_of_cell? _ _ c8)).trans c8; replace d8 := (Below.cell hEW (World.block_lt_of_cell? _ _ d8)).trans d8; replace c9 := (Below.cell hEW (World.block_lt_of_cell? _ _ c9)).trans c9; replace d9 := (Below.cell hEW (World.block_lt_of_cell? _ _ d9)).trans d9; replace c10 := (Below.cell hEW (World.block_lt_of_cell? _ _ c10)).trans c10; replace d10 := (Below.cell hEW (World.block_lt_of_cell? _ _ d10)).trans d10; replace c11 := (Below.cell hEW (World.block_lt_of_cell? _ _ c11)).trans c11; replace d11 := (Below.cell hEW (World.block_lt_of_cell? _ _ d11)).trans d11; replace c12 := (Below.cell hEW (World.block_lt_of_cell? _ _ c12)).trans c12; replace d12 := (Below.cell hEW (World.block_lt_of_cell? _ _ d12)).trans d12; replace c13 := (Below.cell hEW (World.block_lt_of_cell? _ _ c13)).trans c13; replace d13 := (Below.cell hEW (World.block_lt_of_cell? _ _ d13)).trans d13; replace c14 := (Below.cell hEW (World.block_lt_of_cell? _ _ c14)).trans c14; replace d14 := (Below.cell hEW (World.block_lt_of_cell? _ _ d14)).trans d14; replace c15 := (Below.cell hEW (World.block_lt_of_cell? _ _ c15)).trans c15; replace d15 := (Below.cell hEW (World.block_lt_of_cell? _ _ d15)).trans d15; replace c16 := (Below.cell hEW (World.block_lt_of_cell? _ _ c16)).trans c16; replace d16 := (Below.cell hEW (World.block_lt_of_cell? _ _ d16)).trans d16; replace c17 := (Below.cell hEW (World.block_lt_of_cell? _ _ c17)).trans c17; replace d17 := (Below.cell hEW (World.block_lt_of_cell? _ _ d17)).trans d17; replace c18 := (Below.cell hEW (World.block_lt_of_cell? _ _ c18)).trans c18; replace d18 := (Below.cell hEW (World.block_lt_of_cell? _ _ d18)).trans d18; clear hEW)
              go_ret
              exact ⟨ret_bool (by rw [HV.out]; rfl), Ext.trans HE.out HEW.out⟩
            · cases q7
              · skip
                go_enter Tryz.func63, Tryz.ntmps63
                go_wp2_with (go_at_call 115; refine (HEq.out _ (Ext.refl _)).mono ?_; rintro e W ⟨rfl, hEW⟩; have HEW := hide hEW; replace c2 := (Below.cell hEW (World.block_lt_of_cell? _ _ c2)).trans c2; replace d2 := (Below.cell hEW (World.block_lt_of_cell? _ _ d2)).trans d2; replace c3 := (Below.cell hEW (World.block_lt_of_cell? _ _ c3)).trans c3; replace d3 := (Below.cell hEW (World.block_lt_of_cell? _ _ d3)).trans d3; replace c4 := (Below.cell hEW (World.block_lt_of_cell? _ _ c4)).trans c4; replace d4 := (Below.cell hEW (World.block_lt_of_cell? _ _ d4)).trans d4; replace c5 := (Below.cell hEW (World.block_lt_of_cell? _ _ c5)).trans c5; replace d5 := (Below.cell hEW (World.block_lt_of_cell? _ _ d5)).trans d5; replace c6 := (Below.cell hEW (World.block_lt_of_cell? _ _ c6)).trans c6; replace d6 := (Below.cell hEW (World.block_lt_of_cell? _ _ d6)).trans d6; replace c7 := (Below.cell hEW (World.block_lt_of_cell? _ _ c7)).trans c7; replace d7 := (Below.cell hEW (World.block_lt_of_cell? _ _ d7)).trans d7; replace c8 := (Below.cell hEW (World.block_lt_of_cell? _ _ c8)).trans c8; replace d8 := (Below.cell hEW (World.block_lt_of_cell? _ _ d8)).trans d8; replace c9 := (Below.cell hEW (World.block_lt_of_cell? _ _ c9)).trans c9; replace d9 := (Below.cell hEW (World.block_lt_of_cell? _ _ d9)).trans d9; replace c10 := (Below.cell hEW (World.block_lt_of_cell? _ _ c10)).trans c10; replace d10 := (Below.cell hEW (World.block_lt_of_cell? _ _ d10)).trans d10; replace c11 := (Below.cell hEW (World.block_lt_of_cell? _ _ c11)).trans c11; replace d11 := (Below.cell hEW (World.block_lt_of_cell? _ _ d11)).trans d11; replace c12 := (Below.cell hEW (World.block_lt_of_cell? _ _ c12)).trans c12; replace d12 := (Below.cell hEW (World.block_lt_of_cell? _ _ d12)).trans d12; replace c13 := (Below.cell hEW (World.block_lt_of_cell? _ _ c13)).trans c13; replace d13 := (Below.cell hEW (World.block_lt_of_cell? _ _ d13)).trans d13; replace c14 := (Below.cell hEW (World.block_lt_of_cell? _ _ c14)).trans c14; replace d14 := (Below.cell hEW (World.block_lt_of_cell? _ _ d14)).trans d14; replace c15 := (Below.cell hEW (World.block_lt_of_cell? _ _ c15)).trans c15; replace d15 := (Below.cell hEW (World.block_lt_of_cell? _ _ d15)).trans d15; replace c16 := (Below.cell hEW (World.block_lt_of_cell? _ _ c16)).trans c16; replace d16 := (Below.cell hEW (World.block_lt_of_cell? _ _ d16)).trans d16; replace c17 := (Below.cell hEW (World.block_lt_of_cell? _ _ c17)).trans c17; replace d17 := (Below.cell hEW (World.block_lt_of_cell? _ _ d17)).trans d17; replace c18 := (Below.cell hEW (World.block_lt_of_cell? _ _ c18)).trans c18; replace d18 := (Below.cell hEW (World.block_lt_of_cell? _ _ d18)).trans d18; clear hEW)
                go_ret
                exact ⟨ret_bool (by rw [HV.out]; rfl), Ext.trans HE.out HEW.out⟩
              · skip
                go_enter Tryz.func63, Tryz.ntmps63
                go_wp2_with (go_at_call 115; refine (HEq.out _ (Ext.refl _)).mono ?_; rintro e W ⟨rfl, hEW⟩; have HEW := hide hEW; replace c2 := (Below.cell hEW (World.block_lt_of_cell? _ _ c2)).trans c2; replace d2 := (Below.cell hEW (World.block_lt_of_cell? _ _ d2)).trans d2; replace c3 := (Below.cell hEW (World.block_lt_of_cell? _ _ c3)).trans c3; replace d3 := (Below.cell hEW (World.block_lt_of_cell? _ _ d3)).trans d3; replace c4 := (Below.cell hEW (World.block_lt_of_cell? _ _ c4)).trans c4; replace d4 := (Below.cell hEW (World.block_lt_of_cell? _ _ d4)).trans d4; replace c5 := (Below.cell hEW (World.block_lt_of_cell? _ _ c5)).trans c5; replace d5 := (Below.cell hEW (World.block_lt_of_cell? _ _ d5)).trans d5; replace c6 := (Below.cell hEW (World.block_lt_of_cell? _ _ c6)).trans c6; replace d6 := (Below.cell hEW (World.block_lt_of_cell? _ _ d6)).trans d6; replace c7 := (Below.cell hEW (World.block_lt_of_cell? _ _ c7)).trans c7; replace d7 := (Below.cell hEW (World.block_lt_of_cell? _ _ d7)).trans d7; replace c8 := (Below.cell hEW (World.block_lt_of_cell? _ _ c8)).trans c8; replace d8 := (Below.cell hEW (World.block_lt_of_cell? _ _ d8)).trans d8; replace c9 := (Below.cell hEW (World.block_lt_of_cell? _ _ c9)).trans c9; replace d9 := (Below.cell hEW (World.block_lt_of_cell? _ _ d9)).trans d9; replace c10 := (Below.cell hEW (World.block_lt_of_cell? _ _ c10)).trans c10; replace d10 := (Below.cell hEW (World.block_lt_of_cell? _ _ d10)).trans d10; replace c11 := (Below.cell hEW (World.block_lt_of_cell? _ _ c11)).trans c11; replace d11 := (Below.cell hEW (World.block_lt_of_cell? _ _ d11)).trans d11; replace c12 := (Below.cell hEW (World.block_lt_of_cell? _ _ c12)).trans c12; replace d12 := (Below.cell hEW (World.block_lt_of_cell? _ _ d12)).trans d12; replace c13 := (Below.cell hEW (World.block_lt_of_cell? _ _ c13)).trans c13; replace d13 := (Below.cell hEW (World.block_lt_of_cell? _ _ d13)).trans d13; replace c14 := (Below.cell hEW (World.block_lt_of_cell? _ _ c14)).trans c14; replace d14 := (Below.cell hEW (World.block_lt_of_cell? _ _ d14)).trans d14; replace c15 := (Below.cell hEW (World.block_lt_of_cell? _ _ c15)).trans c15; replace d15 := (Below.cell hEW (World.block_lt_of_cell? _ _ d15)).trans d15; replace c16 := (Below.cell hEW (World.block_lt_of_cell? _ _ c16)).trans c16; replace d16 := (Below.cell hEW (World.block_lt_of_cell? _ _ d16)).trans d16; replace c17 := (Below.cell hEW (World.block_lt_of_cell? _ _ c17)).trans c17; replace d17 := (Below.cell hEW (World.block_lt_of_cell? _ _ d17)).trans d17; replace c18 := (Below.cell hEW (World.block_lt_of_cell? _ _ c18)).trans c18; replace d18 := (Below.cell hEW (World.block_lt_of_cell? _ _ d18)).trans d18; clear hEW)
                go_ret
                exact ⟨ret_bool (by rw [HV.out]; rfl), Ext.trans HE.out HEW.out⟩

set_option linter.unusedSimpArgs false

/-- What is asked of a key of the first kind. -/
def rsB (n : Nat) (f : Nat → Int) (e : Int) : Bool := decide (128 ≤ bitsQ n f) && (decide (bitsQ n f ≤ 512) && (f 0 % 2 == 1 && (decide (3 ≤ e) && (decide (e ≤ 65537) && e % 2 == 1))))

theorem bitsQ_pos {n : Nat} {f : Nat → Int} (h : 128 ≤ bitsQ n f) : natOk n f = true ∧ 0 < n ∧ 0 ≤ f 0 ∧ f 0 ≤ 65535 ∧ bitsQ n f = bitsOf n f := by
  unfold bitsQ at h ⊢
  cases hk : natOk n f
  · rw [hk] at h; simp at h
  · rw [hk] at h
    have h0 : 0 < n := by
      rcases Nat.eq_zero_or_pos n with e | e
      · subst e; simp [bitsOf] at h
      · exact e
    have := ((natOk_iff n f).1 hk).1 0 h0
    exact ⟨rfl, h0, this.1, this.2, by simp⟩

set_option maxHeartbeats 1600000 in
theorem rsaOk_any (a : Option Addr) (b off n cap : Nat) (f : Nat → Int) (e : Int) (w : World) (hs : Seg w a b off n f) (hn : n ≤ 1048576) (he0 : -9223372036854775808 ≤ e) (he1 : e ≤ 9223372036854775807) :
    Calls Tryz.prog 62 #[.slice a n cap, .int .i64 e] w fun r w' => r = .returned (.bool (rsB n f e)) ∧ w' = w := by
  have HB := hide (implNatBits_any a b off n cap f w hs hn)
  have HV : Hid (rsB n f e = (decide (128 ≤ bitsQ n f) && (decide (bitsQ n f ≤ 512) && (f 0 % 2 == 1 && (decide (3 ≤ e) && (decide (e ≤ 65537) && e % 2 == 1)))))) := rfl
  have HP := hide (@bitsQ_pos n f)
  generalize rsB n f e = R at *
  generalize bitsQ n f = B at *
  by_cases h1 : 128 ≤ B
  · obtain ⟨-, h0, f0, f1, -⟩ := HP.out h1
    obtain rfl := hs.at' h0
    have c0 := hs.cell 0 h0
    simp only [Nat.add_zero] at c0
    have hn0 : (0 : Int) < (n : Int) := by omega
    have m1 : Int.tmod (f 0) 2 = f 0 % 2 := by rw [Int.tmod_eq_emod_of_nonneg f0]
    clear hs HP
    by_cases h2 : B ≤ 512
    · obtain ⟨q3, h3⟩ : ∃ q3, (f 0 % 2 == 1) = q3 := ⟨_, rfl⟩
      rw [h3] at HV
      generalize f 0 = z at *
      cases q3
      · go_enter Tryz.func62, Tryz.ntmps62
        go_wp2_with (go_at_call 43; refine HB.out.mono ?_; rintro r w1 ⟨rfl, hw⟩; obtain rfl := hw.symm)
        go_ret
        exact ⟨ret_bool (by rw [HV.out]; first | (simp [*]; done) | (simp; omega)), rfl⟩
      · by_cases h4 : 3 ≤ e
        · by_cases h5 : e ≤ 65537
          · obtain ⟨q6, h6⟩ : ∃ q6, (e % 2 == 1) = q6 := ⟨_, rfl⟩
            rw [h6] at HV
            have m2 : Int.tmod e 2 = e % 2 := by rw [Int.tmod_eq_emod_of_nonneg (by omega)]
            go_enter Tryz.func62, Tryz.ntmps62
            go_wp2_with (go_at_call 43; refine HB.out.mono ?_; rintro r w1 ⟨rfl, hw⟩; obtain rfl := hw.symm)
            go_ret
            exact ⟨ret_bool (by rw [HV.out]; first | (simp [*]; done) | (simp; omega)), rfl⟩
          · go_enter Tryz.func62, Tryz.ntmps62
            go_wp2_with (go_at_call 43; refine HB.out.mono ?_; rintro r w1 ⟨rfl, hw⟩; obtain rfl := hw.symm)
            go_ret
            exact ⟨ret_bool (by rw [HV.out]; first | (simp [*]; done) | (simp; omega)), rfl⟩
        · go_enter Tryz.func62, Tryz.ntmps62
          go_wp2_with (go_at_call 43; refine HB.out.mono ?_; rintro r w1 ⟨rfl, hw⟩; obtain rfl := hw.symm)
          go_ret
          exact ⟨ret_bool (by rw [HV.out]; first | (simp [*]; done) | (simp; omega)), rfl⟩
    · go_enter Tryz.func62, Tryz.ntmps62
      go_wp2_with (go_at_call 43; refine HB.out.mono ?_; rintro r w1 ⟨rfl, hw⟩; obtain rfl := hw.symm)
      go_ret
      exact ⟨ret_bool (by rw [HV.out]; first | (simp [*]; done) | (simp; omega)), rfl⟩
  · clear hs HP
    go_enter Tryz.func62, Tryz.ntmps62
    go_wp2_with (go_at_call 43; refine HB.out.mono ?_; rintro r w1 ⟨rfl, hw⟩; obtain rfl := hw.symm)
    go_ret
    exact ⟨ret_bool (by rw [HV.out]; first | (simp [*]; done) | (simp; omega)), rfl⟩

/-- What is asked of a key of the second kind. -/
def CkOk (k : Ky) : Prop := (CvOk k.cP k.cA k.cB k.cN k.cX k.cY ∧ On k.cP.toNat k.cA k.cB k.q) ∧ k.q.far = false ∧ (mulF k.cP.toNat k.cA k.cN.toNat k.q).far = true

set_option maxHeartbeats 1600000 in
theorem curveKeyOk_any (k : Ky) (ok : Bool) (hk : ok = true ↔ CkOk k) (w : World) (hP1 : k.cP ≤ 9223372036854775807) (hN1 : k.cN ≤ 9223372036854775807) :
    Calls Tryz.prog 64 #[.agg #[.int .i64 k.cP, .int .i64 k.cA, .int .i64 k.cB, .int .i64 k.cN, .int .i64 k.cX, .int .i64 k.cY], .agg #[.int .i64 k.q.x, .int .i64 k.q.y, .bool k.q.far]] w fun r w' => r = .returned (.bool ok) ∧ Ext w w' := by
  obtain ⟨V, hV⟩ : ∃ V, (w.alloc (.cells #[.int .i64 k.cP, .int .i64 k.cA, .int .i64 k.cB, .int .i64 k.cN, .int .i64 k.cX, .int .i64 k.cY] 35)).alloc (.cells #[.int .i64 k.q.x, .int .i64 k.q.y, .bool k.q.far] 36) = V := ⟨_, rfl⟩
  obtain ⟨B0, B1, hE, -⟩ := box2 w [.int .i64 k.cP, .int .i64 k.cA, .int .i64 k.cB, .int .i64 k.cN, .int .i64 k.cX, .int .i64 k.cY] [.int .i64 k.q.x, .int .i64 k.q.y, .bool k.q.far] 35 36 (w1 := V) (by rw [← hV]; exact Ext.refl _)
  have c0 := (B0 0 _ rfl).1
  have c1 := (B0 1 _ rfl).1
  have c2 := (B0 2 _ rfl).1
  have c3 := (B0 3 _ rfl).1
  have c4 := (B0 4 _ rfl).1
  have c5 := (B0 5 _ rfl).1
  have d0 := (B1 0 _ rfl).1
  have d1 := (B1 1 _ rfl).1
  have d2 := (B1 2 _ rfl).1
  have HE := hide hE
  have HM := hide (implPointMul_any k.cP k.cA k.cB k.cN k.cX k.cY k.cN k.q V hP1 hN1)
  have Hk := hide hk
  clear B0 B1 hE hk
  go_enter Tryz.func64, Tryz.ntmps64
  go_wp2_with fail
  refine HM.out.mono ?_
  rintro r w1 ⟨⟨c, b, rfl, hO⟩, hE1⟩
  have HE1 := hide (Ext.trans HE.out hE1)
  have d2' := (Below.cell hE1 (World.block_lt_of_cell? _ _ d2)).trans d2
  have dlt : w.heap.size + 1 < w1.heap.size := World.block_lt_of_cell? _ _ d2'
  have d2a : ∀ o, (w1.alloc o).cell? ⟨w.heap.size + 1, 2, none⟩ = some (.bool k.q.far) := fun o => (Below.cell (Ext.alloc w1 o) (p := ⟨w.heap.size + 1, 2, none⟩) dlt).trans d2'
  have HO := hide hO
  simp only [ptV]
  clear hE1 hO HM d0 d1 d2 c0 c1 c2 c3 c4 c5
  cases b
  · have Hf : Hid (false = ok) := by
      show _ = _
      cases h : ok
      · rfl
      · have h2 := Hk.out.1 h
        rcases HO.out with ⟨h3, _⟩ | ⟨_, h3, _⟩
        · simp at h3
        · exact absurd ⟨h2.1.1, h2.1.2, by have := h2.1.1.n5; omega, by have := h2.1.1.nM; omega⟩ h3
    go_wp2
    go_ret
    exact ⟨ret_bool Hf.out, Ext.trans HE1.out (Ext.alloc _ _)⟩
  · have hc : MulQ k.cP k.cA k.cB k.cN k.cX k.cY k.cN k.q ∧ c = mulF k.cP.toNat k.cA k.cN.toNat k.q := by
      rcases HO.out with ⟨h3, h4, h5⟩ | ⟨h3, _, _⟩
      · exact ⟨h4, h5⟩
      · simp at h3
    have Hf : Hid ((c.far && !k.q.far) = ok) := by
      show _ = _
      have h1 : ok = true ↔ c.far = true ∧ k.q.far = false := by
        rw [Hk.out, hc.2]
        exact ⟨fun h => ⟨h.2.2, h.2.1⟩, fun h => ⟨⟨hc.1.1, hc.1.2.1⟩, h.2, h.1⟩⟩
      cases h2 : ok
      · rw [h2] at h1
        cases h3 : c.far
        · rfl
        · cases h4 : k.q.far
          · exact absurd (h1.2 ⟨h3, h4⟩) (by simp)
          · rfl
      · have := h1.1 h2
        rw [this.1, this.2]
        rfl
    clear hc HO Hk
    obtain ⟨cx, cy, cf⟩ := c
    generalize k.q.far = qf at *
    cases cf <;> cases qf
    all_goals
      go_wp2
      go_ret
      exact ⟨ret_bool Hf.out, Ext.trans HE1.out (Ext.alloc _ _)⟩

/-- No key. -/
def ky0 : Ky := (⟨0, 0, fun _ => 0, 0, 0, 0, 0, 0, 0, 0, ⟨0, 0, false⟩, 0, 0, 0, 0, 0, ⟨0, 0⟩⟩ : Ky)

set_option maxHeartbeats 3200000 in
set_option maxRecDepth 100000 in
theorem noCurve_any (k : Ky) (ad : Option Addr) (cap : Nat) (w : World) :
    Calls Tryz.prog 81 #[.agg #[.int .i64 k.kind, .slice ad k.n cap, .int .i64 k.e, .int .i64 k.cP, .int .i64 k.cA, .int .i64 k.cB, .int .i64 k.cN, .int .i64 k.cX, .int .i64 k.cY, .int .i64 k.q.x, .int .i64 k.q.y, .bool k.q.far, .int .i64 k.dP, .int .i64 k.dD, .int .i64 k.dL, .int .i64 k.dX, .int .i64 k.dY, .int .i64 k.a.x, .int .i64 k.a.y]] w fun e w' => e = .returned (.bool (cvB k ky0 && ptB k ky0)) ∧ Ext w w' := by
  obtain ⟨V, hV⟩ : ∃ V, w.alloc (.cells #[.int .i64 k.kind, .slice ad k.n cap, .int .i64 k.e, .int .i64 k.cP, .int .i64 k.cA, .int .i64 k.cB, .int .i64 k.cN, .int .i64 k.cX, .int .i64 k.cY, .int .i64 k.q.x, .int .i64 k.q.y, .bool k.q.far, .int .i64 k.dP, .int .i64 k.dD, .int .i64 k.dL, .int .i64 k.dX, .int .i64 k.dY, .int .i64 k.a.x, .int .i64 k.a.y] 40) = V := ⟨_, rfl⟩
  obtain ⟨B0, hE, -⟩ := box1 w [.int .i64 k.kind, .slice ad k.n cap, .int .i64 k.e, .int .i64 k.cP, .int .i64 k.cA, .int .i64 k.cB, .int .i64 k.cN, .int .i64 k.cX, .int .i64 k.cY, .int .i64 k.q.x, .int .i64 k.q.y, .bool k.q.far, .int .i64 k.dP, .int .i64 k.dD, .int .i64 k.dL, .int .i64 k.dX, .int .i64 k.dY, .int .i64 k.a.x, .int .i64 k.a.y] 40 (w1 := V) (by rw [← hV]; exact Ext.refl _)
  have c0 := (B0 0 _ rfl).1
  have c1 := (B0 1 _ rfl).1
  have c2 := (B0 2 _ rfl).1
  have c3 := (B0 3 _ rfl).1
  have c4 := (B0 4 _ rfl).1
  have c5 := (B0 5 _ rfl).1
  have c6 := (B0 6 _ rfl).1
  have c7 := (B0 7 _ rfl).1
  have c8 := (B0 8 _ rfl).1
  have c9 := (B0 9 _ rfl).1
  have c10 := (B0 10 _ rfl).1
  have c11 := (B0 11 _ rfl).1
  have c12 := (B0 12 _ rfl).1
  have c13 := (B0 13 _ rfl).1
  have c14 := (B0 14 _ rfl).1
  have c15 := (B0 15 _ rfl).1
  have c16 := (B0 16 _ rfl).1
  have c17 := (B0 17 _ rfl).1
  have c18 := (B0 18 _ rfl).1
  have HE := hide hE
  clear B0 hE
  have h4 : ∀ w, (binOp .eql 35 (.agg #[.int .i64 k.cP, .int .i64 k.cA, .int .i64 k.cB, .int .i64 k.cN, .int .i64 k.cX, .int .i64 k.cY]) (.agg #[.int .i64 0, .int .i64 0, .int .i64 0, .int .i64 0, .int .i64 0, .int .i64 0])).run Tryz.prog w = .ok (.bool (cvB k ky0)) w := fun w => run_eqCv _ _ _ _ _ _ _ _ _ _ _ _ w
  have h5 : ∀ w, (binOp .eql 36 (.agg #[.int .i64 k.q.x, .int .i64 k.q.y, .bool k.q.far]) (.agg #[.int .i64 0, .int .i64 0, .bool false])).run Tryz.prog w = .ok (.bool (ptB k ky0)) w := fun w => run_eqPt _ _ _ _ _ _ w
  generalize cvB k ky0 = q4 at *
  generalize ptB k ky0 = q5 at *
  cases q4
  · go_enter Tryz.func81, Tryz.ntmps81
    go_wp2
    go_ret
    exact ⟨rfl, HE.out⟩
  · go_enter Tryz.func81, Tryz.ntmps81
    go_wp2
    go_ret
    exact ⟨rfl, HE.out⟩

set_option maxHeartbeats 3200000 in
set_option maxRecDepth 100000 in
theorem noEd_any (k : Ky) (ad : Option Addr) (cap : Nat) (w : World) :
    Calls Tryz.prog 82 #[.agg #[.int .i64 k.kind, .slice ad k.n cap, .int .i64 k.e, .int .i64 k.cP, .int .i64 k.cA, .int .i64 k.cB, .int .i64 k.cN, .int .i64 k.cX, .int .i64 k.cY, .int .i64 k.q.x, .int .i64 k.q.y, .bool k.q.far, .int .i64 k.dP, .int .i64 k.dD, .int .i64 k.dL, .int .i64 k.dX, .int .i64 k.dY, .int .i64 k.a.x, .int .i64 k.a.y]] w fun e w' => e = .returned (.bool (edB k ky0 && prB k ky0)) ∧ Ext w w' := by
  obtain ⟨V, hV⟩ : ∃ V, w.alloc (.cells #[.int .i64 k.kind, .slice ad k.n cap, .int .i64 k.e, .int .i64 k.cP, .int .i64 k.cA, .int .i64 k.cB, .int .i64 k.cN, .int .i64 k.cX, .int .i64 k.cY, .int .i64 k.q.x, .int .i64 k.q.y, .bool k.q.far, .int .i64 k.dP, .int .i64 k.dD, .int .i64 k.dL, .int .i64 k.dX, .int .i64 k.dY, .int .i64 k.a.x, .int .i64 k.a.y] 40) = V := ⟨_, rfl⟩
  obtain ⟨B0, hE, -⟩ := box1 w [.int .i64 k.kind, .slice ad k.n cap, .int .i64 k.e, .int .i64 k.cP, .int .i64 k.cA, .int .i64 k.cB, .int .i64 k.cN, .int .i64 k.cX, .int .i64 k.cY, .int .i64 k.q.x, .int .i64 k.q.y, .bool k.q.far, .int .i64 k.dP, .int .i64 k.dD, .int .i64 k.dL, .int .i64 k.dX, .int .i64 k.dY, .int .i64 k.a.x, .int .i64 k.a.y] 40 (w1 := V) (by rw [← hV]; exact Ext.refl _)
  have c0 := (B0 0 _ rfl).1
  have c1 := (B0 1 _ rfl).1
  have c2 := (B0 2 _ rfl).1
  have c3 := (B0 3 _ rfl).1
  have c4 := (B0 4 _ rfl).1
  have c5 := (B0 5 _ rfl).1
  have c6 := (B0 6 _ rfl).1
  have c7 := (B0 7 _ rfl).1
  have c8 := (B0 8 _ rfl).1
  have c9 := (B0 9 _ rfl).1
  have c10 := (B0 10 _ rfl).1
  have c11 := (B0 11 _ rfl).1
  have c12 := (B0 12 _ rfl).1
  have c13 := (B0 13 _ rfl).1
  have c14 := (B0 14 _ rfl).1
  have c15 := (B0 15 _ rfl).1
  have c16 := (B0 16 _ rfl).1
  have c17 := (B0 17 _ rfl).1
  have c18 := (B0 18 _ rfl).1
  have HE := hide hE
  clear B0 hE
  have h4 : ∀ w, (binOp .eql 37 (.agg #[.int .i64 k.dP, .int .i64 k.dD, .int .i64 k.dL, .int .i64 k.dX, .int .i64 k.dY]) (.agg #[.int .i64 0, .int .i64 0, .int .i64 0, .int .i64 0, .int .i64 0])).run Tryz.prog w = .ok (.bool (edB k ky0)) w := fun w => run_eqEd _ _ _ _ _ _ _ _ _ _ w
  have h5 : ∀ w, (binOp .eql 38 (.agg #[.int .i64 k.a.x, .int .i64 k.a.y]) (.agg #[.int .i64 0, .int .i64 0])).run Tryz.prog w = .ok (.bool (prB k ky0)) w := fun w => run_eqPr _ _ _ _ w
  generalize edB k ky0 = q4 at *
  generalize prB k ky0 = q5 at *
  cases q4
  · go_enter Tryz.func82, Tryz.ntmps82
    go_wp2
    go_ret
    exact ⟨rfl, HE.out⟩
  · go_enter Tryz.func82, Tryz.ntmps82
    go_wp2
    go_ret
    exact ⟨rfl, HE.out⟩

set_option maxHeartbeats 3200000 in
set_option maxRecDepth 100000 in
theorem noRsa_any (k : Ky) (ad : Option Addr) (cap : Nat) (w : World) :
    Calls Tryz.prog 85 #[.agg #[.int .i64 k.kind, .slice ad k.n cap, .int .i64 k.e, .int .i64 k.cP, .int .i64 k.cA, .int .i64 k.cB, .int .i64 k.cN, .int .i64 k.cX, .int .i64 k.cY, .int .i64 k.q.x, .int .i64 k.q.y, .bool k.q.far, .int .i64 k.dP, .int .i64 k.dD, .int .i64 k.dL, .int .i64 k.dX, .int .i64 k.dY, .int .i64 k.a.x, .int .i64 k.a.y]] w fun e w' => e = .returned (.bool (k.n == 0 && k.e == 0)) ∧ Ext w w' := by
  obtain ⟨V, hV⟩ : ∃ V, w.alloc (.cells #[.int .i64 k.kind, .slice ad k.n cap, .int .i64 k.e, .int .i64 k.cP, .int .i64 k.cA, .int .i64 k.cB, .int .i64 k.cN, .int .i64 k.cX, .int .i64 k.cY, .int .i64 k.q.x, .int .i64 k.q.y, .bool k.q.far, .int .i64 k.dP, .int .i64 k.dD, .int .i64 k.dL, .int .i64 k.dX, .int .i64 k.dY, .int .i64 k.a.x, .int .i64 k.a.y] 40) = V := ⟨_, rfl⟩
  obtain ⟨B0, hE, -⟩ := box1 w [.int .i64 k.kind, .slice ad k.n cap, .int .i64 k.e, .int .i64 k.cP, .int .i64 k.cA, .int .i64 k.cB, .int .i64 k.cN, .int .i64 k.cX, .int .i64 k.cY, .int .i64 k.q.x, .int .i64 k.q.y, .bool k.q.far, .int .i64 k.dP, .int .i64 k.dD, .int .i64 k.dL, .int .i64 k.dX, .int .i64 k.dY, .int .i64 k.a.x, .int .i64 k.a.y] 40 (w1 := V) (by rw [← hV]; exact Ext.refl _)
  have c0 := (B0 0 _ rfl).1
  have c1 := (B0 1 _ rfl).1
  have c2 := (B0 2 _ rfl).1
  have c3 := (B0 3 _ rfl).1
  have c4 := (B0 4 _ rfl).1
  have c5 := (B0 5 _ rfl).1
  have c6 := (B0 6 _ rfl).1
  have c7 := (B0 7 _ rfl).1
  have c8 := (B0 8 _ rfl).1
  have c9 := (B0 9 _ rfl).1
  have c10 := (B0 10 _ rfl).1
  have c11 := (B0 11 _ rfl).1
  have c12 := (B0 12 _ rfl).1
  have c13 := (B0 13 _ rfl).1
  have c14 := (B0 14 _ rfl).1
  have c15 := (B0 15 _ rfl).1
  have c16 := (B0 16 _ rfl).1
  have c17 := (B0 17 _ rfl).1
  have c18 := (B0 18 _ rfl).1
  have HE := hide hE
  clear B0 hE
  obtain ⟨q4, h4⟩ : ∃ q4, (k.n == 0) = q4 := ⟨_, rfl⟩
  obtain ⟨q5, h5⟩ : ∃ q5, (k.e == 0) = q5 := ⟨_, rfl⟩
  have h4' : ((k.n : Int) == 0) = q4 := by rw [← h4]; cases h : (k.n == 0) <;> simp at h ⊢ <;> omega
  rw [h4, h5]
  clear h4
  cases q4
  · go_enter Tryz.func85, Tryz.ntmps85
    go_wp2
    go_ret
    exact ⟨rfl, HE.out⟩
  · go_enter Tryz.func85, Tryz.ntmps85
    go_wp2
    go_ret
    exact ⟨rfl, HE.out⟩

set_option linter.unusedSimpArgs false

def ncB (k : Ky) : Bool := cvB k ky0 && ptB k ky0
def neB (k : Ky) : Bool := edB k ky0 && prB k ky0
def nrB (k : Ky) : Bool := k.n == 0 && k.e == 0
def EkOk (k : Ky) : Prop := EvOk k.dP k.dD k.dL k.dX k.dY ∧ OnE k.dP.toNat k.dD k.a
/-- What is asked of a key. -/
def KeyP (k : Ky) : Prop := (k.kind = 1 ∧ ncB k = true ∧ neB k = true ∧ rsB k.n k.f k.e = true) ∨ (k.kind = 2 ∧ nrB k = true ∧ neB k = true ∧ CkOk k) ∨ (k.kind = 3 ∧ nrB k = true ∧ ncB k = true ∧ EkOk k)

/-- What is known of a key's numbers. -/
structure KyIn (k : Ky) : Prop where
  n : k.n ≤ 1048576
  e0 : -9223372036854775808 ≤ k.e
  e1 : k.e ≤ 9223372036854775807
  p : k.cP ≤ 9223372036854775807
  c : k.cN ≤ 9223372036854775807
  d : k.dP ≤ 9223372036854775807
  l : k.dL ≤ 9223372036854775807

def rsKy (k : Ky) : Ky := { ky0 with kind := 1, n := k.n, f := k.f, e := k.e }
def cvKy (k : Ky) : Ky := { ky0 with kind := 2, cP := k.cP, cA := k.cA, cB := k.cB, cN := k.cN, cX := k.cX, cY := k.cY, q := k.q }
def edKy (k : Ky) : Ky := { ky0 with kind := 3, dP := k.dP, dD := k.dD, dL := k.dL, dX := k.dX, dY := k.dY, a := k.a }

theorem alk_rs (k : Ky) (h : (k.kind == 1) = true) : alkB k (rsKy k) = (ncB k && neB k) := by
  have h2 : nsB k (rsKy k) = true := by
    unfold nsB
    rw [show (rsKy k).n = k.n from rfl, show (rsKy k).f = k.f from rfl, alike_refl]
  have h1 : (k.kind == (rsKy k).kind) = true := h
  have h3 : (k.e == (rsKy k).e) = true := by show (k.e == k.e) = true; simp
  unfold alkB ncB neB
  rw [h1, h2, h3, Bool.true_and, Bool.true_and, Bool.true_and]
  show (cvB k ky0 && (ptB k ky0 && (edB k ky0 && prB k ky0))) = _
  simp only [Bool.and_assoc]
theorem ns_none (k l : Ky) (h : l.n = 0) : nsB k l = (k.n == 0) := by
  unfold nsB
  rw [h]
  cases e : (k.n == 0)
  · rfl
  · have : k.n = 0 := by simpa using e
    rw [this]
    rfl
theorem alk_cv (k : Ky) (h : (k.kind == 2) = true) : alkB k (cvKy k) = (nrB k && neB k) := by
  have h1 : (k.kind == (cvKy k).kind) = true := h
  have h4 : cvB k (cvKy k) = true := by show cvB k k = true; unfold cvB; simp
  have h5 : ptB k (cvKy k) = true := by show ptB k k = true; unfold ptB; simp
  unfold alkB nrB neB
  rw [h1, ns_none k _ rfl, h4, h5, Bool.true_and, Bool.true_and, Bool.true_and]
  show ((k.n == 0) && ((k.e == 0) && (edB k ky0 && prB k ky0))) = _
  simp only [Bool.and_assoc]
theorem alk_ed (k : Ky) (h : (k.kind == 3) = true) : alkB k (edKy k) = (nrB k && ncB k) := by
  have h1 : (k.kind == (edKy k).kind) = true := h
  have h6 : edB k (edKy k) = true := by show edB k k = true; unfold edB; simp
  have h7 : prB k (edKy k) = true := by show prB k k = true; unfold prB; simp
  unfold alkB nrB ncB
  rw [h1, ns_none k _ rfl, h6, h7, Bool.true_and, Bool.and_true, Bool.and_true]
  show ((k.n == 0) && ((k.e == 0) && (cvB k ky0 && ptB k ky0))) = _
  simp only [Bool.and_assoc]

theorem key1 {k : Ky} {ok : Bool} (hk : ok = true ↔ KeyP k) (h : k.kind = 1) : ok = (rsB k.n k.f k.e && (ncB k && neB k)) := by
  have : ok = true ↔ (rsB k.n k.f k.e && (ncB k && neB k)) = true := by
    rw [hk]
    unfold KeyP
    simp only [h, Bool.and_eq_true]
    constructor
    · rintro (h | h | h)
      · exact ⟨h.2.2.2, h.2.1, h.2.2.1⟩
      · omega
      · omega
    · rintro ⟨h1, h2, h3⟩
      exact .inl ⟨trivial, h2, h3, h1⟩
  exact Bool.eq_iff_iff.2 this
theorem key2 {k : Ky} {ok b : Bool} (hk : ok = true ↔ KeyP k) (hb : b = true ↔ CkOk k) (h : k.kind = 2) : ok = (b && (nrB k && neB k)) := by
  have : ok = true ↔ (b && (nrB k && neB k)) = true := by
    rw [hk]
    unfold KeyP
    simp only [h, Bool.and_eq_true, hb]
    constructor
    · rintro (h | h | h)
      · omega
      · exact ⟨h.2.2.2, h.2.1, h.2.2.1⟩
      · omega
    · rintro ⟨h1, h2, h3⟩
      exact .inr (.inl ⟨trivial, h2, h3, h1⟩)
  exact Bool.eq_iff_iff.2 this
theorem key3 {k : Ky} {ok b : Bool} (hk : ok = true ↔ KeyP k) (hb : b = true ↔ EkOk k) (h : k.kind = 3) : ok = (b && (nrB k && ncB k)) := by
  have : ok = true ↔ (b && (nrB k && ncB k)) = true := by
    rw [hk]
    unfold KeyP
    simp only [h, Bool.and_eq_true, hb]
    constructor
    · rintro (h | h | h)
      · omega
      · omega
      · exact ⟨h.2.2.2, h.2.1, h.2.2.1⟩
    · rintro ⟨h1, h2, h3⟩
      exact .inr (.inr ⟨trivial, h2, h3, h1⟩)
  exact Bool.eq_iff_iff.2 this
theorem key0 {k : Ky} {ok : Bool} (hk : ok = true ↔ KeyP k) (h1 : k.kind ≠ 1) (h2 : k.kind ≠ 2) (h3 : k.kind ≠ 3) : ok = false := by
  cases e : ok
  · rfl
  · rcases hk.1 e with h | h | h
    · exact absurd h.1 h1
    · exact absurd h.1 h2
    · exact absurd h.1 h3
theorem tell (P : Prop) : ∃ b : Bool, b = true ↔ P := by
  rcases Classical.em P with h | h
  · exact ⟨true, fun _ => h, fun _ => rfl⟩
  · exact ⟨false, fun k => by simp at k, fun k => absurd k h⟩

set_option maxHeartbeats 6400000 in
set_option maxRecDepth 100000 in
theorem implKey_one_no (k : Ky) (ad : Option Addr) (b off cap : Nat) (w : World) (g1 : (k.kind == 1) = true) (HR : Hid (∀ W, Ext w W → Calls Tryz.prog 62 #[.slice ad k.n cap, .int .i64 k.e] W fun e w' => e = .returned (.bool false) ∧ Ext W w')) :
    Calls Tryz.prog 19 #[.agg #[.int .i64 k.kind, .slice ad k.n cap, .int .i64 k.e, .int .i64 k.cP, .int .i64 k.cA, .int .i64 k.cB, .int .i64 k.cN, .int .i64 k.cX, .int .i64 k.cY, .int .i64 k.q.x, .int .i64 k.q.y, .bool k.q.far, .int .i64 k.dP, .int .i64 k.dD, .int .i64 k.dL, .int .i64 k.dX, .int .i64 k.dY, .int .i64 k.a.x, .int .i64 k.a.y]] w fun r w' => r = .returned (.bool false) ∧ Ext w w' := by
  obtain ⟨V, hV⟩ : ∃ V, w.alloc (.cells #[.int .i64 k.kind, .slice ad k.n cap, .int .i64 k.e, .int .i64 k.cP, .int .i64 k.cA, .int .i64 k.cB, .int .i64 k.cN, .int .i64 k.cX, .int .i64 k.cY, .int .i64 k.q.x, .int .i64 k.q.y, .bool k.q.far, .int .i64 k.dP, .int .i64 k.dD, .int .i64 k.dL, .int .i64 k.dX, .int .i64 k.dY, .int .i64 k.a.x, .int .i64 k.a.y] 40) = V := ⟨_, rfl⟩
  obtain ⟨B0, hE, -⟩ := box1 w [.int .i64 k.kind, .slice ad k.n cap, .int .i64 k.e, .int .i64 k.cP, .int .i64 k.cA, .int .i64 k.cB, .int .i64 k.cN, .int .i64 k.cX, .int .i64 k.cY, .int .i64 k.q.x, .int .i64 k.q.y, .bool k.q.far, .int .i64 k.dP, .int .i64 k.dD, .int .i64 k.dL, .int .i64 k.dX, .int .i64 k.dY, .int .i64 k.a.x, .int .i64 k.a.y] 40 (w1 := V) (by rw [← hV]; exact Ext.refl _)
  have c0 := (B0 0 _ rfl).1
  have c1 := (B0 1 _ rfl).1
  have c2 := (B0 2 _ rfl).1
  have c3 := (B0 3 _ rfl).1
  have c4 := (B0 4 _ rfl).1
  have c5 := (B0 5 _ rfl).1
  have c6 := (B0 6 _ rfl).1
  have c7 := (B0 7 _ rfl).1
  have c8 := (B0 8 _ rfl).1
  have c9 := (B0 9 _ rfl).1
  have c10 := (B0 10 _ rfl).1
  have c11 := (B0 11 _ rfl).1
  have c12 := (B0 12 _ rfl).1
  have c13 := (B0 13 _ rfl).1
  have c14 := (B0 14 _ rfl).1
  have c15 := (B0 15 _ rfl).1
  have c16 := (B0 16 _ rfl).1
  have c17 := (B0 17 _ rfl).1
  have c18 := (B0 18 _ rfl).1
  have HE := hide hE
  clear hE
  go_enter Tryz.func19, Tryz.ntmps19
  go_wp2_with fail
  refine (HR.out _ HE.out).mono ?_
  rintro e W ⟨rfl, hEW⟩
  have HEW := hide hEW
  clear hEW B0 c0 c1 c2 c3 c4 c5 c6 c7 c8 c9 c10 c11 c12 c13 c14 c15 c16 c17 c18
  go_wp2
  go_ret
  exact ⟨rfl, Ext.trans HE.out HEW.out⟩

set_option maxHeartbeats 6400000 in
set_option maxRecDepth 100000 in
theorem implKey_one_yes (k : Ky) (ad : Option Addr) (b off cap : Nat) (r2 : Bool) (w : World) (g1 : (k.kind == 1) = true) (HR : Hid (∀ W, Ext w W → Calls Tryz.prog 62 #[.slice ad k.n cap, .int .i64 k.e] W fun e w' => e = .returned (.bool true) ∧ Ext W w')) (HA : Hid (∀ W, Ext w W → Calls Tryz.prog 63 #[.agg #[.int .i64 k.kind, .slice ad k.n cap, .int .i64 k.e, .int .i64 k.cP, .int .i64 k.cA, .int .i64 k.cB, .int .i64 k.cN, .int .i64 k.cX, .int .i64 k.cY, .int .i64 k.q.x, .int .i64 k.q.y, .bool k.q.far, .int .i64 k.dP, .int .i64 k.dD, .int .i64 k.dL, .int .i64 k.dX, .int .i64 k.dY, .int .i64 k.a.x, .int .i64 k.a.y], .agg #[.int .i64 1, .slice ad k.n cap, .int .i64 k.e, .int .i64 0, .int .i64 0, .int .i64 0, .int .i64 0, .int .i64 0, .int .i64 0, .int .i64 0, .int .i64 0, .bool false, .int .i64 0, .int .i64 0, .int .i64 0, .int .i64 0, .int .i64 0, .int .i64 0, .int .i64 0]] W fun e w' => e = .returned (.bool r2) ∧ Ext W w')) :
    Calls Tryz.prog 19 #[.agg #[.int .i64 k.kind, .slice ad k.n cap, .int .i64 k.e, .int .i64 k.cP, .int .i64 k.cA, .int .i64 k.cB, .int .i64 k.cN, .int .i64 k.cX, .int .i64 k.cY, .int .i64 k.q.x, .int .i64 k.q.y, .bool k.q.far, .int .i64 k.dP, .int .i64 k.dD, .int .i64 k.dL, .int .i64 k.dX, .int .i64 k.dY, .int .i64 k.a.x, .int .i64 k.a.y]] w fun r w' => r = .returned (.bool r2) ∧ Ext w w' := by
  obtain ⟨V, hV⟩ : ∃ V, w.alloc (.cells #[.int .i64 k.kind, .slice ad k.n cap, .int .i64 k.e, .int .i64 k.cP, .int .i64 k.cA, .int .i64 k.cB, .int .i64 k.cN, .int .i64 k.cX, .int .i64 k.cY, .int .i64 k.q.x, .int .i64 k.q.y, .bool k.q.far, .int .i64 k.dP, .int .i64 k.dD, .int .i64 k.dL, .int .i64 k.dX, .int .i64 k.dY, .int .i64 k.a.x, .int .i64 k.a.y] 40) = V := ⟨_, rfl⟩
  obtain ⟨B0, hE, -⟩ := box1 w [.int .i64 k.kind, .slice ad k.n cap, .int .i64 k.e, .int .i64 k.cP, .int .i64 k.cA, .int .i64 k.cB, .int .i64 k.cN, .int .i64 k.cX, .int .i64 k.cY, .int .i64 k.q.x, .int .i64 k.q.y, .bool k.q.far, .int .i64 k.dP, .int .i64 k.dD, .int .i64 k.dL, .int .i64 k.dX, .int .i64 k.dY, .int .i64 k.a.x, .int .i64 k.a.y] 40 (w1 := V) (by rw [← hV]; exact Ext.refl _)
  have c0 := (B0 0 _ rfl).1
  have c1 := (B0 1 _ rfl).1
  have c2 := (B0 2 _ rfl).1
  have c3 := (B0 3 _ rfl).1
  have c4 := (B0 4 _ rfl).1
  have c5 := (B0 5 _ rfl).1
  have c6 := (B0 6 _ rfl).1
  have c7 := (B0 7 _ rfl).1
  have c8 := (B0 8 _ rfl).1
  have c9 := (B0 9 _ rfl).1
  have c10 := (B0 10 _ rfl).1
  have c11 := (B0 11 _ rfl).1
  have c12 := (B0 12 _ rfl).1
  have c13 := (B0 13 _ rfl).1
  have c14 := (B0 14 _ rfl).1
  have c15 := (B0 15 _ rfl).1
  have c16 := (B0 16 _ rfl).1
  have c17 := (B0 17 _ rfl).1
  have c18 := (B0 18 _ rfl).1
  have HE := hide hE
  clear hE
  go_enter Tryz.func19, Tryz.ntmps19
  go_wp2_with fail
  refine (HR.out _ HE.out).mono ?_
  rintro e W ⟨rfl, hEW⟩
  have hB := Blk.ext B0 hEW (World.block_lt_of_cell? _ _ (B0 0 _ rfl).1)
  have hld : (loadVar 40 ⟨w.heap.size, 0, none⟩).run Tryz.prog W = .ok (.agg #[.int .i64 k.kind, .slice ad k.n cap, .int .i64 k.e, .int .i64 k.cP, .int .i64 k.cA, .int .i64 k.cB, .int .i64 k.cN, .int .i64 k.cX, .int .i64 k.cY, .int .i64 k.q.x, .int .i64 k.q.y, .bool k.q.far, .int .i64 k.dP, .int .i64 k.dD, .int .i64 k.dL, .int .i64 k.dX, .int .i64 k.dY, .int .i64 k.a.x, .int .i64 k.a.y]) W := run_loadKey [.int .i64 k.kind, .slice ad k.n cap, .int .i64 k.e, .int .i64 k.cP, .int .i64 k.cA, .int .i64 k.cB, .int .i64 k.cN, .int .i64 k.cX, .int .i64 k.cY, .int .i64 k.q.x, .int .i64 k.q.y, .bool k.q.far, .int .i64 k.dP, .int .i64 k.dD, .int .i64 k.dL, .int .i64 k.dX, .int .i64 k.dY, .int .i64 k.a.x, .int .i64 k.a.y] rfl w.heap.size W (fun j v h => (hB j v h).1)
  clear c0 c1 c2 c3 c4 c5 c6 c7 c8 c9 c10 c11 c12 c13 c14 c15 c16 c17 c18
  have c1 := (hB 1 _ rfl).1
  have c2 := (hB 2 _ rfl).1
  have HEW := hide (Ext.trans HE.out hEW)
  clear hEW HR hB B0
  go_wp2_with (refine wpList_load_on (by first | rfl | simp [Region.wanted, yielded]) 40 _ rfl _ rfl _ hld ?_)
  refine (HA.out _ HEW.out).mono ?_
  rintro e W2 ⟨rfl, hEW⟩
  have HEW2 := hide (Ext.trans HEW.out hEW)
  clear hEW HA hld c1 c2
  go_wp2
  go_ret
  exact ⟨rfl, HEW2.out⟩

set_option maxHeartbeats 6400000 in
set_option maxRecDepth 100000 in
theorem implKey_two_no (k : Ky) (ad : Option Addr) (b off cap : Nat) (w : World) (g1 : (k.kind == 1) = false) (g2 : (k.kind == 2) = true) (HR : Hid (∀ W, Ext w W → Calls Tryz.prog 64 #[.agg #[.int .i64 k.cP, .int .i64 k.cA, .int .i64 k.cB, .int .i64 k.cN, .int .i64 k.cX, .int .i64 k.cY], .agg #[.int .i64 k.q.x, .int .i64 k.q.y, .bool k.q.far]] W fun e w' => e = .returned (.bool false) ∧ Ext W w')) :
    Calls Tryz.prog 19 #[.agg #[.int .i64 k.kind, .slice ad k.n cap, .int .i64 k.e, .int .i64 k.cP, .int .i64 k.cA, .int .i64 k.cB, .int .i64 k.cN, .int .i64 k.cX, .int .i64 k.cY, .int .i64 k.q.x, .int .i64 k.q.y, .bool k.q.far, .int .i64 k.dP, .int .i64 k.dD, .int .i64 k.dL, .int .i64 k.dX, .int .i64 k.dY, .int .i64 k.a.x, .int .i64 k.a.y]] w fun r w' => r = .returned (.bool false) ∧ Ext w w' := by
  obtain ⟨V, hV⟩ : ∃ V, w.alloc (.cells #[.int .i64 k.kind, .slice ad k.n cap, .int .i64 k.e, .int .i64 k.cP, .int .i64 k.cA, .int .i64 k.cB, .int .i64 k.cN, .int .i64 k.cX, .int .i64 k.cY, .int .i64 k.q.x, .int .i64 k.q.y, .bool k.q.far, .int .i64 k.dP, .int .i64 k.dD, .int .i64 k.dL, .int .i64 k.dX, .int .i64 k.dY, .int .i64 k.a.x, .int .i64 k.a.y] 40) = V := ⟨_, rfl⟩
  obtain ⟨B0, hE, -⟩ := box1 w [.int .i64 k.kind, .slice ad k.n cap, .int .i64 k.e, .int .i64 k.cP, .int .i64 k.cA, .int .i64 k.cB, .int .i64 k.cN, .int .i64 k.cX, .int .i64 k.cY, .int .i64 k.q.x, .int .i64 k.q.y, .bool k.q.far, .int .i64 k.dP, .int .i64 k.dD, .int .i64 k.dL, .int .i64 k.dX, .int .i64 k.dY, .int .i64 k.a.x, .int .i64 k.a.y] 40 (w1 := V) (by rw [← hV]; exact Ext.refl _)
  have c0 := (B0 0 _ rfl).1
  have c1 := (B0 1 _ rfl).1
  have c2 := (B0 2 _ rfl).1
  have c3 := (B0 3 _ rfl).1
  have c4 := (B0 4 _ rfl).1
  have c5 := (B0 5 _ rfl).1
  have c6 := (B0 6 _ rfl).1
  have c7 := (B0 7 _ rfl).1
  have c8 := (B0 8 _ rfl).1
  have c9 := (B0 9 _ rfl).1
  have c10 := (B0 10 _ rfl).1
  have c11 := (B0 11 _ rfl).1
  have c12 := (B0 12 _ rfl).1
  have c13 := (B0 13 _ rfl).1
  have c14 := (B0 14 _ rfl).1
  have c15 := (B0 15 _ rfl).1
  have c16 := (B0 16 _ rfl).1
  have c17 := (B0 17 _ rfl).1
  have c18 := (B0 18 _ rfl).1
  have HE := hide hE
  clear hE
  go_enter Tryz.func19, Tryz.ntmps19
  go_wp2_with fail
  refine (HR.out _ HE.out).mono ?_
  rintro e W ⟨rfl, hEW⟩
  have HEW := hide hEW
  clear hEW B0 c0 c1 c2 c3 c4 c5 c6 c7 c8 c9 c10 c11 c12 c13 c14 c15 c16 c17 c18
  go_wp2
  go_ret
  exact ⟨rfl, Ext.trans HE.out HEW.out⟩

set_option maxHeartbeats 6400000 in
set_option maxRecDepth 100000 in
theorem implKey_two_yes (k : Ky) (ad : Option Addr) (b off cap : Nat) (r2 : Bool) (w : World) (g1 : (k.kind == 1) = false) (g2 : (k.kind == 2) = true) (HR : Hid (∀ W, Ext w W → Calls Tryz.prog 64 #[.agg #[.int .i64 k.cP, .int .i64 k.cA, .int .i64 k.cB, .int .i64 k.cN, .int .i64 k.cX, .int .i64 k.cY], .agg #[.int .i64 k.q.x, .int .i64 k.q.y, .bool k.q.far]] W fun e w' => e = .returned (.bool true) ∧ Ext W w')) (HA : Hid (∀ W, Ext w W → Calls Tryz.prog 63 #[.agg #[.int .i64 k.kind, .slice ad k.n cap, .int .i64 k.e, .int .i64 k.cP, .int .i64 k.cA, .int .i64 k.cB, .int .i64 k.cN, .int .i64 k.cX, .int .i64 k.cY, .int .i64 k.q.x, .int .i64 k.q.y, .bool k.q.far, .int .i64 k.dP, .int .i64 k.dD, .int .i64 k.dL, .int .i64 k.dX, .int .i64 k.dY, .int .i64 k.a.x, .int .i64 k.a.y], .agg #[.int .i64 2, .slice none 0 0, .int .i64 0, .int .i64 k.cP, .int .i64 k.cA, .int .i64 k.cB, .int .i64 k.cN, .int .i64 k.cX, .int .i64 k.cY, .int .i64 k.q.x, .int .i64 k.q.y, .bool k.q.far, .int .i64 0, .int .i64 0, .int .i64 0, .int .i64 0, .int .i64 0, .int .i64 0, .int .i64 0]] W fun e w' => e = .returned (.bool r2) ∧ Ext W w')) :
    Calls Tryz.prog 19 #[.agg #[.int .i64 k.kind, .slice ad k.n cap, .int .i64 k.e, .int .i64 k.cP, .int .i64 k.cA, .int .i64 k.cB, .int .i64 k.cN, .int .i64 k.cX, .int .i64 k.cY, .int .i64 k.q.x, .int .i64 k.q.y, .bool k.q.far, .int .i64 k.dP, .int .i64 k.dD, .int .i64 k.dL, .int .i64 k.dX, .int .i64 k.dY, .int .i64 k.a.x, .int .i64 k.a.y]] w fun r w' => r = .returned (.bool r2) ∧ Ext w w' := by
  obtain ⟨V, hV⟩ : ∃ V, w.alloc (.cells #[.int .i64 k.kind, .slice ad k.n cap, .int .i64 k.e, .int .i64 k.cP, .int .i64 k.cA, .int .i64 k.cB, .int .i64 k.cN, .int .i64 k.cX, .int .i64 k.cY, .int .i64 k.q.x, .int .i64 k.q.y, .bool k.q.far, .int .i64 k.dP, .int .i64 k.dD, .int .i64 k.dL, .int .i64 k.dX, .int .i64 k.dY, .int .i64 k.a.x, .int .i64 k.a.y] 40) = V := ⟨_, rfl⟩
  obtain ⟨B0, hE, -⟩ := box1 w [.int .i64 k.kind, .slice ad k.n cap, .int .i64 k.e, .int .i64 k.cP, .int .i64 k.cA, .int .i64 k.cB, .int .i64 k.cN, .int .i64 k.cX, .int .i64 k.cY, .int .i64 k.q.x, .int .i64 k.q.y, .bool k.q.far, .int .i64 k.dP, .int .i64 k.dD, .int .i64 k.dL, .int .i64 k.dX, .int .i64 k.dY, .int .i64 k.a.x, .int .i64 k.a.y] 40 (w1 := V) (by rw [← hV]; exact Ext.refl _)
  have c0 := (B0 0 _ rfl).1
  have c1 := (B0 1 _ rfl).1
  have c2 := (B0 2 _ rfl).1
  have c3 := (B0 3 _ rfl).1
  have c4 := (B0 4 _ rfl).1
  have c5 := (B0 5 _ rfl).1
  have c6 := (B0 6 _ rfl).1
  have c7 := (B0 7 _ rfl).1
  have c8 := (B0 8 _ rfl).1
  have c9 := (B0 9 _ rfl).1
  have c10 := (B0 10 _ rfl).1
  have c11 := (B0 11 _ rfl).1
  have c12 := (B0 12 _ rfl).1
  have c13 := (B0 13 _ rfl).1
  have c14 := (B0 14 _ rfl).1
  have c15 := (B0 15 _ rfl).1
  have c16 := (B0 16 _ rfl).1
  have c17 := (B0 17 _ rfl).1
  have c18 := (B0 18 _ rfl).1
  have HE := hide hE
  clear hE
  go_enter Tryz.func19, Tryz.ntmps19
  go_wp2_with fail
  refine (HR.out _ HE.out).mono ?_
  rintro e W ⟨rfl, hEW⟩
  have hB := Blk.ext B0 hEW (World.block_lt_of_cell? _ _ (B0 0 _ rfl).1)
  have hld : (loadVar 40 ⟨w.heap.size, 0, none⟩).run Tryz.prog W = .ok (.agg #[.int .i64 k.kind, .slice ad k.n cap, .int .i64 k.e, .int .i64 k.cP, .int .i64 k.cA, .int .i64 k.cB, .int .i64 k.cN, .int .i64 k.cX, .int .i64 k.cY, .int .i64 k.q.x, .int .i64 k.q.y, .bool k.q.far, .int .i64 k.dP, .int .i64 k.dD, .int .i64 k.dL, .int .i64 k.dX, .int .i64 k.dY, .int .i64 k.a.x, .int .i64 k.a.y]) W := run_loadKey [.int .i64 k.kind, .slice ad k.n cap, .int .i64 k.e, .int .i64 k.cP, .int .i64 k.cA, .int .i64 k.cB, .int .i64 k.cN, .int .i64 k.cX, .int .i64 k.cY, .int .i64 k.q.x, .int .i64 k.q.y, .bool k.q.far, .int .i64 k.dP, .int .i64 k.dD, .int .i64 k.dL, .int .i64 k.dX, .int .i64 k.dY, .int .i64 k.a.x, .int .i64 k.a.y] rfl w.heap.size W (fun j v h => (hB j v h).1)
  clear c0 c1 c2 c3 c4 c5 c6 c7 c8 c9 c10 c11 c12 c13 c14 c15 c16 c17 c18
  have c3 := (hB 3 _ rfl).1
  have c4 := (hB 4 _ rfl).1
  have c5 := (hB 5 _ rfl).1
  have c6 := (hB 6 _ rfl).1
  have c7 := (hB 7 _ rfl).1
  have c8 := (hB 8 _ rfl).1
  have c9 := (hB 9 _ rfl).1
  have c10 := (hB 10 _ rfl).1
  have c11 := (hB 11 _ rfl).1
  have HEW := hide (Ext.trans HE.out hEW)
  clear hEW HR hB B0
  go_wp2_with (refine wpList_load_on (by first | rfl | simp [Region.wanted, yielded]) 40 _ rfl _ rfl _ hld ?_)
  refine (HA.out _ HEW.out).mono ?_
  rintro e W2 ⟨rfl, hEW⟩
  have HEW2 := hide (Ext.trans HEW.out hEW)
  clear hEW HA hld c3 c4 c5 c6 c7 c8 c9 c10 c11
  go_wp2
  go_ret
  exact ⟨rfl, HEW2.out⟩

set_option maxHeartbeats 6400000 in
set_option maxRecDepth 100000 in
theorem implKey_three_no (k : Ky) (ad : Option Addr) (b off cap : Nat) (w : World) (g1 : (k.kind == 1) = false) (g2 : (k.kind == 2) = false) (g3 : (k.kind == 3) = true) (HR : Hid (∀ W, Ext w W → Calls Tryz.prog 65 #[.agg #[.int .i64 k.dP, .int .i64 k.dD, .int .i64 k.dL, .int .i64 k.dX, .int .i64 k.dY], .agg #[.int .i64 k.a.x, .int .i64 k.a.y]] W fun e w' => e = .returned (.bool false) ∧ Ext W w')) :
    Calls Tryz.prog 19 #[.agg #[.int .i64 k.kind, .slice ad k.n cap, .int .i64 k.e, .int .i64 k.cP, .int .i64 k.cA, .int .i64 k.cB, .int .i64 k.cN, .int .i64 k.cX, .int .i64 k.cY, .int .i64 k.q.x, .int .i64 k.q.y, .bool k.q.far, .int .i64 k.dP, .int .i64 k.dD, .int .i64 k.dL, .int .i64 k.dX, .int .i64 k.dY, .int .i64 k.a.x, .int .i64 k.a.y]] w fun r w' => r = .returned (.bool false) ∧ Ext w w' := by
  obtain ⟨V, hV⟩ : ∃ V, w.alloc (.cells #[.int .i64 k.kind, .slice ad k.n cap, .int .i64 k.e, .int .i64 k.cP, .int .i64 k.cA, .int .i64 k.cB, .int .i64 k.cN, .int .i64 k.cX, .int .i64 k.cY, .int .i64 k.q.x, .int .i64 k.q.y, .bool k.q.far, .int .i64 k.dP, .int .i64 k.dD, .int .i64 k.dL, .int .i64 k.dX, .int .i64 k.dY, .int .i64 k.a.x, .int .i64 k.a.y] 40) = V := ⟨_, rfl⟩
  obtain ⟨B0, hE, -⟩ := box1 w [.int .i64 k.kind, .slice ad k.n cap, .int .i64 k.e, .int .i64 k.cP, .int .i64 k.cA, .int .i64 k.cB, .int .i64 k.cN, .int .i64 k.cX, .int .i64 k.cY, .int .i64 k.q.x, .int .i64 k.q.y, .bool k.q.far, .int .i64 k.dP, .int .i64 k.dD, .int .i64 k.dL, .int .i64 k.dX, .int .i64 k.dY, .int .i64 k.a.x, .int .i64 k.a.y] 40 (w1 := V) (by rw [← hV]; exact Ext.refl _)
  have c0 := (B0 0 _ rfl).1
  have c1 := (B0 1 _ rfl).1
  have c2 := (B0 2 _ rfl).1
  have c3 := (B0 3 _ rfl).1
  have c4 := (B0 4 _ rfl).1
  have c5 := (B0 5 _ rfl).1
  have c6 := (B0 6 _ rfl).1
  have c7 := (B0 7 _ rfl).1
  have c8 := (B0 8 _ rfl).1
  have c9 := (B0 9 _ rfl).1
  have c10 := (B0 10 _ rfl).1
  have c11 := (B0 11 _ rfl).1
  have c12 := (B0 12 _ rfl).1
  have c13 := (B0 13 _ rfl).1
  have c14 := (B0 14 _ rfl).1
  have c15 := (B0 15 _ rfl).1
  have c16 := (B0 16 _ rfl).1
  have c17 := (B0 17 _ rfl).1
  have c18 := (B0 18 _ rfl).1
  have HE := hide hE
  clear hE
  go_enter Tryz.func19, Tryz.ntmps19
  go_wp2_with fail
  refine (HR.out _ HE.out).mono ?_
  rintro e W ⟨rfl, hEW⟩
  have HEW := hide hEW
  clear hEW B0 c0 c1 c2 c3 c4 c5 c6 c7 c8 c9 c10 c11 c12 c13 c14 c15 c16 c17 c18
  go_wp2
  go_ret
  exact ⟨rfl, Ext.trans HE.out HEW.out⟩

set_option maxHeartbeats 6400000 in
set_option maxRecDepth 100000 in
theorem implKey_three_yes (k : Ky) (ad : Option Addr) (b off cap : Nat) (r2 : Bool) (w : World) (g1 : (k.kind == 1) = false) (g2 : (k.kind == 2) = false) (g3 : (k.kind == 3) = true) (HR : Hid (∀ W, Ext w W → Calls Tryz.prog 65 #[.agg #[.int .i64 k.dP, .int .i64 k.dD, .int .i64 k.dL, .int .i64 k.dX, .int .i64 k.dY], .agg #[.int .i64 k.a.x, .int .i64 k.a.y]] W fun e w' => e = .returned (.bool true) ∧ Ext W w')) (HA : Hid (∀ W, Ext w W → Calls Tryz.prog 63 #[.agg #[.int .i64 k.kind, .slice ad k.n cap, .int .i64 k.e, .int .i64 k.cP, .int .i64 k.cA, .int .i64 k.cB, .int .i64 k.cN, .int .i64 k.cX, .int .i64 k.cY, .int .i64 k.q.x, .int .i64 k.q.y, .bool k.q.far, .int .i64 k.dP, .int .i64 k.dD, .int .i64 k.dL, .int .i64 k.dX, .int .i64 k.dY, .int .i64 k.a.x, .int .i64 k.a.y], .agg #[.int .i64 3, .slice none 0 0, .int .i64 0, .int .i64 0, .int .i64 0, .int .i64 0, .int .i64 0, .int .i64 0, .int .i64 0, .int .i64 0, .int .i64 0, .bool false, .int .i64 k.dP, .int .i64 k.dD, .int .i64 k.dL, .int .i64 k.dX, .int .i64 k.dY, .int .i64 k.a.x, .int .i64 k.a.y]] W fun e w' => e = .returned (.bool r2) ∧ Ext W w')) :
    Calls Tryz.prog 19 #[.agg #[.int .i64 k.kind, .slice ad k.n cap, .int .i64 k.e, .int .i64 k.cP, .int .i64 k.cA, .int .i64 k.cB, .int .i64 k.cN, .int .i64 k.cX, .int .i64 k.cY, .int .i64 k.q.x, .int .i64 k.q.y, .bool k.q.far, .int .i64 k.dP, .int .i64 k.dD, .int .i64 k.dL, .int .i64 k.dX, .int .i64 k.dY, .int .i64 k.a.x, .int .i64 k.a.y]] w fun r w' => r = .returned (.bool r2) ∧ Ext w w' := by
  obtain ⟨V, hV⟩ : ∃ V, w.alloc (.cells #[.int .i64 k.kind, .slice ad k.n cap, .int .i64 k.e, .int .i64 k.cP, .int .i64 k.cA, .int .i64 k.cB, .int .i64 k.cN, .int .i64 k.cX, .int .i64 k.cY, .int .i64 k.q.x, .int .i64 k.q.y, .bool k.q.far, .int .i64 k.dP, .int .i64 k.dD, .int .i64 k.dL, .int .i64 k.dX, .int .i64 k.dY, .int .i64 k.a.x, .int .i64 k.a.y] 40) = V := ⟨_, rfl⟩
  obtain ⟨B0, hE, -⟩ := box1 w [.int .i64 k.kind, .slice ad k.n cap, .int .i64 k.e, .int .i64 k.cP, .int .i64 k.cA, .int .i64 k.cB, .int .i64 k.cN, .int .i64 k.cX, .int .i64 k.cY, .int .i64 k.q.x, .int .i64 k.q.y, .bool k.q.far, .int .i64 k.dP, .int .i64 k.dD, .int .i64 k.dL, .int .i64 k.dX, .int .i64 k.dY, .int .i64 k.a.x, .int .i64 k.a.y] 40 (w1 := V) (by rw [← hV]; exact Ext.refl _)
  have c0 := (B0 0 _ rfl).1
  have c1 := (B0 1 _ rfl).1
  have c2 := (B0 2 _ rfl).1
  have c3 := (B0 3 _ rfl).1
  have c4 := (B0 4 _ rfl).1
  have c5 := (B0 5 _ rfl).1
  have c6 := (B0 6 _ rfl).1
  have c7 := (B0 7 _ rfl).1
  have c8 := (B0 8 _ rfl).1
  have c9 := (B0 9 _ rfl).1
  have c10 := (B0 10 _ rfl).1
  have c11 := (B0 11 _ rfl).1
  have c12 := (B0 12 _ rfl).1
  have c13 := (B0 13 _ rfl).1
  have c14 := (B0 14 _ rfl).1
  have c15 := (B0 15 _ rfl).1
  have c16 := (B0 16 _ rfl).1
  have c17 := (B0 17 _ rfl).1
  have c18 := (B0 18 _ rfl).1
  have HE := hide hE
  clear hE
  go_enter Tryz.func19, Tryz.ntmps19
  go_wp2_with fail
  refine (HR.out _ HE.out).mono ?_
  rintro e W ⟨rfl, hEW⟩
  have hB := Blk.ext B0 hEW (World.block_lt_of_cell? _ _ (B0 0 _ rfl).1)
  have hld : (loadVar 40 ⟨w.heap.size, 0, none⟩).run Tryz.prog W = .ok (.agg #[.int .i64 k.kind, .slice ad k.n cap, .int .i64 k.e, .int .i64 k.cP, .int .i64 k.cA, .int .i64 k.cB, .int .i64 k.cN, .int .i64 k.cX, .int .i64 k.cY, .int .i64 k.q.x, .int .i64 k.q.y, .bool k.q.far, .int .i64 k.dP, .int .i64 k.dD, .int .i64 k.dL, .int .i64 k.dX, .int .i64 k.dY, .int .i64 k.a.x, .int .i64 k.a.y]) W := run_loadKey [.int .i64 k.kind, .slice ad k.n cap, .int .i64 k.e, .int .i64 k.cP, .int .i64 k.cA, .int .i64 k.cB, .int .i64 k.cN, .int .i64 k.cX, .int .i64 k.cY, .int .i64 k.q.x, .int .i64 k.q.y, .bool k.q.far, .int .i64 k.dP, .int .i64 k.dD, .int .i64 k.dL, .int .i64 k.dX, .int .i64 k.dY, .int .i64 k.a.x, .int .i64 k.a.y] rfl w.heap.size W (fun j v h => (hB j v h).1)
  clear c0 c1 c2 c3 c4 c5 c6 c7 c8 c9 c10 c11 c12 c13 c14 c15 c16 c17 c18
  have c12 := (hB 12 _ rfl).1
  have c13 := (hB 13 _ rfl).1
  have c14 := (hB 14 _ rfl).1
  have c15 := (hB 15 _ rfl).1
  have c16 := (hB 16 _ rfl).1
  have c17 := (hB 17 _ rfl).1
  have c18 := (hB 18 _ rfl).1
  have HEW := hide (Ext.trans HE.out hEW)
  clear hEW HR hB B0
  go_wp2_with (refine wpList_load_on (by first | rfl | simp [Region.wanted, yielded]) 40 _ rfl _ rfl _ hld ?_)
  refine (HA.out _ HEW.out).mono ?_
  rintro e W2 ⟨rfl, hEW⟩
  have HEW2 := hide (Ext.trans HEW.out hEW)
  clear hEW HA hld c12 c13 c14 c15 c16 c17 c18
  go_wp2
  go_ret
  exact ⟨rfl, HEW2.out⟩

set_option maxHeartbeats 6400000 in
set_option maxRecDepth 100000 in
theorem implKey_none (k : Ky) (ad : Option Addr) (b off cap : Nat) (w : World) (g1 : (k.kind == 1) = false) (g2 : (k.kind == 2) = false) (g3 : (k.kind == 3) = false) :
    Calls Tryz.prog 19 #[.agg #[.int .i64 k.kind, .slice ad k.n cap, .int .i64 k.e, .int .i64 k.cP, .int .i64 k.cA, .int .i64 k.cB, .int .i64 k.cN, .int .i64 k.cX, .int .i64 k.cY, .int .i64 k.q.x, .int .i64 k.q.y, .bool k.q.far, .int .i64 k.dP, .int .i64 k.dD, .int .i64 k.dL, .int .i64 k.dX, .int .i64 k.dY, .int .i64 k.a.x, .int .i64 k.a.y]] w fun r w' => r = .returned (.bool false) ∧ Ext w w' := by
  obtain ⟨V, hV⟩ : ∃ V, w.alloc (.cells #[.int .i64 k.kind, .slice ad k.n cap, .int .i64 k.e, .int .i64 k.cP, .int .i64 k.cA, .int .i64 k.cB, .int .i64 k.cN, .int .i64 k.cX, .int .i64 k.cY, .int .i64 k.q.x, .int .i64 k.q.y, .bool k.q.far, .int .i64 k.dP, .int .i64 k.dD, .int .i64 k.dL, .int .i64 k.dX, .int .i64 k.dY, .int .i64 k.a.x, .int .i64 k.a.y] 40) = V := ⟨_, rfl⟩
  obtain ⟨B0, hE, -⟩ := box1 w [.int .i64 k.kind, .slice ad k.n cap, .int .i64 k.e, .int .i64 k.cP, .int .i64 k.cA, .int .i64 k.cB, .int .i64 k.cN, .int .i64 k.cX, .int .i64 k.cY, .int .i64 k.q.x, .int .i64 k.q.y, .bool k.q.far, .int .i64 k.dP, .int .i64 k.dD, .int .i64 k.dL, .int .i64 k.dX, .int .i64 k.dY, .int .i64 k.a.x, .int .i64 k.a.y] 40 (w1 := V) (by rw [← hV]; exact Ext.refl _)
  have c0 := (B0 0 _ rfl).1
  have c1 := (B0 1 _ rfl).1
  have c2 := (B0 2 _ rfl).1
  have c3 := (B0 3 _ rfl).1
  have c4 := (B0 4 _ rfl).1
  have c5 := (B0 5 _ rfl).1
  have c6 := (B0 6 _ rfl).1
  have c7 := (B0 7 _ rfl).1
  have c8 := (B0 8 _ rfl).1
  have c9 := (B0 9 _ rfl).1
  have c10 := (B0 10 _ rfl).1
  have c11 := (B0 11 _ rfl).1
  have c12 := (B0 12 _ rfl).1
  have c13 := (B0 13 _ rfl).1
  have c14 := (B0 14 _ rfl).1
  have c15 := (B0 15 _ rfl).1
  have c16 := (B0 16 _ rfl).1
  have c17 := (B0 17 _ rfl).1
  have c18 := (B0 18 _ rfl).1
  have HE := hide hE
  clear hE
  go_enter Tryz.func19, Tryz.ntmps19
  go_wp2
  go_ret
  exact ⟨rfl, HE.out⟩

theorem implKeyOk_at (k : Ky) (ad : Option Addr) (b off cap : Nat) (ok : Bool) (hk : ok = true ↔ KeyP k) (w : World) (hs : Seg w ad b off k.n k.f) (hI : KyIn k) :
    Calls Tryz.prog 19 #[.agg #[.int .i64 k.kind, .slice ad k.n cap, .int .i64 k.e, .int .i64 k.cP, .int .i64 k.cA, .int .i64 k.cB, .int .i64 k.cN, .int .i64 k.cX, .int .i64 k.cY, .int .i64 k.q.x, .int .i64 k.q.y, .bool k.q.far, .int .i64 k.dP, .int .i64 k.dD, .int .i64 k.dL, .int .i64 k.dX, .int .i64 k.dY, .int .i64 k.a.x, .int .i64 k.a.y]] w fun r w' => r = .returned (.bool ok) ∧ Ext w w' := by
  have nil : ∀ W : World, Seg W none 0 0 0 (fun _ => 0) := fun W => ⟨fun h => absurd h (Nat.lt_irrefl _), fun i hi => absurd hi (Nat.not_lt_zero _)⟩
  by_cases h1 : k.kind = 1
  · have g1 : (k.kind == 1) = true := by simp [h1]
    have hO := key1 hk h1
    have hR : ∀ W, Ext w W → Calls Tryz.prog 62 #[.slice ad k.n cap, .int .i64 k.e] W fun e w' => e = .returned (.bool (rsB k.n k.f k.e)) ∧ Ext W w' := fun W hW => (rsaOk_any ad b off k.n cap k.f k.e W (hs.of_all hW) hI.n hI.e0 hI.e1).mono fun e w' h => ⟨h.1, by rw [h.2]; exact Ext.refl _⟩
    cases r1 : rsB k.n k.f k.e
    · rw [r1] at hO hR
      rw [show ok = false by rw [hO]; rfl]
      exact implKey_one_no k ad b off cap w g1 hR
    · rw [r1] at hO hR
      rw [show ok = (ncB k && neB k) by rw [hO]; rfl]
      refine implKey_one_yes k ad b off cap _ w g1 hR (hide fun W hW => ?_)
      have := alike_any k (rsKy k) ad b off cap ad b off cap W (hs.of_all hW) (hs.of_all hW) hI.n
      rw [alk_rs k g1] at this
      exact this
  have g1 : (k.kind == 1) = false := by simp [h1]
  by_cases h2 : k.kind = 2
  · have g2 : (k.kind == 2) = true := by simp [h2]
    obtain ⟨r1, hr1⟩ := tell (CkOk k)
    have hO := key2 hk hr1 h2
    have hR : ∀ W, Ext w W → Calls Tryz.prog 64 #[.agg #[.int .i64 k.cP, .int .i64 k.cA, .int .i64 k.cB, .int .i64 k.cN, .int .i64 k.cX, .int .i64 k.cY], .agg #[.int .i64 k.q.x, .int .i64 k.q.y, .bool k.q.far]] W fun e w' => e = .returned (.bool r1) ∧ Ext W w' := fun W _ => curveKeyOk_any k r1 hr1 W hI.p hI.c
    cases r1
    · rw [show ok = false by rw [hO]; rfl]
      exact implKey_two_no k ad b off cap w g1 g2 hR
    · rw [show ok = (nrB k && neB k) by rw [hO]; rfl]
      refine implKey_two_yes k ad b off cap _ w g1 g2 hR (hide fun W hW => ?_)
      have := alike_any k (cvKy k) ad b off cap none 0 0 0 W (hs.of_all hW) (nil W) hI.n
      rw [alk_cv k g2] at this
      exact this
  have g2 : (k.kind == 2) = false := by simp [h2]
  by_cases h3 : k.kind = 3
  · have g3 : (k.kind == 3) = true := by simp [h3]
    obtain ⟨r1, hr1⟩ := tell (EkOk k)
    have hO := key3 hk hr1 h3
    have hR : ∀ W, Ext w W → Calls Tryz.prog 65 #[.agg #[.int .i64 k.dP, .int .i64 k.dD, .int .i64 k.dL, .int .i64 k.dX, .int .i64 k.dY], .agg #[.int .i64 k.a.x, .int .i64 k.a.y]] W fun e w' => e = .returned (.bool r1) ∧ Ext W w' := fun W _ => implPairOk_at k.dP k.dD k.dL k.dX k.dY k.a hI.d hI.l r1 hr1 W
    cases r1
    · rw [show ok = false by rw [hO]; rfl]
      exact implKey_three_no k ad b off cap w g1 g2 g3 hR
    · rw [show ok = (nrB k && ncB k) by rw [hO]; rfl]
      refine implKey_three_yes k ad b off cap _ w g1 g2 g3 hR (hide fun W hW => ?_)
      have := alike_any k (edKy k) ad b off cap none 0 0 0 W (hs.of_all hW) (nil W) hI.n
      rw [alk_ed k g3] at this
      exact this
  have g3 : (k.kind == 3) = false := by simp [h3]
  rw [key0 hk h1 h2 h3]
  exact implKey_none k ad b off cap w g1 g2 g3

set_option linter.unusedSimpArgs false

theorem rs_all (n : Nat) (f : Nat → Int) (e : Int) : rsB n f e = (natOk n f && ((decide (128 ≤ bitsOf n f) && decide (bitsOf n f ≤ 512)) && (f 0 % 2 == 1 && ((decide (3 ≤ e) && decide (e ≤ 65537)) && e % 2 == 1)))) := by
  unfold rsB bitsQ
  cases natOk n f
  · rfl
  · simp only [if_true, Bool.and_assoc, Bool.true_and]

set_option maxHeartbeats 6400000 in
set_option maxRecDepth 100000 in
theorem specKey_one (k : Ky) (ad : Option Addr) (b off cap : Nat) (ok r1 r2 r3 r4 r5 r6 : Bool) (Bq z : Int) (w : World) (hs : Seg w ad b off k.n k.f) (g1 : (k.kind == 1) = true)
    (HNC : Hid (∀ w, Calls Tryz.prog 81 #[.agg #[.int .i64 k.kind, .slice ad k.n cap, .int .i64 k.e, .int .i64 k.cP, .int .i64 k.cA, .int .i64 k.cB, .int .i64 k.cN, .int .i64 k.cX, .int .i64 k.cY, .int .i64 k.q.x, .int .i64 k.q.y, .bool k.q.far, .int .i64 k.dP, .int .i64 k.dD, .int .i64 k.dL, .int .i64 k.dX, .int .i64 k.dY, .int .i64 k.a.x, .int .i64 k.a.y]] w fun e w' => e = .returned (.bool r1) ∧ Ext w w'))
    (HNE : Hid (∀ w, Calls Tryz.prog 82 #[.agg #[.int .i64 k.kind, .slice ad k.n cap, .int .i64 k.e, .int .i64 k.cP, .int .i64 k.cA, .int .i64 k.cB, .int .i64 k.cN, .int .i64 k.cX, .int .i64 k.cY, .int .i64 k.q.x, .int .i64 k.q.y, .bool k.q.far, .int .i64 k.dP, .int .i64 k.dD, .int .i64 k.dL, .int .i64 k.dX, .int .i64 k.dY, .int .i64 k.a.x, .int .i64 k.a.y]] w fun e w' => e = .returned (.bool r2) ∧ Ext w w'))
    (HNK : Hid (∀ W, Ext w W → Calls Tryz.prog 83 #[.slice ad k.n cap] W fun e w' => e = .returned (.bool r3) ∧ w' = W))
    (HBI : Hid (∀ W, r3 = true → Ext w W → Calls Tryz.prog 35 #[.slice ad k.n cap] W fun e w' => e = .returned (.int .i64 Bq) ∧ w' = W))
    (HI1 : Hid (∀ w, Calls Tryz.prog 84 #[.int .i64 Bq, .int .i64 128, .int .i64 512] w fun e w' => e = .returned (.bool r4) ∧ w' = w))
    (HI2 : Hid (∀ w, Calls Tryz.prog 84 #[.int .i64 k.e, .int .i64 3, .int .i64 65537] w fun e w' => e = .returned (.bool r6) ∧ w' = w))
    (Hz : Hid (r3 = true → r4 = true → 0 < k.n ∧ k.f 0 = z ∧ 0 ≤ z)) (h5 : (z % 2 == 1) = r5) (H6 : Hid (r6 = true → 3 ≤ k.e))
    (HO : Hid (ok = (r1 && (r2 && (r3 && (r4 && (r5 && (r6 && (k.e % 2 == 1))))))))) :
    Calls Tryz.prog 33 #[.agg #[.int .i64 k.kind, .slice ad k.n cap, .int .i64 k.e, .int .i64 k.cP, .int .i64 k.cA, .int .i64 k.cB, .int .i64 k.cN, .int .i64 k.cX, .int .i64 k.cY, .int .i64 k.q.x, .int .i64 k.q.y, .bool k.q.far, .int .i64 k.dP, .int .i64 k.dD, .int .i64 k.dL, .int .i64 k.dX, .int .i64 k.dY, .int .i64 k.a.x, .int .i64 k.a.y]] w fun r w' => r = .returned (.bool ok) ∧ Ext w w' := by
  obtain ⟨V, hV⟩ : ∃ V, w.alloc (.cells #[.int .i64 k.kind, .slice ad k.n cap, .int .i64 k.e, .int .i64 k.cP, .int .i64 k.cA, .int .i64 k.cB, .int .i64 k.cN, .int .i64 k.cX, .int .i64 k.cY, .int .i64 k.q.x, .int .i64 k.q.y, .bool k.q.far, .int .i64 k.dP, .int .i64 k.dD, .int .i64 k.dL, .int .i64 k.dX, .int .i64 k.dY, .int .i64 k.a.x, .int .i64 k.a.y] 40) = V := ⟨_, rfl⟩
  obtain ⟨B0, hE, -⟩ := box1 w [.int .i64 k.kind, .slice ad k.n cap, .int .i64 k.e, .int .i64 k.cP, .int .i64 k.cA, .int .i64 k.cB, .int .i64 k.cN, .int .i64 k.cX, .int .i64 k.cY, .int .i64 k.q.x, .int .i64 k.q.y, .bool k.q.far, .int .i64 k.dP, .int .i64 k.dD, .int .i64 k.dL, .int .i64 k.dX, .int .i64 k.dY, .int .i64 k.a.x, .int .i64 k.a.y] 40 (w1 := V) (by rw [← hV]; exact Ext.refl _)
  have c0 := (B0 0 _ rfl).1
  have c1 := (B0 1 _ rfl).1
  have c2 := (B0 2 _ rfl).1
  have HBk := hide B0
  have HE := hide hE
  have HS := hide (hs.of_all hE)
  have HV : Hid (Ext V V) := Ext.refl _
  clear B0 hE hs
  go_enter Tryz.func33, Tryz.ntmps33
  have hld := run_loadKey [.int .i64 k.kind, .slice ad k.n cap, .int .i64 k.e, .int .i64 k.cP, .int .i64 k.cA, .int .i64 k.cB, .int .i64 k.cN, .int .i64 k.cX, .int .i64 k.cY, .int .i64 k.q.x, .int .i64 k.q.y, .bool k.q.far, .int .i64 k.dP, .int .i64 k.dD, .int .i64 k.dL, .int .i64 k.dX, .int .i64 k.dY, .int .i64 k.a.x, .int .i64 k.a.y] rfl w.heap.size _ (fun j v h => (HBk.out j v h).1)
  go_wp2_with (refine wpList_load_on (by first | rfl | simp [Region.wanted, yielded]) 40 _ rfl _ rfl _ hld ?_)
  clear hld
  refine (HNC.out _).mono ?_
  rintro e W ⟨rfl, hEW⟩
  replace HV := hide (Ext.trans HV.out hEW)
  replace HBk := hide (Blk.ext HBk.out hEW (World.block_lt_of_cell? _ _ (HBk.out 0 _ rfl).1))
  replace c1 := (HBk.out 1 _ rfl).1
  replace c2 := (HBk.out 2 _ rfl).1
  clear hEW
  cases r1
  · skip
    go_wp2
    go_ret
    exact ⟨ret_bool (by rw [HO.out]; simp), Ext.trans HE.out HV.out⟩
  · skip
    have hld := run_loadKey [.int .i64 k.kind, .slice ad k.n cap, .int .i64 k.e, .int .i64 k.cP, .int .i64 k.cA, .int .i64 k.cB, .int .i64 k.cN, .int .i64 k.cX, .int .i64 k.cY, .int .i64 k.q.x, .int .i64 k.q.y, .bool k.q.far, .int .i64 k.dP, .int .i64 k.dD, .int .i64 k.dL, .int .i64 k.dX, .int .i64 k.dY, .int .i64 k.a.x, .int .i64 k.a.y] rfl w.heap.size _ (fun j v h => (HBk.out j v h).1)
    go_wp2_with (refine wpList_load_on (by first | rfl | simp [Region.wanted, yielded]) 40 _ rfl _ rfl _ hld ?_)
    clear hld
    refine (HNE.out _).mono ?_
    rintro e W ⟨rfl, hEW⟩
    replace HV := hide (Ext.trans HV.out hEW)
    replace HBk := hide (Blk.ext HBk.out hEW (World.block_lt_of_cell? _ _ (HBk.out 0 _ rfl).1))
    replace c1 := (HBk.out 1 _ rfl).1
    replace c2 := (HBk.out 2 _ rfl).1
    clear hEW
    cases r2
    · skip
      go_wp2
      go_ret
      exact ⟨ret_bool (by rw [HO.out]; simp), Ext.trans HE.out HV.out⟩
    · clear HBk
      go_wp2_with fail
      refine (HNK.out _ (Ext.trans HE.out HV.out)).mono ?_
      rintro e W ⟨rfl, hw⟩
      obtain rfl := hw.symm
      cases r3
      · skip
        go_wp2
        go_ret
        exact ⟨ret_bool (by rw [HO.out]; simp), Ext.trans HE.out HV.out⟩
      · skip
        go_wp2_with fail
        refine (HBI.out _ trivial (Ext.trans HE.out HV.out)).mono ?_
        rintro e W ⟨rfl, hw⟩
        obtain rfl := hw.symm
        go_wp2_with fail
        refine (HI1.out _).mono ?_
        rintro e W ⟨rfl, hw⟩
        obtain rfl := hw.symm
        cases r4
        · skip
          go_wp2
          go_ret
          exact ⟨ret_bool (by rw [HO.out]; simp), Ext.trans HE.out HV.out⟩
        · obtain ⟨n0, hz, z0⟩ := Hz.out (by simp) (by simp)
          have cz := (HS.out.of_all HV.out).cell 0 n0
          obtain rfl := HS.out.at' n0
          rw [hz] at cz
          simp only [Nat.add_zero] at cz
          have hn0 : (0 : Int) < (k.n : Int) := by omega
          have m1 : Int.tmod z 2 = z % 2 := by rw [Int.tmod_eq_emod_of_nonneg z0]
          clear Hz hz
          cases r5
          · skip
            go_wp2
            go_ret
            exact ⟨ret_bool (by rw [HO.out]; simp), Ext.trans HE.out HV.out⟩
          · skip
            go_wp2_with fail
            refine (HI2.out _).mono ?_
            rintro e W ⟨rfl, hw⟩
            obtain rfl := hw.symm
            cases r6
            · skip
              go_wp2
              go_ret
              exact ⟨ret_bool (by rw [HO.out]; simp), Ext.trans HE.out HV.out⟩
            · have e3 := H6.out (by simp)
              have m2 : Int.tmod k.e 2 = k.e % 2 := by rw [Int.tmod_eq_emod_of_nonneg (by omega)]
              go_wp2
              go_ret
              exact ⟨ret_bool (by rw [HO.out]; simp), Ext.trans HE.out HV.out⟩

set_option linter.unusedSimpArgs false

set_option maxHeartbeats 6400000 in
set_option maxRecDepth 100000 in
theorem specKey_two (k : Ky) (ad : Option Addr) (b off cap : Nat) (ok r1 r2 r4 : Bool) (M : Pt) (w : World) (hs : Seg w ad b off k.n k.f) (g1 : (k.kind == 1) = false) (g2 : (k.kind == 2) = true)
    (HNR : Hid (∀ w, Calls Tryz.prog 85 #[.agg #[.int .i64 k.kind, .slice ad k.n cap, .int .i64 k.e, .int .i64 k.cP, .int .i64 k.cA, .int .i64 k.cB, .int .i64 k.cN, .int .i64 k.cX, .int .i64 k.cY, .int .i64 k.q.x, .int .i64 k.q.y, .bool k.q.far, .int .i64 k.dP, .int .i64 k.dD, .int .i64 k.dL, .int .i64 k.dX, .int .i64 k.dY, .int .i64 k.a.x, .int .i64 k.a.y]] w fun e w' => e = .returned (.bool r1) ∧ Ext w w'))
    (HNE : Hid (∀ w, Calls Tryz.prog 82 #[.agg #[.int .i64 k.kind, .slice ad k.n cap, .int .i64 k.e, .int .i64 k.cP, .int .i64 k.cA, .int .i64 k.cB, .int .i64 k.cN, .int .i64 k.cX, .int .i64 k.cY, .int .i64 k.q.x, .int .i64 k.q.y, .bool k.q.far, .int .i64 k.dP, .int .i64 k.dD, .int .i64 k.dL, .int .i64 k.dX, .int .i64 k.dY, .int .i64 k.a.x, .int .i64 k.a.y]] w fun e w' => e = .returned (.bool r2) ∧ Ext w w'))
    (HPO : Hid (∀ W, Calls Tryz.prog 86 #[.agg #[.int .i64 k.cP, .int .i64 k.cA, .int .i64 k.cB, .int .i64 k.cN, .int .i64 k.cX, .int .i64 k.cY], .agg #[.int .i64 k.q.x, .int .i64 k.q.y, .bool k.q.far]] W fun e w' => e = .returned (.bool r4) ∧ Ext W w'))
    (HMU : Hid (r4 = true → ∀ W, Calls Tryz.prog 87 #[.agg #[.int .i64 k.cP, .int .i64 k.cA, .int .i64 k.cB, .int .i64 k.cN, .int .i64 k.cX, .int .i64 k.cY], .int .i64 k.cN, .agg #[.int .i64 k.q.x, .int .i64 k.q.y, .bool k.q.far]] W fun r w' => r = .returned (.agg #[.int .i64 M.x, .int .i64 M.y, .bool M.far]) ∧ Ext W w'))
    (HO : Hid (ok = (r1 && (r2 && (r4 && (!k.q.far && M.far)))))) :
    Calls Tryz.prog 33 #[.agg #[.int .i64 k.kind, .slice ad k.n cap, .int .i64 k.e, .int .i64 k.cP, .int .i64 k.cA, .int .i64 k.cB, .int .i64 k.cN, .int .i64 k.cX, .int .i64 k.cY, .int .i64 k.q.x, .int .i64 k.q.y, .bool k.q.far, .int .i64 k.dP, .int .i64 k.dD, .int .i64 k.dL, .int .i64 k.dX, .int .i64 k.dY, .int .i64 k.a.x, .int .i64 k.a.y]] w fun r w' => r = .returned (.bool ok) ∧ Ext w w' := by
  obtain ⟨V, hV⟩ : ∃ V, w.alloc (.cells #[.int .i64 k.kind, .slice ad k.n cap, .int .i64 k.e, .int .i64 k.cP, .int .i64 k.cA, .int .i64 k.cB, .int .i64 k.cN, .int .i64 k.cX, .int .i64 k.cY, .int .i64 k.q.x, .int .i64 k.q.y, .bool k.q.far, .int .i64 k.dP, .int .i64 k.dD, .int .i64 k.dL, .int .i64 k.dX, .int .i64 k.dY, .int .i64 k.a.x, .int .i64 k.a.y] 40) = V := ⟨_, rfl⟩
  obtain ⟨B0, hE, -⟩ := box1 w [.int .i64 k.kind, .slice ad k.n cap, .int .i64 k.e, .int .i64 k.cP, .int .i64 k.cA, .int .i64 k.cB, .int .i64 k.cN, .int .i64 k.cX, .int .i64 k.cY, .int .i64 k.q.x, .int .i64 k.q.y, .bool k.q.far, .int .i64 k.dP, .int .i64 k.dD, .int .i64 k.dL, .int .i64 k.dX, .int .i64 k.dY, .int .i64 k.a.x, .int .i64 k.a.y] 40 (w1 := V) (by rw [← hV]; exact Ext.refl _)
  have c0 := (B0 0 _ rfl).1
  have c3 := (B0 3 _ rfl).1
  have c4 := (B0 4 _ rfl).1
  have c5 := (B0 5 _ rfl).1
  have c6 := (B0 6 _ rfl).1
  have c7 := (B0 7 _ rfl).1
  have c8 := (B0 8 _ rfl).1
  have c9 := (B0 9 _ rfl).1
  have c10 := (B0 10 _ rfl).1
  have c11 := (B0 11 _ rfl).1
  have HBk := hide B0
  have HE := hide hE
  have HS := hide (hs.of_all hE)
  have HV : Hid (Ext V V) := Ext.refl _
  clear B0 hE hs
  go_enter Tryz.func33, Tryz.ntmps33
  have hld := run_loadKey [.int .i64 k.kind, .slice ad k.n cap, .int .i64 k.e, .int .i64 k.cP, .int .i64 k.cA, .int .i64 k.cB, .int .i64 k.cN, .int .i64 k.cX, .int .i64 k.cY, .int .i64 k.q.x, .int .i64 k.q.y, .bool k.q.far, .int .i64 k.dP, .int .i64 k.dD, .int .i64 k.dL, .int .i64 k.dX, .int .i64 k.dY, .int .i64 k.a.x, .int .i64 k.a.y] rfl w.heap.size _ (fun j v h => (HBk.out j v h).1)
  go_wp2_with (refine wpList_load_on (by first | rfl | simp [Region.wanted, yielded]) 40 _ rfl _ rfl _ hld ?_)
  clear hld
  refine (HNR.out _).mono ?_
  rintro e W ⟨rfl, hEW⟩
  replace HV := hide (Ext.trans HV.out hEW)
  replace HBk := hide (Blk.ext HBk.out hEW (World.block_lt_of_cell? _ _ (HBk.out 0 _ rfl).1))
  replace c3 := (HBk.out 3 _ rfl).1
  replace c4 := (HBk.out 4 _ rfl).1
  replace c5 := (HBk.out 5 _ rfl).1
  replace c6 := (HBk.out 6 _ rfl).1
  replace c7 := (HBk.out 7 _ rfl).1
  replace c8 := (HBk.out 8 _ rfl).1
  replace c9 := (HBk.out 9 _ rfl).1
  replace c10 := (HBk.out 10 _ rfl).1
  replace c11 := (HBk.out 11 _ rfl).1
  clear hEW
  cases r1
  · skip
    go_wp2
    go_ret
    exact ⟨ret_bool (by rw [HO.out]; simp), Ext.trans HE.out HV.out⟩
  · skip
    have hld := run_loadKey [.int .i64 k.kind, .slice ad k.n cap, .int .i64 k.e, .int .i64 k.cP, .int .i64 k.cA, .int .i64 k.cB, .int .i64 k.cN, .int .i64 k.cX, .int .i64 k.cY, .int .i64 k.q.x, .int .i64 k.q.y, .bool k.q.far, .int .i64 k.dP, .int .i64 k.dD, .int .i64 k.dL, .int .i64 k.dX, .int .i64 k.dY, .int .i64 k.a.x, .int .i64 k.a.y] rfl w.heap.size _ (fun j v h => (HBk.out j v h).1)
    go_wp2_with (refine wpList_load_on (by first | rfl | simp [Region.wanted, yielded]) 40 _ rfl _ rfl _ hld ?_)
    clear hld
    refine (HNE.out _).mono ?_
    rintro e W ⟨rfl, hEW⟩
    replace HV := hide (Ext.trans HV.out hEW)
    replace HBk := hide (Blk.ext HBk.out hEW (World.block_lt_of_cell? _ _ (HBk.out 0 _ rfl).1))
    replace c3 := (HBk.out 3 _ rfl).1
    replace c4 := (HBk.out 4 _ rfl).1
    replace c5 := (HBk.out 5 _ rfl).1
    replace c6 := (HBk.out 6 _ rfl).1
    replace c7 := (HBk.out 7 _ rfl).1
    replace c8 := (HBk.out 8 _ rfl).1
    replace c9 := (HBk.out 9 _ rfl).1
    replace c10 := (HBk.out 10 _ rfl).1
    replace c11 := (HBk.out 11 _ rfl).1
    clear hEW
    cases r2
    · skip
      go_wp2
      go_ret
      exact ⟨ret_bool (by rw [HO.out]; simp), Ext.trans HE.out HV.out⟩
    · skip
      go_wp2_with fail
      refine (HPO.out _).mono ?_
      rintro e W ⟨rfl, hEW⟩
      replace HV := hide (Ext.trans HV.out hEW)
      replace HBk := hide (Blk.ext HBk.out hEW (World.block_lt_of_cell? _ _ (HBk.out 0 _ rfl).1))
      replace c3 := (HBk.out 3 _ rfl).1
      replace c4 := (HBk.out 4 _ rfl).1
      replace c5 := (HBk.out 5 _ rfl).1
      replace c6 := (HBk.out 6 _ rfl).1
      replace c7 := (HBk.out 7 _ rfl).1
      replace c8 := (HBk.out 8 _ rfl).1
      replace c9 := (HBk.out 9 _ rfl).1
      replace c10 := (HBk.out 10 _ rfl).1
      replace c11 := (HBk.out 11 _ rfl).1
      clear hEW
      cases r4
      · skip
        go_wp2
        go_ret
        exact ⟨ret_bool (by rw [HO.out]; simp), Ext.trans HE.out HV.out⟩
      · clear HBk
        obtain ⟨qf, hqf⟩ : ∃ qf, k.q.far = qf := ⟨_, rfl⟩
        rw [hqf] at HO
        cases qf
        · have hM := HMU.out (by simp)
          rw [hqf] at hM
          have HM := hide hM
          clear hM
          go_wp2_with fail
          refine (HM.out _).mono ?_
          rintro e W ⟨rfl, hEW⟩
          replace HV := hide (Ext.trans HV.out hEW)
          clear hEW
          have hfd : ∀ w : World, (Instr.field 36 (.agg #[.int .i64 M.x, .int .i64 M.y, .bool M.far]) 2).run Tryz.prog w = .ok (.bool M.far) w := fun _ => by kernel_rfl
          go_wp2
          go_ret
          exact ⟨ret_bool (by rw [HO.out]; simp), Ext.trans HE.out HV.out⟩
        · skip
          go_wp2
          go_ret
          exact ⟨ret_bool (by rw [HO.out]; simp), Ext.trans HE.out HV.out⟩

set_option linter.unusedSimpArgs false

set_option maxHeartbeats 6400000 in
set_option maxRecDepth 100000 in
theorem specKey_three (k : Ky) (ad : Option Addr) (b off cap : Nat) (ok r1 r2 r3 : Bool) (w : World) (hs : Seg w ad b off k.n k.f) (g1 : (k.kind == 1) = false) (g2 : (k.kind == 2) = false) (g3 : (k.kind == 3) = true)
    (HNR : Hid (∀ w, Calls Tryz.prog 85 #[.agg #[.int .i64 k.kind, .slice ad k.n cap, .int .i64 k.e, .int .i64 k.cP, .int .i64 k.cA, .int .i64 k.cB, .int .i64 k.cN, .int .i64 k.cX, .int .i64 k.cY, .int .i64 k.q.x, .int .i64 k.q.y, .bool k.q.far, .int .i64 k.dP, .int .i64 k.dD, .int .i64 k.dL, .int .i64 k.dX, .int .i64 k.dY, .int .i64 k.a.x, .int .i64 k.a.y]] w fun e w' => e = .returned (.bool r1) ∧ Ext w w'))
    (HNC : Hid (∀ w, Calls Tryz.prog 81 #[.agg #[.int .i64 k.kind, .slice ad k.n cap, .int .i64 k.e, .int .i64 k.cP, .int .i64 k.cA, .int .i64 k.cB, .int .i64 k.cN, .int .i64 k.cX, .int .i64 k.cY, .int .i64 k.q.x, .int .i64 k.q.y, .bool k.q.far, .int .i64 k.dP, .int .i64 k.dD, .int .i64 k.dL, .int .i64 k.dX, .int .i64 k.dY, .int .i64 k.a.x, .int .i64 k.a.y]] w fun e w' => e = .returned (.bool r2) ∧ Ext w w'))
    (HPA : Hid (∀ W, Calls Tryz.prog 88 #[.agg #[.int .i64 k.dP, .int .i64 k.dD, .int .i64 k.dL, .int .i64 k.dX, .int .i64 k.dY], .agg #[.int .i64 k.a.x, .int .i64 k.a.y]] W fun e w' => e = .returned (.bool r3) ∧ Ext W w'))
    (HO : Hid (ok = (r1 && (r2 && r3)))) :
    Calls Tryz.prog 33 #[.agg #[.int .i64 k.kind, .slice ad k.n cap, .int .i64 k.e, .int .i64 k.cP, .int .i64 k.cA, .int .i64 k.cB, .int .i64 k.cN, .int .i64 k.cX, .int .i64 k.cY, .int .i64 k.q.x, .int .i64 k.q.y, .bool k.q.far, .int .i64 k.dP, .int .i64 k.dD, .int .i64 k.dL, .int .i64 k.dX, .int .i64 k.dY, .int .i64 k.a.x, .int .i64 k.a.y]] w fun r w' => r = .returned (.bool ok) ∧ Ext w w' := by
  obtain ⟨V, hV⟩ : ∃ V, w.alloc (.cells #[.int .i64 k.kind, .slice ad k.n cap, .int .i64 k.e, .int .i64 k.cP, .int .i64 k.cA, .int .i64 k.cB, .int .i64 k.cN, .int .i64 k.cX, .int .i64 k.cY, .int .i64 k.q.x, .int .i64 k.q.y, .bool k.q.far, .int .i64 k.dP, .int .i64 k.dD, .int .i64 k.dL, .int .i64 k.dX, .int .i64 k.dY, .int .i64 k.a.x, .int .i64 k.a.y] 40) = V := ⟨_, rfl⟩
  obtain ⟨B0, hE, -⟩ := box1 w [.int .i64 k.kind, .slice ad k.n cap, .int .i64 k.e, .int .i64 k.cP, .int .i64 k.cA, .int .i64 k.cB, .int .i64 k.cN, .int .i64 k.cX, .int .i64 k.cY, .int .i64 k.q.x, .int .i64 k.q.y, .bool k.q.far, .int .i64 k.dP, .int .i64 k.dD, .int .i64 k.dL, .int .i64 k.dX, .int .i64 k.dY, .int .i64 k.a.x, .int .i64 k.a.y] 40 (w1 := V) (by rw [← hV]; exact Ext.refl _)
  have c0 := (B0 0 _ rfl).1
  have c12 := (B0 12 _ rfl).1
  have c13 := (B0 13 _ rfl).1
  have c14 := (B0 14 _ rfl).1
  have c15 := (B0 15 _ rfl).1
  have c16 := (B0 16 _ rfl).1
  have c17 := (B0 17 _ rfl).1
  have c18 := (B0 18 _ rfl).1
  have HBk := hide B0
  have HE := hide hE
  have HS := hide (hs.of_all hE)
  have HV : Hid (Ext V V) := Ext.refl _
  clear B0 hE hs
  go_enter Tryz.func33, Tryz.ntmps33
  have hld := run_loadKey [.int .i64 k.kind, .slice ad k.n cap, .int .i64 k.e, .int .i64 k.cP, .int .i64 k.cA, .int .i64 k.cB, .int .i64 k.cN, .int .i64 k.cX, .int .i64 k.cY, .int .i64 k.q.x, .int .i64 k.q.y, .bool k.q.far, .int .i64 k.dP, .int .i64 k.dD, .int .i64 k.dL, .int .i64 k.dX, .int .i64 k.dY, .int .i64 k.a.x, .int .i64 k.a.y] rfl w.heap.size _ (fun j v h => (HBk.out j v h).1)
  go_wp2_with (refine wpList_load_on (by first | rfl | simp [Region.wanted, yielded]) 40 _ rfl _ rfl _ hld ?_)
  clear hld
  refine (HNR.out _).mono ?_
  rintro e W ⟨rfl, hEW⟩
  replace HV := hide (Ext.trans HV.out hEW)
  replace HBk := hide (Blk.ext HBk.out hEW (World.block_lt_of_cell? _ _ (HBk.out 0 _ rfl).1))
  replace c12 := (HBk.out 12 _ rfl).1
  replace c13 := (HBk.out 13 _ rfl).1
  replace c14 := (HBk.out 14 _ rfl).1
  replace c15 := (HBk.out 15 _ rfl).1
  replace c16 := (HBk.out 16 _ rfl).1
  replace c17 := (HBk.out 17 _ rfl).1
  replace c18 := (HBk.out 18 _ rfl).1
  clear hEW
  cases r1
  · skip
    go_wp2
    go_ret
    exact ⟨ret_bool (by rw [HO.out]; simp), Ext.trans HE.out HV.out⟩
  · skip
    have hld := run_loadKey [.int .i64 k.kind, .slice ad k.n cap, .int .i64 k.e, .int .i64 k.cP, .int .i64 k.cA, .int .i64 k.cB, .int .i64 k.cN, .int .i64 k.cX, .int .i64 k.cY, .int .i64 k.q.x, .int .i64 k.q.y, .bool k.q.far, .int .i64 k.dP, .int .i64 k.dD, .int .i64 k.dL, .int .i64 k.dX, .int .i64 k.dY, .int .i64 k.a.x, .int .i64 k.a.y] rfl w.heap.size _ (fun j v h => (HBk.out j v h).1)
    go_wp2_with (refine wpList_load_on (by first | rfl | simp [Region.wanted, yielded]) 40 _ rfl _ rfl _ hld ?_)
    clear hld
    refine (HNC.out _).mono ?_
    rintro e W ⟨rfl, hEW⟩
    replace HV := hide (Ext.trans HV.out hEW)
    replace HBk := hide (Blk.ext HBk.out hEW (World.block_lt_of_cell? _ _ (HBk.out 0 _ rfl).1))
    replace c12 := (HBk.out 12 _ rfl).1
    replace c13 := (HBk.out 13 _ rfl).1
    replace c14 := (HBk.out 14 _ rfl).1
    replace c15 := (HBk.out 15 _ rfl).1
    replace c16 := (HBk.out 16 _ rfl).1
    replace c17 := (HBk.out 17 _ rfl).1
    replace c18 := (HBk.out 18 _ rfl).1
    clear hEW
    cases r2
    · skip
      go_wp2
      go_ret
      exact ⟨ret_bool (by rw [HO.out]; simp), Ext.trans HE.out HV.out⟩
    · skip
      go_wp2_with fail
      refine (HPA.out _).mono ?_
      rintro e W ⟨rfl, hEW⟩
      replace HV := hide (Ext.trans HV.out hEW)
      replace HBk := hide (Blk.ext HBk.out hEW (World.block_lt_of_cell? _ _ (HBk.out 0 _ rfl).1))
      clear hEW
      go_wp2
      go_ret
      exact ⟨ret_bool (by rw [HO.out]; simp), Ext.trans HE.out HV.out⟩

set_option maxHeartbeats 3200000 in
set_option maxRecDepth 100000 in
theorem specKey_none (k : Ky) (ad : Option Addr) (b off cap : Nat) (w : World) (hs : Seg w ad b off k.n k.f) (g1 : (k.kind == 1) = false) (g2 : (k.kind == 2) = false) (g3 : (k.kind == 3) = false) :
    Calls Tryz.prog 33 #[.agg #[.int .i64 k.kind, .slice ad k.n cap, .int .i64 k.e, .int .i64 k.cP, .int .i64 k.cA, .int .i64 k.cB, .int .i64 k.cN, .int .i64 k.cX, .int .i64 k.cY, .int .i64 k.q.x, .int .i64 k.q.y, .bool k.q.far, .int .i64 k.dP, .int .i64 k.dD, .int .i64 k.dL, .int .i64 k.dX, .int .i64 k.dY, .int .i64 k.a.x, .int .i64 k.a.y]] w fun r w' => r = .returned (.bool false) ∧ Ext w w' := by
  obtain ⟨V, hV⟩ : ∃ V, w.alloc (.cells #[.int .i64 k.kind, .slice ad k.n cap, .int .i64 k.e, .int .i64 k.cP, .int .i64 k.cA, .int .i64 k.cB, .int .i64 k.cN, .int .i64 k.cX, .int .i64 k.cY, .int .i64 k.q.x, .int .i64 k.q.y, .bool k.q.far, .int .i64 k.dP, .int .i64 k.dD, .int .i64 k.dL, .int .i64 k.dX, .int .i64 k.dY, .int .i64 k.a.x, .int .i64 k.a.y] 40) = V := ⟨_, rfl⟩
  obtain ⟨B0, hE, -⟩ := box1 w [.int .i64 k.kind, .slice ad k.n cap, .int .i64 k.e, .int .i64 k.cP, .int .i64 k.cA, .int .i64 k.cB, .int .i64 k.cN, .int .i64 k.cX, .int .i64 k.cY, .int .i64 k.q.x, .int .i64 k.q.y, .bool k.q.far, .int .i64 k.dP, .int .i64 k.dD, .int .i64 k.dL, .int .i64 k.dX, .int .i64 k.dY, .int .i64 k.a.x, .int .i64 k.a.y] 40 (w1 := V) (by rw [← hV]; exact Ext.refl _)
  have c0 := (B0 0 _ rfl).1
  have HBk := hide B0
  have HE := hide hE
  have HS := hide (hs.of_all hE)
  have HV : Hid (Ext V V) := Ext.refl _
  clear B0 hE hs
  clear HBk HS
  go_enter Tryz.func33, Tryz.ntmps33
  go_wp2
  go_ret
  exact ⟨rfl, HE.out⟩

set_option linter.unusedSimpArgs false

theorem specKeyOk_at (k : Ky) (ad : Option Addr) (b off cap : Nat) (ok : Bool) (hk : ok = true ↔ KeyP k) (w : World) (hs : Seg w ad b off k.n k.f) (hI : KyIn k) :
    Calls Tryz.prog 33 #[.agg #[.int .i64 k.kind, .slice ad k.n cap, .int .i64 k.e, .int .i64 k.cP, .int .i64 k.cA, .int .i64 k.cB, .int .i64 k.cN, .int .i64 k.cX, .int .i64 k.cY, .int .i64 k.q.x, .int .i64 k.q.y, .bool k.q.far, .int .i64 k.dP, .int .i64 k.dD, .int .i64 k.dL, .int .i64 k.dX, .int .i64 k.dY, .int .i64 k.a.x, .int .i64 k.a.y]] w fun r w' => r = .returned (.bool ok) ∧ Ext w w' := by
  by_cases h1 : k.kind = 1
  · have hO := key1 hk h1
    rw [rs_all] at hO
    refine specKey_one k ad b off cap ok (ncB k) (neB k) (natOk k.n k.f) (decide (128 ≤ bitsOf k.n k.f) && decide (bitsOf k.n k.f ≤ 512)) (k.f 0 % 2 == 1) (decide (3 ≤ k.e) && decide (k.e ≤ 65537)) (bitsOf k.n k.f) (k.f 0) w hs (by simp [h1]) (hide fun w => noCurve_any k ad cap w) (hide fun w => noEd_any k ad cap w)
      (hide fun W h => specNatOk_any ad b off k.n cap k.f W (hs.of_all h) hI.n) (hide fun W h3 h => l1Bits_any ad b off k.n cap k.f W (hs.of_all h) hI.n ?_) (hide fun w => l1In_any _ _ _ w) (hide fun w => l1In_any _ _ _ w) (hide fun h3 h4 => ?_) rfl (hide fun h => by simp at h; exact h.1) (hide ?_)
    · by_cases e : k.n = 0
      · exact .inl e
      · exact .inr (((natOk_iff _ _).1 h3).1 (k.n - 1) (by omega))
    · have h0 : 0 < k.n := by
        rcases Nat.eq_zero_or_pos k.n with e | e
        · rw [e] at h4; simp [bitsOf] at h4
        · exact e
      exact ⟨h0, rfl, (((natOk_iff _ _).1 h3).1 0 h0).1⟩
    · rw [hO]
      generalize natOk k.n k.f = a1
      generalize (decide (128 ≤ bitsOf k.n k.f) && decide (bitsOf k.n k.f ≤ 512)) = a2
      generalize (k.f 0 % 2 == 1) = a3
      generalize (decide (3 ≤ k.e) && decide (k.e ≤ 65537)) = a4
      generalize (k.e % 2 == 1) = a5
      generalize ncB k = a6
      generalize neB k = a7
      revert a1 a2 a3 a4 a5 a6 a7
      decide
  by_cases h2 : k.kind = 2
  · obtain ⟨r3, h3⟩ := tell (CkOk k)
    have hO := key2 hk h3 h2
    obtain ⟨r4, h4⟩ := tell (CvOk k.cP k.cA k.cB k.cN k.cX k.cY ∧ On k.cP.toNat k.cA k.cB k.q)
    refine specKey_two k ad b off cap ok (nrB k) (neB k) r4 (mulF k.cP.toNat k.cA k.cN.toNat k.q) w hs (by simp [h2]) (by simp [h2]) (hide fun w => noRsa_any k ad cap w) (hide fun w => noEd_any k ad cap w)
      (hide fun W => (specPointOk_any k.cP k.cA k.cB k.cN k.cX k.cY k.q W hI.p hI.c).mono fun r w' ⟨⟨b, e, hb⟩, h⟩ => ⟨by rw [e, show b = r4 from Bool.eq_iff_iff.2 (hb.trans h4.symm)], h⟩) (hide fun hr W => ?_) (hide ?_)
    · have hc := h4.1 hr
      have p5 := hc.1.p5
      have n5 := hc.1.n5
      have := l3Mul_any k.cP.toNat k.cA k.cB k.cN k.cX k.cY k.cN.toNat k.q W hc.1.pp (by omega) (by have := hc.1.pM; omega) (by have := hc.1.a0; omega) (by have := hc.1.a1; have := hc.1.pM; omega) (on_inR (by omega) hc.2) (by have := hc.1.nM; omega)
      rw [Int.toNat_of_nonneg (by omega), Int.toNat_of_nonneg (by omega)] at this
      exact this
    · rw [hO]
      have : r3 = (r4 && (!k.q.far && (mulF k.cP.toNat k.cA k.cN.toNat k.q).far)) := by
        refine Bool.eq_iff_iff.2 ?_
        rw [h3]
        unfold CkOk
        rw [← h4]
        simp
      rw [this]
      generalize (mulF k.cP.toNat k.cA k.cN.toNat k.q).far = a1
      generalize k.q.far = a2
      generalize nrB k = a3
      generalize neB k = a4
      clear this h4 h3 hO
      revert r4 a1 a2 a3 a4
      decide
  by_cases h3 : k.kind = 3
  · obtain ⟨r3, hr3⟩ := tell (EkOk k)
    have hO := key3 hk hr3 h3
    refine specKey_three k ad b off cap ok (nrB k) (ncB k) r3 w hs (by simp [h3]) (by simp [h3]) (by simp [h3]) (hide fun w => noRsa_any k ad cap w) (hide fun w => noCurve_any k ad cap w) (hide fun W => specPairOk_at k.dP k.dD k.dL k.dX k.dY k.a hI.d hI.l r3 hr3 W) (hide ?_)
    rw [hO]
    generalize nrB k = a3
    generalize ncB k = a4
    clear hr3 hO
    revert r3 a3 a4
    decide
  · rw [key0 hk h1 h2 h3]
    exact specKey_none k ad b off cap w hs (by simp [h1]) (by simp [h2]) (by simp [h3])

set_option maxHeartbeats 400000 in
theorem toCurve_any (P A B N gx gy : Int) (w : World) : Calls Tryz.prog 37 #[.agg #[.int .i64 P, .int .i64 A, .int .i64 B, .int .i64 N, .int .i64 gx, .int .i64 gy]] w fun r w' => r = .returned (.agg #[.int .i64 P, .int .i64 A, .int .i64 B, .int .i64 N, .int .i64 gx, .int .i64 gy]) ∧ Below w.heap.size w w' := by
  go_enter Tryz.func37, Tryz.ntmps37
  go_wp2
  refine bodyPost_ret (v := .agg #[.int .i64 P, .int .i64 A, .int .i64 B, .int .i64 N, .int .i64 gx, .int .i64 gy]) (by simp [results, Tryz.results37, go_sem]) rfl ⟨rfl, ?_⟩
  repeat (first | exact Below.refl _ _ | refine Below.setCell ?_ (by simp <;> omega) _ | refine Below.alloc ?_ (by simp <;> omega) _)

set_option maxHeartbeats 400000 in
theorem toPoint_any (x y : Int) (f : Bool) (w : World) : Calls Tryz.prog 38 #[.agg #[.int .i64 x, .int .i64 y, .bool f]] w fun r w' => r = .returned (.agg #[.int .i64 x, .int .i64 y, .bool f]) ∧ Below w.heap.size w w' := by
  go_enter Tryz.func38, Tryz.ntmps38
  go_wp2
  refine bodyPost_ret (v := .agg #[.int .i64 x, .int .i64 y, .bool f]) (by simp [results, Tryz.results38, go_sem]) rfl ⟨rfl, ?_⟩
  repeat (first | exact Below.refl _ _ | refine Below.setCell ?_ (by simp <;> omega) _ | refine Below.alloc ?_ (by simp <;> omega) _)

set_option maxHeartbeats 400000 in
theorem eqPoint_same (x y : Int) (f : Bool) (w : World) : Calls Tryz.prog 46 #[.agg #[.int .i64 x, .int .i64 y, .bool f], .agg #[.int .i64 x, .int .i64 y, .bool f]] w fun r w' => r = .returned (.bool true) ∧ Below w.heap.size w w' := by
  have h1 : (x != x) = false := by simp
  have h2 : (y != y) = false := by simp
  have h3 : (f != f) = false := by simp
  go_enter Tryz.func46, Tryz.ntmps46
  go_wp2
  go_ret
  exact ⟨rfl, ((Below.refl _ _).alloc (Nat.le_refl _) _).alloc (by simp) _⟩

set_option maxHeartbeats 400000 in
theorem toEd_any (P D L bx cy : Int) (w : World) : Calls Tryz.prog 39 #[.agg #[.int .i64 P, .int .i64 D, .int .i64 L, .int .i64 bx, .int .i64 cy]] w fun r w' => r = .returned (.agg #[.int .i64 P, .int .i64 D, .int .i64 L, .int .i64 bx, .int .i64 cy]) ∧ Ext w w' := by
  go_enter Tryz.func39, Tryz.ntmps39
  go_wp2
  refine bodyPost_ret (v := .agg #[.int .i64 P, .int .i64 D, .int .i64 L, .int .i64 bx, .int .i64 cy]) (by simp [results, Tryz.results39, go_sem]) rfl ⟨rfl, ?_⟩
  unfold Ext
  repeat (first | exact Below.refl _ _ | refine Below.setCell ?_ (by simp <;> omega) _ | refine Below.alloc ?_ (by simp <;> omega) _)

set_option maxHeartbeats 400000 in
theorem toPair_any (x y : Int) (w : World) : Calls Tryz.prog 40 #[.agg #[.int .i64 x, .int .i64 y]] w fun r w' => r = .returned (.agg #[.int .i64 x, .int .i64 y]) ∧ Ext w w' := by
  go_enter Tryz.func40, Tryz.ntmps40
  go_wp2
  refine bodyPost_ret (v := .agg #[.int .i64 x, .int .i64 y]) (by simp [results, Tryz.results40, go_sem]) rfl ⟨rfl, ?_⟩
  unfold Ext
  repeat (first | exact Below.refl _ _ | refine Below.setCell ?_ (by simp <;> omega) _ | refine Below.alloc ?_ (by simp <;> omega) _)

set_option maxHeartbeats 400000 in
theorem eqPair_same (x y : Int) (w : World) : Calls Tryz.prog 48 #[.agg #[.int .i64 x, .int .i64 y], .agg #[.int .i64 x, .int .i64 y]] w fun r w' => r = .returned (.bool true) ∧ Ext w w' := by
  have h1 : (x != x) = false := by simp
  have h2 : (y != y) = false := by simp
  go_enter Tryz.func48, Tryz.ntmps48
  go_wp2
  go_ret
  exact ⟨rfl, ((Below.refl _ _).alloc (Nat.le_refl _) _).alloc (by simp) _⟩

set_option linter.unusedSimpArgs false

/-- A result that lies in a block is read there as a whole. -/
theorem results_cell {P : Program} {fn : Func} {a : Nat} {T : TypeId} (hf : fn.results = #[.cell a T]) {tmps : Array Value} {q : Addr} {v : Value} {W : World} (ht : tmps.getD a undef = .pointer (some q)) (hl : (loadVar T q).run P W = .ok v W) : (results fn tmps).run P W = .ok v W := by
  have ht' : tmps[a]?.getD undef = .pointer (some q) := by simpa using ht
  simp [results, hf, ht', asAddr, hl]

theorem setCells_putK (b : Nat) : ∀ (vs : List Value) (o : Nat) (w : World), w.setCells b o vs = putL b o vs w
  | [], _, _ => rfl
  | v :: vs, o, w => by rw [World.setCells, putL, setCells_putK b vs]

/-- A key is stored as a whole. -/
theorem run_storeKey (cs : List Value) (hl : cs.length = 19) (h1 : ∀ v ∈ cs, v.oneCell' = true) (b : Nat) (w : World) {vs : List Value} (hB : Blk w b vs) (hv : vs.length = 19) :
    (Instr.storeAt 40 (.pointer (some ⟨b, 0, none⟩)) (.agg cs.toArray)).run Tryz.prog w = .ok () (putL b 0 cs w) := by
  have hs : (Go.sizeOf 40).run Tryz.prog w = .ok 19 w := by kernel_rfl
  have hx : ∀ j, j < 19 → ∃ v, vs[j]? = some v := fun j hj => ⟨_, List.getElem?_eq_getElem (by omega)⟩
  have hst := run_storeCells_cells (P := Tryz.prog) b 0 cs 0 w (fun j hj => by
    obtain ⟨v, h⟩ := hx j (by omega)
    simp [(hB j v h).1]) (fun j hj => by
    obtain ⟨v, h⟩ := hx j (by omega)
    simpa using (hB j v h).2) h1
  simp only [Instr.storeAt, Instr.sureAddr, storeVar, Sem.run_bind, Sem.run_pure, Result.andThen_ok, hs, Value.cells]
  rw [setCells_putK] at hst
  simp [hl, hst]

theorem wpList_store_on {P : Program} {w : World} {ops : Array Oper} {rest : List Oper} {o : Oper} {a : Act} {Q : Exit → Act → World → Prop} (hw : Region.wanted o (yielded ops a.tmps) = true) (ty : TypeId) (x y : Operand) (ho : o.op = .store ty x y) (vx : Value) (hx : a.eval x = vx) (vy : Value) (hy : a.eval y = vy) (w2 : World) (hl : (Instr.storeAt ty vx vy).run P w = .ok () w2)
    (h : wpList P ops Q rest (a.put o.dst undef) w2) : wpList P ops Q (o :: rest) a w := by
  rw [wpList]
  simp only [hw, if_true]
  refine Or.inl ?_
  unfold Oper.wp execOp
  simp only [ho, hx, hy, Sem.run_bind, Sem.run_pure, Result.andThen_ok, hl]
  exact h

theorem Blk.putAll {w : World} {C : Nat} {us vs : List Value} (h : Blk w C us) (hl : us.length = vs.length) : Blk (putL C 0 vs w) C vs := fun j v hj => by
  have hi := (List.getElem?_eq_some_iff.1 hj).1
  have := cell_putL C vs 0 w (fun k hk => by
    obtain ⟨y, hy⟩ : ∃ y, us[k]? = some y := ⟨_, List.getElem?_eq_getElem (by omega)⟩
    rw [Nat.zero_add, (h k y hy).1]
    rfl) j v hj
  rw [Nat.zero_add] at this
  obtain ⟨y, hy⟩ : ∃ y, us[j]? = some y := ⟨_, List.getElem?_eq_getElem (by omega)⟩
  exact ⟨this, by rw [frozen_putL]; exact (h j y hy).2⟩

theorem Seg.putAll {w : World} {a : Option Addr} {g o n D : Nat} {f : Nat → Int} (vs : List Value) (h : Seg w a g o n f) (hn : g ≠ D) : Seg (putL D 0 vs w) a g o n f :=
  ⟨h.at', fun j hj => (cell_putL_other D ⟨g, o + j, none⟩ vs 0 w (fun e => absurd e hn)).trans (h.cell j hj)⟩

theorem Blk.set {w : World} {C : Nat} {vs : List Value} (h : Blk w C vs) (i : Nat) (v : Value) (hi : i < vs.length) : Blk (w.setCell ⟨C, i, none⟩ v) C (vs.set i v) := fun j u hj => by
  by_cases e : j = i
  · subst e
    rw [List.getElem?_set_self hi] at hj
    simp only [Option.some.injEq] at hj
    subst hj
    obtain ⟨y, hy⟩ : ∃ y, vs[j]? = some y := ⟨_, List.getElem?_eq_getElem hi⟩
    exact ⟨World.cell?_setCell_same _ _ _ (h j y hy).1, by rw [World.frozen?_setCell]; exact (h j y hy).2⟩
  · rw [List.getElem?_set_ne (fun h => e h.symm)] at hj
    refine ⟨?_, by rw [World.frozen?_setCell]; exact (h j u hj).2⟩
    rw [World.cell?_setCell_other _ _ _ _ (fun k => e (by have := congrArg Addr.off k; simp at this; omega))]
    exact (h j u hj).1

theorem Blk.apart {w : World} {C D i : Nat} {vs : List Value} (h : Blk w C vs) (v : Value) (hn : C ≠ D) : Blk (w.setCell ⟨D, i, none⟩ v) C vs := fun j u hj => by
  have hb : (w.setCell ⟨D, i, none⟩ v).heap[C]? = w.heap[C]? := Below.heap_setCell _ _ _ _ hn
  exact ⟨(World.cell?_of_block (a := ⟨C, j, none⟩) hb).trans (h j u hj).1, (World.frozen?_of_block (a := ⟨C, j, none⟩) hb).trans (h j u hj).2⟩

theorem Seg.apart {w : World} {a : Option Addr} {g o n D i : Nat} {f : Nat → Int} (h : Seg w a g o n f) (v : Value) (hn : g ≠ D) : Seg (w.setCell ⟨D, i, none⟩ v) a g o n f :=
  ⟨h.at', fun j hj => (World.cell?_of_block (a := ⟨g, o + j, none⟩) (Below.heap_setCell _ _ _ _ hn)).trans (h.cell j hj)⟩

def szN (l : Int) (n : Nat) : Int := if l < n then -1 else l - n
theorem szN_facts {l : Int} {n : Nat} (h0 : 0 ≤ l) : -1 ≤ szN l n ∧ szN l n ≤ l ∧ (0 ≤ szN l n → (n : Int) ≤ l) := by
  unfold szN
  split <;> refine ⟨by omega, by omega, fun _ => by omega⟩
theorem szIntS_any (a : Option Addr) (n cap : Nat) (l : Int) (w : World) (l0 : 0 ≤ l) (l1 : l ≤ 1048576) (hn : n ≤ 9223372036854775807) :
    Calls Tryz.prog 32 #[.slice a n cap, .int .i64 l] w fun e w' => e = .returned (.int .i64 (szN l n)) ∧ w' = w := by
  unfold szN
  by_cases h : l < n
  · rw [if_pos h]
    have h1 : l - (n : Int) < 0 := by omega
    have h2 : -9223372036854775808 ≤ l - (n : Int) := by omega
    go_enter Tryz.func32, Tryz.ntmps32
    go_wp2
    go_ret
    exact ⟨rfl, rfl⟩
  · rw [if_neg h]
    have h1 : ¬ l - (n : Int) < 0 := by omega
    go_enter Tryz.func32, Tryz.ntmps32
    go_wp2
    go_ret
    exact ⟨rfl, rfl⟩

set_option maxHeartbeats 3200000 in
set_option maxRecDepth 100000 in
theorem szKey_any (k : Ky) (ad : Option Addr) (cap : Nat) (l : Int) (w : World) (l0 : 0 ≤ l) (l1 : l ≤ 1048576) (hn : k.n ≤ 9223372036854775807) :
    Calls Tryz.prog 8 #[.agg #[.int .i64 k.kind, .slice ad k.n cap, .int .i64 k.e, .int .i64 k.cP, .int .i64 k.cA, .int .i64 k.cB, .int .i64 k.cN, .int .i64 k.cX, .int .i64 k.cY, .int .i64 k.q.x, .int .i64 k.q.y, .bool k.q.far, .int .i64 k.dP, .int .i64 k.dD, .int .i64 k.dL, .int .i64 k.dX, .int .i64 k.dY, .int .i64 k.a.x, .int .i64 k.a.y], .int .i64 l] w fun e w' => (∃ z : Int, e = .returned (.int .i64 z) ∧ -1 ≤ z ∧ z ≤ l ∧ (0 ≤ z → (k.n : Int) ≤ l)) ∧ Ext w w' := by
  obtain ⟨V, hV⟩ : ∃ V, w.alloc (.cells #[.int .i64 k.kind, .slice ad k.n cap, .int .i64 k.e, .int .i64 k.cP, .int .i64 k.cA, .int .i64 k.cB, .int .i64 k.cN, .int .i64 k.cX, .int .i64 k.cY, .int .i64 k.q.x, .int .i64 k.q.y, .bool k.q.far, .int .i64 k.dP, .int .i64 k.dD, .int .i64 k.dL, .int .i64 k.dX, .int .i64 k.dY, .int .i64 k.a.x, .int .i64 k.a.y] 32) = V := ⟨_, rfl⟩
  obtain ⟨B0, hE, -⟩ := box1 w [.int .i64 k.kind, .slice ad k.n cap, .int .i64 k.e, .int .i64 k.cP, .int .i64 k.cA, .int .i64 k.cB, .int .i64 k.cN, .int .i64 k.cX, .int .i64 k.cY, .int .i64 k.q.x, .int .i64 k.q.y, .bool k.q.far, .int .i64 k.dP, .int .i64 k.dD, .int .i64 k.dL, .int .i64 k.dX, .int .i64 k.dY, .int .i64 k.a.x, .int .i64 k.a.y] 32 (w1 := V) (by rw [← hV]; exact Ext.refl _)
  have c1 := (B0 1 _ rfl).1
  have HE := hide hE
  have HS := hide (szIntS_any ad k.n cap l V l0 l1 hn)
  clear B0 hE
  go_enter Tryz.func8, Tryz.ntmps8
  go_wp2_with fail
  refine HS.out.mono ?_
  rintro e W ⟨rfl, hw⟩
  obtain rfl := hw.symm
  obtain ⟨z0, z1, hz⟩ := szN_facts (l := l) (n := k.n) l0
  generalize szN l k.n = z at *
  have Hz := hide hz
  clear hz
  by_cases h : z < 0
  · go_wp2
    go_ret
    exact ⟨⟨-1, rfl, by omega, by omega, fun h => by omega⟩, HE.out⟩
  · go_wp2
    go_ret
    exact ⟨⟨z, rfl, z0, z1, Hz.out⟩, HE.out⟩

/-- A copied key. -/
def GivesKy (w : World) (k : Ky) (e : Ending) (w' : World) : Prop := ∃ R, e = .returned (.agg #[.int .i64 k.kind, .slice (some ⟨R, 0, none⟩) k.n k.n, .int .i64 k.e, .int .i64 k.cP, .int .i64 k.cA, .int .i64 k.cB, .int .i64 k.cN, .int .i64 k.cX, .int .i64 k.cY, .int .i64 k.q.x, .int .i64 k.q.y, .bool k.q.far, .int .i64 k.dP, .int .i64 k.dD, .int .i64 k.dL, .int .i64 k.dX, .int .i64 k.dY, .int .i64 k.a.x, .int .i64 k.a.y]) ∧ w.heap.size ≤ R ∧ Seg w' (some ⟨R, 0, none⟩) R 0 k.n k.f ∧ Ext w w'

set_option maxHeartbeats 6400000 in
set_option maxRecDepth 100000 in
theorem toKey_any (k : Ky) (ad : Option Addr) (b off cap : Nat) (w : World) (hs : Seg w ad b off k.n k.f) (hn : k.n ≤ 1048576) :
    Calls Tryz.prog 10 #[.agg #[.int .i64 k.kind, .slice ad k.n cap, .int .i64 k.e, .int .i64 k.cP, .int .i64 k.cA, .int .i64 k.cB, .int .i64 k.cN, .int .i64 k.cX, .int .i64 k.cY, .int .i64 k.q.x, .int .i64 k.q.y, .bool k.q.far, .int .i64 k.dP, .int .i64 k.dD, .int .i64 k.dL, .int .i64 k.dX, .int .i64 k.dY, .int .i64 k.a.x, .int .i64 k.a.y]] w fun e w' => GivesKy w k e w' := by
  obtain ⟨V, hV⟩ : ∃ V, ((w.alloc (.cells #[.int .i64 k.kind, .slice ad k.n cap, .int .i64 k.e, .int .i64 k.cP, .int .i64 k.cA, .int .i64 k.cB, .int .i64 k.cN, .int .i64 k.cX, .int .i64 k.cY, .int .i64 k.q.x, .int .i64 k.q.y, .bool k.q.far, .int .i64 k.dP, .int .i64 k.dD, .int .i64 k.dL, .int .i64 k.dX, .int .i64 k.dY, .int .i64 k.a.x, .int .i64 k.a.y] 32)).alloc (.cells #[.int .i64 0, .slice none 0 0, .int .i64 0, .int .i64 0, .int .i64 0, .int .i64 0, .int .i64 0, .int .i64 0, .int .i64 0, .int .i64 0, .int .i64 0, .bool false, .int .i64 0, .int .i64 0, .int .i64 0, .int .i64 0, .int .i64 0, .int .i64 0, .int .i64 0] 40)).alloc (.cells #[.int .i64 0, .slice none 0 0, .int .i64 0, .int .i64 0, .int .i64 0, .int .i64 0, .int .i64 0, .int .i64 0, .int .i64 0, .int .i64 0, .int .i64 0, .bool false, .int .i64 0, .int .i64 0, .int .i64 0, .int .i64 0, .int .i64 0, .int .i64 0, .int .i64 0] 40) = V := ⟨_, rfl⟩
  obtain ⟨B0, B2, B1, hE, -⟩ := box3 w [.int .i64 k.kind, .slice ad k.n cap, .int .i64 k.e, .int .i64 k.cP, .int .i64 k.cA, .int .i64 k.cB, .int .i64 k.cN, .int .i64 k.cX, .int .i64 k.cY, .int .i64 k.q.x, .int .i64 k.q.y, .bool k.q.far, .int .i64 k.dP, .int .i64 k.dD, .int .i64 k.dL, .int .i64 k.dX, .int .i64 k.dY, .int .i64 k.a.x, .int .i64 k.a.y] [.int .i64 0, .slice none 0 0, .int .i64 0, .int .i64 0, .int .i64 0, .int .i64 0, .int .i64 0, .int .i64 0, .int .i64 0, .int .i64 0, .int .i64 0, .bool false, .int .i64 0, .int .i64 0, .int .i64 0, .int .i64 0, .int .i64 0, .int .i64 0, .int .i64 0] [.int .i64 0, .slice none 0 0, .int .i64 0, .int .i64 0, .int .i64 0, .int .i64 0, .int .i64 0, .int .i64 0, .int .i64 0, .int .i64 0, .int .i64 0, .bool false, .int .i64 0, .int .i64 0, .int .i64 0, .int .i64 0, .int .i64 0, .int .i64 0, .int .i64 0] 32 40 40 (w1 := V) (by rw [← hV]; exact Ext.refl _)
  have HA := hide B0
  have HO := hide B1
  have HQ := hide B2
  have HW := hide hE
  have HInt : Hid (∀ W, Ext w W → Calls Tryz.prog 36 #[.slice ad k.n cap] W fun e w' => ∃ R, e = .returned (.slice (some ⟨R, 0, none⟩) k.n k.n) ∧ W.heap.size ≤ R ∧ Seg w' (some ⟨R, 0, none⟩) R 0 k.n k.f ∧ Ext W w') := fun W h => (toIntS_any ad b off k.n cap k.f W (hs.of_all h) hn).mono fun e w' ⟨h1, h2, h3, h4⟩ => ⟨_, h1, Nat.le_refl _, ⟨fun _ => rfl, fun i hi => by rw [Nat.zero_add]; exact h3.cell hi⟩, h4⟩
  clear B0 B1 B2 hE hs
  have a0 := (HA.out 0 _ rfl).1
  have a1 := (HA.out 1 _ rfl).1
  have o0 := (HO.out 0 _ rfl).1
  have f0 := (HO.out 0 _ rfl).2
  go_enter Tryz.func10, Tryz.ntmps10
  go_wp2_with fail
  refine (HInt.out _ (Below.setCell HW.out (p := ⟨w.heap.size + 1 + 1, 0, none⟩) (Nat.le_succ_of_le (Nat.le_succ _)) _)).mono ?_
  rintro e w1 ⟨R, rfl, hR, hSg, hEW⟩
  clear a0 a1 o0 f0
  replace HQ := hide (Blk.ext (Blk.apart HQ.out _ (by omega)) hEW (World.block_lt_of_cell? _ _ ((Blk.apart HQ.out _ (by omega)) 0 _ rfl).1))
  replace HA := hide (Blk.ext (Blk.apart HA.out _ (by omega)) hEW (World.block_lt_of_cell? _ _ ((Blk.apart HA.out _ (by omega)) 0 _ rfl).1))
  have HO0 := HO
  replace HO : Hid (Blk w1 (w.heap.size + 1 + 1) [.int .i64 k.kind, .slice none 0 0, .int .i64 0, .int .i64 0, .int .i64 0, .int .i64 0, .int .i64 0, .int .i64 0, .int .i64 0, .int .i64 0, .int .i64 0, .bool false, .int .i64 0, .int .i64 0, .int .i64 0, .int .i64 0, .int .i64 0, .int .i64 0, .int .i64 0]) := hide (Blk.ext (Blk.set HO.out 0 _ (by simp)) hEW (World.block_lt_of_cell? _ _ ((Blk.set HO.out 0 _ (by simp)) 0 _ rfl).1))
  have HRn : Hid (R ≠ w.heap.size + 1 + 1) := by
    show _ ≠ _
    have h1 := World.block_lt_of_cell? _ _ ((Blk.set HO0.out 0 (.int .i64 k.kind) (by simp)) 0 _ rfl).1
    have h2 : w.heap.size + 1 + 1 < (V.setCell ⟨w.heap.size + 1 + 1, 0, none⟩ (.int .i64 k.kind)).heap.size := h1
    omega
  have HRq : Hid (R ≠ w.heap.size + 1) := by
    show _ ≠ _
    have h1 := World.block_lt_of_cell? _ _ ((Blk.set HO0.out 0 (.int .i64 k.kind) (by simp)) 0 _ rfl).1
    have h2 : w.heap.size + 1 + 1 < (V.setCell ⟨w.heap.size + 1 + 1, 0, none⟩ (.int .i64 k.kind)).heap.size := h1
    omega
  have HR : Hid (w.heap.size ≤ R) := by
    show _ ≤ _
    have h1 := Below.size HW.out
    have h2 : (V.setCell ⟨w.heap.size + 1 + 1, 0, none⟩ (.int .i64 k.kind)).heap.size = V.heap.size := by simp [World.setCell]
    omega
  have HSg := hide hSg
  clear hSg hR
  replace HW := hide (Ext.trans (Below.setCell HW.out (p := ⟨w.heap.size + 1 + 1, 0, none⟩) (Nat.le_succ_of_le (Nat.le_succ _)) _) hEW)
  clear hEW
  have a2 := (HA.out 2 _ rfl).1
  have a3 := (HA.out 3 _ rfl).1
  have a4 := (HA.out 4 _ rfl).1
  have a5 := (HA.out 5 _ rfl).1
  have a6 := (HA.out 6 _ rfl).1
  have a7 := (HA.out 7 _ rfl).1
  have a8 := (HA.out 8 _ rfl).1
  have o1 := (HO.out 1 _ rfl).1
  have f1 := (HO.out 1 _ rfl).2
  have o2 := (HO.out 2 _ rfl).1
  have f2 := (HO.out 2 _ rfl).2
  go_wp2_with fail
  refine (toCurve_any k.cP k.cA k.cB k.cN k.cX k.cY _).mono ?_
  rintro e w2 ⟨rfl, hEW⟩
  clear a2 a3 a4 a5 a6 a7 a8 o1 f1 o2 f2
  replace HQ := hide (Blk.ext (Blk.apart (Blk.apart HQ.out _ (by omega)) _ (by omega)) hEW (World.block_lt_of_cell? _ _ ((Blk.apart (Blk.apart HQ.out _ (by omega)) _ (by omega)) 0 _ rfl).1))
  replace HA := hide (Blk.ext (Blk.apart (Blk.apart HA.out _ (by omega)) _ (by omega)) hEW (World.block_lt_of_cell? _ _ ((Blk.apart (Blk.apart HA.out _ (by omega)) _ (by omega)) 0 _ rfl).1))
  have HO0 := HO
  replace HO : Hid (Blk w2 (w.heap.size + 1 + 1) [.int .i64 k.kind, .slice (some ⟨R, 0, none⟩) k.n k.n, .int .i64 k.e, .int .i64 0, .int .i64 0, .int .i64 0, .int .i64 0, .int .i64 0, .int .i64 0, .int .i64 0, .int .i64 0, .bool false, .int .i64 0, .int .i64 0, .int .i64 0, .int .i64 0, .int .i64 0, .int .i64 0, .int .i64 0]) := hide (Blk.ext (Blk.set (Blk.set HO.out 1 _ (by simp)) 2 _ (by simp)) hEW (World.block_lt_of_cell? _ _ ((Blk.set (Blk.set HO.out 1 _ (by simp)) 2 _ (by simp)) 0 _ rfl).1))
  replace HSg := hide (Seg.of_all (Seg.apart (Seg.apart HSg.out _ HRn.out) _ HRn.out) hEW)
  replace HW := hide (Ext.trans (Below.setCell (Below.setCell HW.out (p := ⟨w.heap.size + 1 + 1, 1, none⟩) (Nat.le_succ_of_le (Nat.le_succ _)) _) (p := ⟨w.heap.size + 1 + 1, 2, none⟩) (Nat.le_succ_of_le (Nat.le_succ _)) _) hEW)
  clear hEW
  have a9 := (HA.out 9 _ rfl).1
  have a10 := (HA.out 10 _ rfl).1
  have a11 := (HA.out 11 _ rfl).1
  have o3 := (HO.out 3 _ rfl).1
  have f3 := (HO.out 3 _ rfl).2
  have o4 := (HO.out 4 _ rfl).1
  have f4 := (HO.out 4 _ rfl).2
  have o5 := (HO.out 5 _ rfl).1
  have f5 := (HO.out 5 _ rfl).2
  have o6 := (HO.out 6 _ rfl).1
  have f6 := (HO.out 6 _ rfl).2
  have o7 := (HO.out 7 _ rfl).1
  have f7 := (HO.out 7 _ rfl).2
  have o8 := (HO.out 8 _ rfl).1
  have f8 := (HO.out 8 _ rfl).2
  go_wp2_with fail
  refine (toPoint_any k.q.x k.q.y k.q.far _).mono ?_
  rintro e w3 ⟨rfl, hEW⟩
  clear a9 a10 a11 o3 f3 o4 f4 o5 f5 o6 f6 o7 f7 o8 f8
  replace HQ := hide (Blk.ext (Blk.apart (Blk.apart (Blk.apart (Blk.apart (Blk.apart (Blk.apart HQ.out _ (by omega)) _ (by omega)) _ (by omega)) _ (by omega)) _ (by omega)) _ (by omega)) hEW (World.block_lt_of_cell? _ _ ((Blk.apart (Blk.apart (Blk.apart (Blk.apart (Blk.apart (Blk.apart HQ.out _ (by omega)) _ (by omega)) _ (by omega)) _ (by omega)) _ (by omega)) _ (by omega)) 0 _ rfl).1))
  replace HA := hide (Blk.ext (Blk.apart (Blk.apart (Blk.apart (Blk.apart (Blk.apart (Blk.apart HA.out _ (by omega)) _ (by omega)) _ (by omega)) _ (by omega)) _ (by omega)) _ (by omega)) hEW (World.block_lt_of_cell? _ _ ((Blk.apart (Blk.apart (Blk.apart (Blk.apart (Blk.apart (Blk.apart HA.out _ (by omega)) _ (by omega)) _ (by omega)) _ (by omega)) _ (by omega)) _ (by omega)) 0 _ rfl).1))
  have HO0 := HO
  replace HO : Hid (Blk w3 (w.heap.size + 1 + 1) [.int .i64 k.kind, .slice (some ⟨R, 0, none⟩) k.n k.n, .int .i64 k.e, .int .i64 k.cP, .int .i64 k.cA, .int .i64 k.cB, .int .i64 k.cN, .int .i64 k.cX, .int .i64 k.cY, .int .i64 0, .int .i64 0, .bool false, .int .i64 0, .int .i64 0, .int .i64 0, .int .i64 0, .int .i64 0, .int .i64 0, .int .i64 0]) := hide (Blk.ext (Blk.set (Blk.set (Blk.set (Blk.set (Blk.set (Blk.set HO.out 3 _ (by simp)) 4 _ (by simp)) 5 _ (by simp)) 6 _ (by simp)) 7 _ (by simp)) 8 _ (by simp)) hEW (World.block_lt_of_cell? _ _ ((Blk.set (Blk.set (Blk.set (Blk.set (Blk.set (Blk.set HO.out 3 _ (by simp)) 4 _ (by simp)) 5 _ (by simp)) 6 _ (by simp)) 7 _ (by simp)) 8 _ (by simp)) 0 _ rfl).1))
  replace HSg := hide (Seg.of_all (Seg.apart (Seg.apart (Seg.apart (Seg.apart (Seg.apart (Seg.apart HSg.out _ HRn.out) _ HRn.out) _ HRn.out) _ HRn.out) _ HRn.out) _ HRn.out) hEW)
  replace HW := hide (Ext.trans (Below.setCell (Below.setCell (Below.setCell (Below.setCell (Below.setCell (Below.setCell HW.out (p := ⟨w.heap.size + 1 + 1, 3, none⟩) (Nat.le_succ_of_le (Nat.le_succ _)) _) (p := ⟨w.heap.size + 1 + 1, 4, none⟩) (Nat.le_succ_of_le (Nat.le_succ _)) _) (p := ⟨w.heap.size + 1 + 1, 5, none⟩) (Nat.le_succ_of_le (Nat.le_succ _)) _) (p := ⟨w.heap.size + 1 + 1, 6, none⟩) (Nat.le_succ_of_le (Nat.le_succ _)) _) (p := ⟨w.heap.size + 1 + 1, 7, none⟩) (Nat.le_succ_of_le (Nat.le_succ _)) _) (p := ⟨w.heap.size + 1 + 1, 8, none⟩) (Nat.le_succ_of_le (Nat.le_succ _)) _) hEW)
  clear hEW
  have a12 := (HA.out 12 _ rfl).1
  have a13 := (HA.out 13 _ rfl).1
  have a14 := (HA.out 14 _ rfl).1
  have a15 := (HA.out 15 _ rfl).1
  have a16 := (HA.out 16 _ rfl).1
  have o9 := (HO.out 9 _ rfl).1
  have f9 := (HO.out 9 _ rfl).2
  have o10 := (HO.out 10 _ rfl).1
  have f10 := (HO.out 10 _ rfl).2
  have o11 := (HO.out 11 _ rfl).1
  have f11 := (HO.out 11 _ rfl).2
  go_wp2_with fail
  refine (toEd_any k.dP k.dD k.dL k.dX k.dY _).mono ?_
  rintro e w4 ⟨rfl, hEW⟩
  clear a12 a13 a14 a15 a16 o9 f9 o10 f10 o11 f11
  replace HQ := hide (Blk.ext (Blk.apart (Blk.apart (Blk.apart HQ.out _ (by omega)) _ (by omega)) _ (by omega)) hEW (World.block_lt_of_cell? _ _ ((Blk.apart (Blk.apart (Blk.apart HQ.out _ (by omega)) _ (by omega)) _ (by omega)) 0 _ rfl).1))
  replace HA := hide (Blk.ext (Blk.apart (Blk.apart (Blk.apart HA.out _ (by omega)) _ (by omega)) _ (by omega)) hEW (World.block_lt_of_cell? _ _ ((Blk.apart (Blk.apart (Blk.apart HA.out _ (by omega)) _ (by omega)) _ (by omega)) 0 _ rfl).1))
  have HO0 := HO
  replace HO : Hid (Blk w4 (w.heap.size + 1 + 1) [.int .i64 k.kind, .slice (some ⟨R, 0, none⟩) k.n k.n, .int .i64 k.e, .int .i64 k.cP, .int .i64 k.cA, .int .i64 k.cB, .int .i64 k.cN, .int .i64 k.cX, .int .i64 k.cY, .int .i64 k.q.x, .int .i64 k.q.y, .bool k.q.far, .int .i64 0, .int .i64 0, .int .i64 0, .int .i64 0, .int .i64 0, .int .i64 0, .int .i64 0]) := hide (Blk.ext (Blk.set (Blk.set (Blk.set HO.out 9 _ (by simp)) 10 _ (by simp)) 11 _ (by simp)) hEW (World.block_lt_of_cell? _ _ ((Blk.set (Blk.set (Blk.set HO.out 9 _ (by simp)) 10 _ (by simp)) 11 _ (by simp)) 0 _ rfl).1))
  replace HSg := hide (Seg.of_all (Seg.apart (Seg.apart (Seg.apart HSg.out _ HRn.out) _ HRn.out) _ HRn.out) hEW)
  replace HW := hide (Ext.trans (Below.setCell (Below.setCell (Below.setCell HW.out (p := ⟨w.heap.size + 1 + 1, 9, none⟩) (Nat.le_succ_of_le (Nat.le_succ _)) _) (p := ⟨w.heap.size + 1 + 1, 10, none⟩) (Nat.le_succ_of_le (Nat.le_succ _)) _) (p := ⟨w.heap.size + 1 + 1, 11, none⟩) (Nat.le_succ_of_le (Nat.le_succ _)) _) hEW)
  clear hEW
  have a17 := (HA.out 17 _ rfl).1
  have a18 := (HA.out 18 _ rfl).1
  have o12 := (HO.out 12 _ rfl).1
  have f12 := (HO.out 12 _ rfl).2
  have o13 := (HO.out 13 _ rfl).1
  have f13 := (HO.out 13 _ rfl).2
  have o14 := (HO.out 14 _ rfl).1
  have f14 := (HO.out 14 _ rfl).2
  have o15 := (HO.out 15 _ rfl).1
  have f15 := (HO.out 15 _ rfl).2
  have o16 := (HO.out 16 _ rfl).1
  have f16 := (HO.out 16 _ rfl).2
  go_wp2_with fail
  refine (toPair_any k.a.x k.a.y _).mono ?_
  rintro e w5 ⟨rfl, hEW⟩
  clear a17 a18 o12 f12 o13 f13 o14 f14 o15 f15 o16 f16
  replace HQ := hide (Blk.ext (Blk.apart (Blk.apart (Blk.apart (Blk.apart (Blk.apart HQ.out _ (by omega)) _ (by omega)) _ (by omega)) _ (by omega)) _ (by omega)) hEW (World.block_lt_of_cell? _ _ ((Blk.apart (Blk.apart (Blk.apart (Blk.apart (Blk.apart HQ.out _ (by omega)) _ (by omega)) _ (by omega)) _ (by omega)) _ (by omega)) 0 _ rfl).1))
  replace HA := hide (Blk.ext (Blk.apart (Blk.apart (Blk.apart (Blk.apart (Blk.apart HA.out _ (by omega)) _ (by omega)) _ (by omega)) _ (by omega)) _ (by omega)) hEW (World.block_lt_of_cell? _ _ ((Blk.apart (Blk.apart (Blk.apart (Blk.apart (Blk.apart HA.out _ (by omega)) _ (by omega)) _ (by omega)) _ (by omega)) _ (by omega)) 0 _ rfl).1))
  have HO0 := HO
  replace HO : Hid (Blk w5 (w.heap.size + 1 + 1) [.int .i64 k.kind, .slice (some ⟨R, 0, none⟩) k.n k.n, .int .i64 k.e, .int .i64 k.cP, .int .i64 k.cA, .int .i64 k.cB, .int .i64 k.cN, .int .i64 k.cX, .int .i64 k.cY, .int .i64 k.q.x, .int .i64 k.q.y, .bool k.q.far, .int .i64 k.dP, .int .i64 k.dD, .int .i64 k.dL, .int .i64 k.dX, .int .i64 k.dY, .int .i64 0, .int .i64 0]) := hide (Blk.ext (Blk.set (Blk.set (Blk.set (Blk.set (Blk.set HO.out 12 _ (by simp)) 13 _ (by simp)) 14 _ (by simp)) 15 _ (by simp)) 16 _ (by simp)) hEW (World.block_lt_of_cell? _ _ ((Blk.set (Blk.set (Blk.set (Blk.set (Blk.set HO.out 12 _ (by simp)) 13 _ (by simp)) 14 _ (by simp)) 15 _ (by simp)) 16 _ (by simp)) 0 _ rfl).1))
  replace HSg := hide (Seg.of_all (Seg.apart (Seg.apart (Seg.apart (Seg.apart (Seg.apart HSg.out _ HRn.out) _ HRn.out) _ HRn.out) _ HRn.out) _ HRn.out) hEW)
  replace HW := hide (Ext.trans (Below.setCell (Below.setCell (Below.setCell (Below.setCell (Below.setCell HW.out (p := ⟨w.heap.size + 1 + 1, 12, none⟩) (Nat.le_succ_of_le (Nat.le_succ _)) _) (p := ⟨w.heap.size + 1 + 1, 13, none⟩) (Nat.le_succ_of_le (Nat.le_succ _)) _) (p := ⟨w.heap.size + 1 + 1, 14, none⟩) (Nat.le_succ_of_le (Nat.le_succ _)) _) (p := ⟨w.heap.size + 1 + 1, 15, none⟩) (Nat.le_succ_of_le (Nat.le_succ _)) _) (p := ⟨w.heap.size + 1 + 1, 16, none⟩) (Nat.le_succ_of_le (Nat.le_succ _)) _) hEW)
  clear hEW
  have o17 := (HO.out 17 _ rfl).1
  have f17 := (HO.out 17 _ rfl).2
  have o18 := (HO.out 18 _ rfl).1
  have f18 := (HO.out 18 _ rfl).2
  have hO2 : Blk ((w5.setCell ⟨w.heap.size + 1 + 1, 17, none⟩ (.int .i64 k.a.x)).setCell ⟨w.heap.size + 1 + 1, 18, none⟩ (.int .i64 k.a.y)) (w.heap.size + 1 + 1) [.int .i64 k.kind, .slice (some ⟨R, 0, none⟩) k.n k.n, .int .i64 k.e, .int .i64 k.cP, .int .i64 k.cA, .int .i64 k.cB, .int .i64 k.cN, .int .i64 k.cX, .int .i64 k.cY, .int .i64 k.q.x, .int .i64 k.q.y, .bool k.q.far, .int .i64 k.dP, .int .i64 k.dD, .int .i64 k.dL, .int .i64 k.dX, .int .i64 k.dY, .int .i64 k.a.x, .int .i64 k.a.y] := (Blk.set (Blk.set HO.out 17 _ (by simp)) 18 _ (by simp))
  have hQ2 : Blk ((w5.setCell ⟨w.heap.size + 1 + 1, 17, none⟩ (.int .i64 k.a.x)).setCell ⟨w.heap.size + 1 + 1, 18, none⟩ (.int .i64 k.a.y)) (w.heap.size + 1) [.int .i64 0, .slice none 0 0, .int .i64 0, .int .i64 0, .int .i64 0, .int .i64 0, .int .i64 0, .int .i64 0, .int .i64 0, .int .i64 0, .int .i64 0, .bool false, .int .i64 0, .int .i64 0, .int .i64 0, .int .i64 0, .int .i64 0, .int .i64 0, .int .i64 0] := (Blk.apart (Blk.apart HQ.out _ (by omega)) _ (by omega))
  have hW2 : Ext w ((w5.setCell ⟨w.heap.size + 1 + 1, 17, none⟩ (.int .i64 k.a.x)).setCell ⟨w.heap.size + 1 + 1, 18, none⟩ (.int .i64 k.a.y)) := (Below.setCell (Below.setCell HW.out (p := ⟨w.heap.size + 1 + 1, 17, none⟩) (Nat.le_succ_of_le (Nat.le_succ _)) _) (p := ⟨w.heap.size + 1 + 1, 18, none⟩) (Nat.le_succ_of_le (Nat.le_succ _)) _)
  have hS2 : Seg ((w5.setCell ⟨w.heap.size + 1 + 1, 17, none⟩ (.int .i64 k.a.x)).setCell ⟨w.heap.size + 1 + 1, 18, none⟩ (.int .i64 k.a.y)) (some ⟨R, 0, none⟩) R 0 k.n k.f := (Seg.apart (Seg.apart HSg.out _ HRn.out) _ HRn.out)
  have hld := run_loadKey [.int .i64 k.kind, .slice (some ⟨R, 0, none⟩) k.n k.n, .int .i64 k.e, .int .i64 k.cP, .int .i64 k.cA, .int .i64 k.cB, .int .i64 k.cN, .int .i64 k.cX, .int .i64 k.cY, .int .i64 k.q.x, .int .i64 k.q.y, .bool k.q.far, .int .i64 k.dP, .int .i64 k.dD, .int .i64 k.dL, .int .i64 k.dX, .int .i64 k.dY, .int .i64 k.a.x, .int .i64 k.a.y] rfl (w.heap.size + 1 + 1) ((w5.setCell ⟨w.heap.size + 1 + 1, 17, none⟩ (.int .i64 k.a.x)).setCell ⟨w.heap.size + 1 + 1, 18, none⟩ (.int .i64 k.a.y)) (fun j v h => (hO2 j v h).1)
  have hst := run_storeKey [.int .i64 k.kind, .slice (some ⟨R, 0, none⟩) k.n k.n, .int .i64 k.e, .int .i64 k.cP, .int .i64 k.cA, .int .i64 k.cB, .int .i64 k.cN, .int .i64 k.cX, .int .i64 k.cY, .int .i64 k.q.x, .int .i64 k.q.y, .bool k.q.far, .int .i64 k.dP, .int .i64 k.dD, .int .i64 k.dL, .int .i64 k.dX, .int .i64 k.dY, .int .i64 k.a.x, .int .i64 k.a.y] rfl (by simp [Value.oneCell']) (w.heap.size + 1) ((w5.setCell ⟨w.heap.size + 1 + 1, 17, none⟩ (.int .i64 k.a.x)).setCell ⟨w.heap.size + 1 + 1, 18, none⟩ (.int .i64 k.a.y)) hQ2 rfl
  have hB3 := Blk.putAll (vs := [.int .i64 k.kind, .slice (some ⟨R, 0, none⟩) k.n k.n, .int .i64 k.e, .int .i64 k.cP, .int .i64 k.cA, .int .i64 k.cB, .int .i64 k.cN, .int .i64 k.cX, .int .i64 k.cY, .int .i64 k.q.x, .int .i64 k.q.y, .bool k.q.far, .int .i64 k.dP, .int .i64 k.dD, .int .i64 k.dL, .int .i64 k.dX, .int .i64 k.dY, .int .i64 k.a.x, .int .i64 k.a.y]) hQ2 rfl
  have HW3 := hide (below_putL (Nat.le_succ _) [.int .i64 k.kind, .slice (some ⟨R, 0, none⟩) k.n k.n, .int .i64 k.e, .int .i64 k.cP, .int .i64 k.cA, .int .i64 k.cB, .int .i64 k.cN, .int .i64 k.cX, .int .i64 k.cY, .int .i64 k.q.x, .int .i64 k.q.y, .bool k.q.far, .int .i64 k.dP, .int .i64 k.dD, .int .i64 k.dL, .int .i64 k.dX, .int .i64 k.dY, .int .i64 k.a.x, .int .i64 k.a.y] 0 _ hW2)
  have HS3 := hide (Seg.putAll [.int .i64 k.kind, .slice (some ⟨R, 0, none⟩) k.n k.n, .int .i64 k.e, .int .i64 k.cP, .int .i64 k.cA, .int .i64 k.cB, .int .i64 k.cN, .int .i64 k.cX, .int .i64 k.cY, .int .i64 k.q.x, .int .i64 k.q.y, .bool k.q.far, .int .i64 k.dP, .int .i64 k.dD, .int .i64 k.dL, .int .i64 k.dX, .int .i64 k.dY, .int .i64 k.a.x, .int .i64 k.a.y] hS2 HRq.out)
  have HB3 := hide hB3
  clear hQ2 hW2 hS2 hO2 hB3
  go_wp2_with (first | (refine wpList_load_on (by first | rfl | simp [Region.wanted, yielded]) 40 _ rfl _ rfl _ hld ?_) | (refine wpList_store_on (by first | rfl | simp [Region.wanted, yielded]) 40 _ _ rfl _ rfl _ rfl _ hst ?_))
  refine bodyPost_ret (v := .agg #[.int .i64 k.kind, .slice (some ⟨R, 0, none⟩) k.n k.n, .int .i64 k.e, .int .i64 k.cP, .int .i64 k.cA, .int .i64 k.cB, .int .i64 k.cN, .int .i64 k.cX, .int .i64 k.cY, .int .i64 k.q.x, .int .i64 k.q.y, .bool k.q.far, .int .i64 k.dP, .int .i64 k.dD, .int .i64 k.dL, .int .i64 k.dX, .int .i64 k.dY, .int .i64 k.a.x, .int .i64 k.a.y]) (results_cell Tryz.results10 rfl (run_loadKey [.int .i64 k.kind, .slice (some ⟨R, 0, none⟩) k.n k.n, .int .i64 k.e, .int .i64 k.cP, .int .i64 k.cA, .int .i64 k.cB, .int .i64 k.cN, .int .i64 k.cX, .int .i64 k.cY, .int .i64 k.q.x, .int .i64 k.q.y, .bool k.q.far, .int .i64 k.dP, .int .i64 k.dD, .int .i64 k.dL, .int .i64 k.dX, .int .i64 k.dY, .int .i64 k.a.x, .int .i64 k.a.y] rfl (w.heap.size + 1) _ (fun j v h => (HB3.out j v h).1))) rfl ?_
  exact ⟨R, rfl, HR.out, HS3.out, HW3.out⟩

set_option maxHeartbeats 1600000 in
theorem eqCurve_same (a b c d e f : Int) (w : World) : Calls Tryz.prog 45 #[.agg #[.int .i64 a, .int .i64 b, .int .i64 c, .int .i64 d, .int .i64 e, .int .i64 f], .agg #[.int .i64 a, .int .i64 b, .int .i64 c, .int .i64 d, .int .i64 e, .int .i64 f]] w fun r w' => r = .returned (.bool true) ∧ Ext w w' := by
  go_enter Tryz.func45, Tryz.ntmps45
  go_wp2
  go_ret
  exact ⟨rfl, Ext.trans (Ext.alloc _ _) (Ext.alloc _ _)⟩

set_option maxHeartbeats 1600000 in
theorem eqEd_same (a b c d e : Int) (w : World) : Calls Tryz.prog 47 #[.agg #[.int .i64 a, .int .i64 b, .int .i64 c, .int .i64 d, .int .i64 e], .agg #[.int .i64 a, .int .i64 b, .int .i64 c, .int .i64 d, .int .i64 e]] w fun r w' => r = .returned (.bool true) ∧ Ext w w' := by
  go_enter Tryz.func47, Tryz.ntmps47
  go_wp2
  go_ret
  exact ⟨rfl, Ext.trans (Ext.alloc _ _) (Ext.alloc _ _)⟩

set_option linter.unusedSimpArgs false

set_option maxHeartbeats 6400000 in
set_option maxRecDepth 100000 in
theorem eqKey_same (k : Ky) (ad : Option Addr) (b off cap : Nat) (ad2 : Option Addr) (b2 off2 cap2 : Nat) (w : World) (hs : Seg w ad b off k.n k.f) (hs2 : Seg w ad2 b2 off2 k.n k.f) (hn : k.n ≤ 1048576) :
    Calls Tryz.prog 12 #[.agg #[.int .i64 k.kind, .slice ad k.n cap, .int .i64 k.e, .int .i64 k.cP, .int .i64 k.cA, .int .i64 k.cB, .int .i64 k.cN, .int .i64 k.cX, .int .i64 k.cY, .int .i64 k.q.x, .int .i64 k.q.y, .bool k.q.far, .int .i64 k.dP, .int .i64 k.dD, .int .i64 k.dL, .int .i64 k.dX, .int .i64 k.dY, .int .i64 k.a.x, .int .i64 k.a.y], .agg #[.int .i64 k.kind, .slice ad2 k.n cap2, .int .i64 k.e, .int .i64 k.cP, .int .i64 k.cA, .int .i64 k.cB, .int .i64 k.cN, .int .i64 k.cX, .int .i64 k.cY, .int .i64 k.q.x, .int .i64 k.q.y, .bool k.q.far, .int .i64 k.dP, .int .i64 k.dD, .int .i64 k.dL, .int .i64 k.dX, .int .i64 k.dY, .int .i64 k.a.x, .int .i64 k.a.y]] w fun e w' => e = .returned (.bool true) ∧ Ext w w' := by
  obtain ⟨V, hV⟩ : ∃ V, (w.alloc (.cells #[.int .i64 k.kind, .slice ad k.n cap, .int .i64 k.e, .int .i64 k.cP, .int .i64 k.cA, .int .i64 k.cB, .int .i64 k.cN, .int .i64 k.cX, .int .i64 k.cY, .int .i64 k.q.x, .int .i64 k.q.y, .bool k.q.far, .int .i64 k.dP, .int .i64 k.dD, .int .i64 k.dL, .int .i64 k.dX, .int .i64 k.dY, .int .i64 k.a.x, .int .i64 k.a.y] 40)).alloc (.cells #[.int .i64 k.kind, .slice ad2 k.n cap2, .int .i64 k.e, .int .i64 k.cP, .int .i64 k.cA, .int .i64 k.cB, .int .i64 k.cN, .int .i64 k.cX, .int .i64 k.cY, .int .i64 k.q.x, .int .i64 k.q.y, .bool k.q.far, .int .i64 k.dP, .int .i64 k.dD, .int .i64 k.dL, .int .i64 k.dX, .int .i64 k.dY, .int .i64 k.a.x, .int .i64 k.a.y] 40) = V := ⟨_, rfl⟩
  obtain ⟨B0, B1, hE, -⟩ := box2 w [.int .i64 k.kind, .slice ad k.n cap, .int .i64 k.e, .int .i64 k.cP, .int .i64 k.cA, .int .i64 k.cB, .int .i64 k.cN, .int .i64 k.cX, .int .i64 k.cY, .int .i64 k.q.x, .int .i64 k.q.y, .bool k.q.far, .int .i64 k.dP, .int .i64 k.dD, .int .i64 k.dL, .int .i64 k.dX, .int .i64 k.dY, .int .i64 k.a.x, .int .i64 k.a.y] [.int .i64 k.kind, .slice ad2 k.n cap2, .int .i64 k.e, .int .i64 k.cP, .int .i64 k.cA, .int .i64 k.cB, .int .i64 k.cN, .int .i64 k.cX, .int .i64 k.cY, .int .i64 k.q.x, .int .i64 k.q.y, .bool k.q.far, .int .i64 k.dP, .int .i64 k.dD, .int .i64 k.dL, .int .i64 k.dX, .int .i64 k.dY, .int .i64 k.a.x, .int .i64 k.a.y] 40 40 (w1 := V) (by rw [← hV]; exact Ext.refl _)
  have HEq : Hid (Calls Tryz.prog 44 #[.slice ad k.n cap, .slice ad2 k.n cap2] V fun e w' => e = .returned (.bool true) ∧ Ext V w') := (eqIntS_any ad b off k.n cap k.f ad2 b2 off2 k.n cap2 k.f V (hs.of_all hE) (hs2.of_all hE) hn).mono fun e w' ⟨h1, q, h2⟩ => ⟨by rw [h1, alike_refl], by rw [h2]; exact ⟨rfl, rfl, rfl, Nat.le_refl _, fun _ _ => rfl⟩⟩
  have HX := hide hE
  have HA := hide B0
  have HB := hide B1
  clear B0 B1 hE hs hs2
  have n0 : (k.kind != k.kind) = false := by simp
  have n2 : (k.e != k.e) = false := by simp
  have c0 := (HA.out 0 _ rfl).1
  have d0 := (HB.out 0 _ rfl).1
  have c1 := (HA.out 1 _ rfl).1
  have d1 := (HB.out 1 _ rfl).1
  go_enter Tryz.func12, Tryz.ntmps12
  go_wp2_with fail
  refine (HEq.out).mono ?_
  rintro e W ⟨rfl, hEW⟩
  clear c0 d0 c1 d1
  replace HX := hide (Ext.trans HX.out hEW)
  replace HA := hide (Blk.ext HA.out hEW (World.block_lt_of_cell? _ _ (HA.out 0 _ rfl).1))
  replace HB := hide (Blk.ext HB.out hEW (World.block_lt_of_cell? _ _ (HB.out 0 _ rfl).1))
  clear hEW
  have c2 := (HA.out 2 _ rfl).1
  have d2 := (HB.out 2 _ rfl).1
  have c3 := (HA.out 3 _ rfl).1
  have d3 := (HB.out 3 _ rfl).1
  have c4 := (HA.out 4 _ rfl).1
  have d4 := (HB.out 4 _ rfl).1
  have c5 := (HA.out 5 _ rfl).1
  have d5 := (HB.out 5 _ rfl).1
  have c6 := (HA.out 6 _ rfl).1
  have d6 := (HB.out 6 _ rfl).1
  have c7 := (HA.out 7 _ rfl).1
  have d7 := (HB.out 7 _ rfl).1
  have c8 := (HA.out 8 _ rfl).1
  have d8 := (HB.out 8 _ rfl).1
  go_wp2_with fail
  refine (eqCurve_same k.cP k.cA k.cB k.cN k.cX k.cY _).mono ?_
  rintro e W ⟨rfl, hEW⟩
  clear c2 d2 c3 d3 c4 d4 c5 d5 c6 d6 c7 d7 c8 d8
  replace HX := hide (Ext.trans HX.out hEW)
  replace HA := hide (Blk.ext HA.out hEW (World.block_lt_of_cell? _ _ (HA.out 0 _ rfl).1))
  replace HB := hide (Blk.ext HB.out hEW (World.block_lt_of_cell? _ _ (HB.out 0 _ rfl).1))
  clear hEW
  have c9 := (HA.out 9 _ rfl).1
  have d9 := (HB.out 9 _ rfl).1
  have c10 := (HA.out 10 _ rfl).1
  have d10 := (HB.out 10 _ rfl).1
  have c11 := (HA.out 11 _ rfl).1
  have d11 := (HB.out 11 _ rfl).1
  go_wp2_with fail
  refine (eqPoint_same k.q.x k.q.y k.q.far _).mono ?_
  rintro e W ⟨rfl, hEW⟩
  clear c9 d9 c10 d10 c11 d11
  replace HX := hide (Ext.trans HX.out hEW)
  replace HA := hide (Blk.ext HA.out hEW (World.block_lt_of_cell? _ _ (HA.out 0 _ rfl).1))
  replace HB := hide (Blk.ext HB.out hEW (World.block_lt_of_cell? _ _ (HB.out 0 _ rfl).1))
  clear hEW
  have c12 := (HA.out 12 _ rfl).1
  have d12 := (HB.out 12 _ rfl).1
  have c13 := (HA.out 13 _ rfl).1
  have d13 := (HB.out 13 _ rfl).1
  have c14 := (HA.out 14 _ rfl).1
  have d14 := (HB.out 14 _ rfl).1
  have c15 := (HA.out 15 _ rfl).1
  have d15 := (HB.out 15 _ rfl).1
  have c16 := (HA.out 16 _ rfl).1
  have d16 := (HB.out 16 _ rfl).1
  go_wp2_with fail
  refine (eqEd_same k.dP k.dD k.dL k.dX k.dY _).mono ?_
  rintro e W ⟨rfl, hEW⟩
  clear c12 d12 c13 d13 c14 d14 c15 d15 c16 d16
  replace HX := hide (Ext.trans HX.out hEW)
  replace HA := hide (Blk.ext HA.out hEW (World.block_lt_of_cell? _ _ (HA.out 0 _ rfl).1))
  replace HB := hide (Blk.ext HB.out hEW (World.block_lt_of_cell? _ _ (HB.out 0 _ rfl).1))
  clear hEW
  have c17 := (HA.out 17 _ rfl).1
  have d17 := (HB.out 17 _ rfl).1
  have c18 := (HA.out 18 _ rfl).1
  have d18 := (HB.out 18 _ rfl).1
  go_wp2_with fail
  refine (eqPair_same k.a.x k.a.y _).mono ?_
  rintro e W ⟨rfl, hEW⟩
  clear c17 d17 c18 d18
  replace HX := hide (Ext.trans HX.out hEW)
  replace HA := hide (Blk.ext HA.out hEW (World.block_lt_of_cell? _ _ (HA.out 0 _ rfl).1))
  replace HB := hide (Blk.ext HB.out hEW (World.block_lt_of_cell? _ _ (HB.out 0 _ rfl).1))
  clear hEW
  go_wp2
  go_ret
  exact ⟨rfl, HX.out⟩

end Go.Proofs.YtdaneanloknkpacGreatDoor
