/- Keys: what is asked of them; keys compared; the program's helpers (written by mkkey.py). -/
import Derived.Test.YtfhiiakoilkbkaaGreatDoorCv28
namespace Go.Proofs.YtfhiiakoilkbkaaGreatDoor
set_option linter.unusedVariables false
set_option linter.unusedSimpArgs false
open Go.RowKit
structure Ky where
 kind : Int
 n : Nat
 f : Nat → Int
 e : Int
 cP : Int
 cA : Int
 cB : Int
 cN : Int
 cX : Int
 cY : Int
 q : Pt
 dP : Int
 dD : Int
 dL : Int
 dX : Int
 dY : Int
 a : Pr
theorem wpList_load_on {P : Program} {w : World} {ops : Array Oper} {rest : List Oper} {o : Oper} {a : Act} {Q : Exit → Act → World → Prop} (hw : Region.wanted o (yielded ops a.tmps) = true) (ty : TypeId) (x : Operand) (ho : o.op = .load ty x) (p : Addr) (hp : a.eval x = .pointer (some p)) (v : Value) (hl : (loadVar ty p).run P w = .ok v w)
  (h : wpList P ops Q rest (a.put o.dst v) w) : wpList P ops Q (o :: rest) a w := by
 rw [wpList]
 simp only [hw, if_true]
 refine Or.inl ?_
 unfold Oper.wp execOp
 simp only [ho, hp, Instr.loadAt, Instr.sureAddr, Sem.run_bind, Sem.run_pure, Result.andThen_ok, hl]
 exact h
theorem run_loadKey (cs : List Value) (hl : cs.length = 19) (b : Nat) (w : World) (hc : ∀ j v, cs[j]? = some v → w.cell? ⟨b, j, none⟩ = some v) :
  (loadVar 51 ⟨b, 0, none⟩).run Tryz.prog w = .ok (.agg cs.toArray) w := by
 have hs : (Go.sizeOf 51).run Tryz.prog w = .ok 19 w := by kernel_rfl
 have ha : (isAgg 51).run Tryz.prog w = .ok true w := by kernel_rfl
 have hld := run_loadCells_list (P := Tryz.prog) w ⟨b, 0, none⟩ cs (fun j v h => by
  have := hc j v h
  rwa [show (⟨b, 0, none⟩ : Addr).add j = ⟨b, j, none⟩ by unfold Addr.add; split <;> simp_all])
 rw [hl] at hld
 simp only [loadVar, Sem.run_bind, ha, Result.andThen_ok, if_true, hs, hld, Sem.run_pure]
theorem cvHeld : Tryz.prog.stoodInHeld 46 = false := by kernel_rfl
set_option maxHeartbeats 1600000 in
theorem run_eqCv (x0 x1 x2 x3 x4 x5 y0 y1 y2 y3 y4 y5 : Int) (w : World) : (binOp .eql 46 (.agg #[.int .i64 x0, .int .i64 x1, .int .i64 x2, .int .i64 x3, .int .i64 x4, .int .i64 x5]) (.agg #[.int .i64 y0, .int .i64 y1, .int .i64 y2, .int .i64 y3, .int .i64 y4, .int .i64 y5])).run Tryz.prog w = .ok (.bool (x0 == y0 && (x1 == y1 && (x2 == y2 && (x3 == y3 && (x4 == y4 && (x5 == y5))))))) w := by
 have u2 := cvHeld
 cases h0 : (x0 == y0)
 ·simp [go_sem, u2, h0]
 ·skip
  cases h1 : (x1 == y1)
  ·simp [go_sem, u2, h0, h1]
  ·skip
   cases h2 : (x2 == y2)
   ·simp [go_sem, u2, h0, h1, h2]
   ·skip
    cases h3 : (x3 == y3)
    ·simp [go_sem, u2, h0, h1, h2, h3]
    ·skip
     cases h4 : (x4 == y4)
     ·simp [go_sem, u2, h0, h1, h2, h3, h4]
     ·skip
      cases h5 : (x5 == y5)
      ·simp [go_sem, u2, h0, h1, h2, h3, h4, h5]
      ·simp [go_sem, u2, h0, h1, h2, h3, h4, h5]
theorem edHeld : Tryz.prog.stoodInHeld 48 = false := by kernel_rfl
set_option maxHeartbeats 1600000 in
theorem run_eqEd (x0 x1 x2 x3 x4 y0 y1 y2 y3 y4 : Int) (w : World) : (binOp .eql 48 (.agg #[.int .i64 x0, .int .i64 x1, .int .i64 x2, .int .i64 x3, .int .i64 x4]) (.agg #[.int .i64 y0, .int .i64 y1, .int .i64 y2, .int .i64 y3, .int .i64 y4])).run Tryz.prog w = .ok (.bool (x0 == y0 && (x1 == y1 && (x2 == y2 && (x3 == y3 && (x4 == y4)))))) w := by
 have u2 := edHeld
 cases h0 : (x0 == y0)
 ·simp [go_sem, u2, h0]
 ·skip
  cases h1 : (x1 == y1)
  ·simp [go_sem, u2, h0, h1]
  ·skip
   cases h2 : (x2 == y2)
   ·simp [go_sem, u2, h0, h1, h2]
   ·skip
    cases h3 : (x3 == y3)
    ·simp [go_sem, u2, h0, h1, h2, h3]
    ·skip
     cases h4 : (x4 == y4)
     ·simp [go_sem, u2, h0, h1, h2, h3, h4]
     ·simp [go_sem, u2, h0, h1, h2, h3, h4]
def cvB (k l : Ky) : Bool := k.cP == l.cP && (k.cA == l.cA && (k.cB == l.cB && (k.cN == l.cN && (k.cX == l.cX && k.cY == l.cY))))
def ptB (k l : Ky) : Bool := k.q.x == l.q.x && (k.q.y == l.q.y && k.q.far == l.q.far)
def edB (k l : Ky) : Bool := k.dP == l.dP && (k.dD == l.dD && (k.dL == l.dL && (k.dX == l.dX && k.dY == l.dY)))
def prB (k l : Ky) : Bool := k.a.x == l.a.x && k.a.y == l.a.y
def nsB (k l : Ky) : Bool := k.n == l.n && alike k.f l.f k.n
def alkB (k l : Ky) : Bool := k.kind == l.kind && (nsB k l && (k.e == l.e && (cvB k l && (ptB k l && (edB k l && prB k l)))))
set_option maxHeartbeats 800000 in
theorem eqInts_any (a : Option Addr) (b off n cap : Nat) (f : Nat → Int) (a2 : Option Addr) (b2 off2 m cap2 : Nat) (g : Nat → Int) (w : World) (hs : Seg w a b off n f) (hs2 : Seg w a2 b2 off2 m g) (hn : n ≤ 1048576) :
  Calls Tryz.prog 135 #[.slice a n cap, .slice a2 m cap2] w fun e w' => e = .returned (.bool (n == m && alike f g n)) ∧ Ext w w' := by
 by_cases hnm : n = m
 ·subst hnm
  obtain ⟨R, hR⟩ : ∃ R, R = (n == n && alike f g n) := ⟨_, rfl⟩
  rw [← hR]
  have HR : Hid (R = alike f g n) := by show _ = _; rw [hR]; simp
  clear hR
  go_enter Tryz.func135, Tryz.ntmps135
  go_wp2
  go_loopw [13] (fun i wr => ∃ k : Nat, k ≤ n ∧ i = .int .i64 (k : Int) ∧ (∀ j, j < k → f j = g j) ∧ Ext w wr) (fun i _ => n - (intOf i).toNat)
  case atStart => exact ⟨0, Nat.zero_le _, rfl, fun j hj => absurd hj (Nat.not_lt_zero _), Ext.refl _⟩
  case round =>
   obtain ⟨k, hk, rfl, hd, hE⟩ := hrel
   have HD := hide hd
   have HE := hide hE
   by_cases hlt : k < n
   ·obtain rfl := hs.at' (by omega)
    obtain rfl := hs2.at' (by omega)
    have c1 := (hs.of_all hE).cell k hlt
    have c2 := (hs2.of_all hE).cell k hlt
    have hkn : (k : Int) < (n : Int) := by omega
    have Hs := hide hs
    have Hs2 := hide hs2
    clear hd hE hs hs2
    by_cases hq : f k = g k
    ·have hq1 : (f k != g k) = false := by simp [hq]
     have Hq := hide hq
     clear hq
     go_wp2
     go_quiet (fail)
     go_wp2
     go_roundw
     case rel => exact ⟨k + 1, by omega, by go_num, fun j hj => by
            by_cases e : j = k
            ·subst e; exact Hq.out
            ·exact HD.out j (by omega), below_drewN HE.out _⟩
     case measure => simp [intOf]; omega
    ·have hq1 : (f k != g k) = true := by simp [hq]
     have Hq := hide hq
     clear hq
     go_wp2
     go_quiet (fail)
     go_wp2
     go_ret
     exact ⟨ret_bool (by rw [HR.out, alike_false hlt Hq.out]), below_drewN HE.out _⟩
   ·obtain rfl : k = n := by omega
    clear hd hE
    go_wp2
    go_ret
    exact ⟨ret_bool (by rw [HR.out, (alike_iff f g k).2 HD.out]), HE.out⟩
 ·have hne : ((n : Int) != (m : Int)) = true := by simp; omega
  go_enter Tryz.func135, Tryz.ntmps135
  go_wp2
  go_ret
  exact ⟨ret_bool (by simp [hnm]), Ext.refl _⟩
set_option maxHeartbeats 6400000 in
set_option maxRecDepth 100000 in
theorem alike_any (k l : Ky) (ad : Option Addr) (b off cap : Nat) (ad2 : Option Addr) (b2 off2 cap2 : Nat) (w : World) (hs : Seg w ad b off k.n k.f) (hs2 : Seg w ad2 b2 off2 l.n l.f) (hn : k.n ≤ 1048576) :
  Calls Tryz.prog 113 #[.agg #[.int .i64 k.kind, .slice ad k.n cap, .int .i64 k.e, .int .i64 k.cP, .int .i64 k.cA, .int .i64 k.cB, .int .i64 k.cN, .int .i64 k.cX, .int .i64 k.cY, .int .i64 k.q.x, .int .i64 k.q.y, .bool k.q.far, .int .i64 k.dP, .int .i64 k.dD, .int .i64 k.dL, .int .i64 k.dX, .int .i64 k.dY, .int .i64 k.a.x, .int .i64 k.a.y], .agg #[.int .i64 l.kind, .slice ad2 l.n cap2, .int .i64 l.e, .int .i64 l.cP, .int .i64 l.cA, .int .i64 l.cB, .int .i64 l.cN, .int .i64 l.cX, .int .i64 l.cY, .int .i64 l.q.x, .int .i64 l.q.y, .bool l.q.far, .int .i64 l.dP, .int .i64 l.dD, .int .i64 l.dL, .int .i64 l.dX, .int .i64 l.dY, .int .i64 l.a.x, .int .i64 l.a.y]] w fun e w' => e = .returned (.bool (alkB k l)) ∧ Ext w w' := by
 obtain ⟨V, hV⟩ : ∃ V, (w.alloc (.cells #[.int .i64 k.kind, .slice ad k.n cap, .int .i64 k.e, .int .i64 k.cP, .int .i64 k.cA, .int .i64 k.cB, .int .i64 k.cN, .int .i64 k.cX, .int .i64 k.cY, .int .i64 k.q.x, .int .i64 k.q.y, .bool k.q.far, .int .i64 k.dP, .int .i64 k.dD, .int .i64 k.dL, .int .i64 k.dX, .int .i64 k.dY, .int .i64 k.a.x, .int .i64 k.a.y] 51)).alloc (.cells #[.int .i64 l.kind, .slice ad2 l.n cap2, .int .i64 l.e, .int .i64 l.cP, .int .i64 l.cA, .int .i64 l.cB, .int .i64 l.cN, .int .i64 l.cX, .int .i64 l.cY, .int .i64 l.q.x, .int .i64 l.q.y, .bool l.q.far, .int .i64 l.dP, .int .i64 l.dD, .int .i64 l.dL, .int .i64 l.dX, .int .i64 l.dY, .int .i64 l.a.x, .int .i64 l.a.y] 51) = V := ⟨_, rfl⟩
 obtain ⟨B0, B1, hE, -⟩ := box2 w [.int .i64 k.kind, .slice ad k.n cap, .int .i64 k.e, .int .i64 k.cP, .int .i64 k.cA, .int .i64 k.cB, .int .i64 k.cN, .int .i64 k.cX, .int .i64 k.cY, .int .i64 k.q.x, .int .i64 k.q.y, .bool k.q.far, .int .i64 k.dP, .int .i64 k.dD, .int .i64 k.dL, .int .i64 k.dX, .int .i64 k.dY, .int .i64 k.a.x, .int .i64 k.a.y] [.int .i64 l.kind, .slice ad2 l.n cap2, .int .i64 l.e, .int .i64 l.cP, .int .i64 l.cA, .int .i64 l.cB, .int .i64 l.cN, .int .i64 l.cX, .int .i64 l.cY, .int .i64 l.q.x, .int .i64 l.q.y, .bool l.q.far, .int .i64 l.dP, .int .i64 l.dD, .int .i64 l.dL, .int .i64 l.dX, .int .i64 l.dY, .int .i64 l.a.x, .int .i64 l.a.y] 51 51 (w1 := V) (by rw [← hV]; exact Ext.refl _)
 have c0 := (B0 0 _ rfl).1
 have c1 := (B0 1 _ rfl).1
 have c2 := (B0 2 _ rfl).1
 have c3 := (B0 3 _ rfl).1
 have c4 := (B0 4 _ rfl).1
 have c5 := (B0 5 _ rfl).1
 have c6 := (B0 6 _ rfl).1
 have c7 := (B0 7 _ rfl).1
 have c8 := (B0 8 _ rfl).1
 have c9 := (B0 9 _ rfl).1
 have c10 := (B0 10 _ rfl).1
 have c11 := (B0 11 _ rfl).1
 have c12 := (B0 12 _ rfl).1
 have c13 := (B0 13 _ rfl).1
 have c14 := (B0 14 _ rfl).1
 have c15 := (B0 15 _ rfl).1
 have c16 := (B0 16 _ rfl).1
 have c17 := (B0 17 _ rfl).1
 have c18 := (B0 18 _ rfl).1
 have d0 := (B1 0 _ rfl).1
 have d1 := (B1 1 _ rfl).1
 have d2 := (B1 2 _ rfl).1
 have d3 := (B1 3 _ rfl).1
 have d4 := (B1 4 _ rfl).1
 have d5 := (B1 5 _ rfl).1
 have d6 := (B1 6 _ rfl).1
 have d7 := (B1 7 _ rfl).1
 have d8 := (B1 8 _ rfl).1
 have d9 := (B1 9 _ rfl).1
 have d10 := (B1 10 _ rfl).1
 have d11 := (B1 11 _ rfl).1
 have d12 := (B1 12 _ rfl).1
 have d13 := (B1 13 _ rfl).1
 have d14 := (B1 14 _ rfl).1
 have d15 := (B1 15 _ rfl).1
 have d16 := (B1 16 _ rfl).1
 have d17 := (B1 17 _ rfl).1
 have d18 := (B1 18 _ rfl).1
 have HEq := hide (fun W (h : Ext V W) => eqInts_any ad b off k.n cap k.f ad2 b2 off2 l.n cap2 l.f W (hs.of_all (Ext.trans hE h)) (hs2.of_all (Ext.trans hE h)) hn)
 have HE := hide hE
 have HV : Hid (alkB k l = (k.kind == l.kind && (nsB k l && (k.e == l.e && (cvB k l && (ptB k l && (edB k l && prB k l))))))) := rfl
 have h4 : ∀ w, (binOp .eql 46 (.agg #[.int .i64 k.cP, .int .i64 k.cA, .int .i64 k.cB, .int .i64 k.cN, .int .i64 k.cX, .int .i64 k.cY]) (.agg #[.int .i64 l.cP, .int .i64 l.cA, .int .i64 l.cB, .int .i64 l.cN, .int .i64 l.cX, .int .i64 l.cY])).run Tryz.prog w = .ok (.bool (cvB k l)) w := fun w => run_eqCv _ _ _ _ _ _ _ _ _ _ _ _ w
 have h5 : ∀ w, (binOp .eql 47 (.agg #[.int .i64 k.q.x, .int .i64 k.q.y, .bool k.q.far]) (.agg #[.int .i64 l.q.x, .int .i64 l.q.y, .bool l.q.far])).run Tryz.prog w = .ok (.bool (ptB k l)) w := fun w => run_eqPt _ _ _ _ _ _ w
 have h6 : ∀ w, (binOp .eql 48 (.agg #[.int .i64 k.dP, .int .i64 k.dD, .int .i64 k.dL, .int .i64 k.dX, .int .i64 k.dY]) (.agg #[.int .i64 l.dP, .int .i64 l.dD, .int .i64 l.dL, .int .i64 l.dX, .int .i64 l.dY])).run Tryz.prog w = .ok (.bool (edB k l)) w := fun w => run_eqEd _ _ _ _ _ _ _ _ _ _ w
 have h7 : ∀ w, (binOp .eql 49 (.agg #[.int .i64 k.a.x, .int .i64 k.a.y]) (.agg #[.int .i64 l.a.x, .int .i64 l.a.y])).run Tryz.prog w = .ok (.bool (prB k l)) w := fun w => run_eqPr _ _ _ _ w
 rw [show (k.n == l.n && alike k.f l.f k.n) = nsB k l from rfl] at HEq
 clear B0 B1 hE hs hs2
 generalize alkB k l = R at *
 generalize cvB k l = q4 at *
 generalize ptB k l = q5 at *
 generalize edB k l = q6 at *
 generalize prB k l = q7 at *
 generalize nsB k l = q2 at *
 obtain ⟨q1, h1⟩ : ∃ q1, (k.kind == l.kind) = q1 := ⟨_, rfl⟩
 obtain ⟨q3, h3⟩ : ∃ q3, (k.e == l.e) = q3 := ⟨_, rfl⟩
 rw [h1, h3] at HV
 cases q1
 ·skip
  go_enter Tryz.func113, Tryz.ntmps113
  go_wp2
  go_ret
  exact ⟨ret_bool (by rw [HV.out]; rfl), HE.out⟩
 ·cases q2
  ·skip
   go_enter Tryz.func113, Tryz.ntmps113
   go_wp2_with (go_at_call 135; refine (HEq.out _ (Ext.refl _)).mono ?_; rintro e W ⟨rfl, hEW⟩; have HEW := hide hEW; replace c2 := (Below.cell hEW (World.block_lt_of_cell? _ _ c2)).trans c2; replace d2 := (Below.cell hEW (World.block_lt_of_cell? _ _ d2)).trans d2; replace c3 := (Below.cell hEW (World.block_lt_of_cell? _ _ c3)).trans c3; replace d3 := (Below.cell hEW (World.block_lt_of_cell? _ _ d3)).trans d3; replace c4 := (Below.cell hEW (World.block_lt_of_cell? _ _ c4)).trans c4; replace d4 := (Below.cell hEW (World.block_lt_of_cell? _ _ d4)).trans d4; replace c5 := (Below.cell hEW (World.block_lt_of_cell? _ _ c5)).trans c5; replace d5 := (Below.cell hEW (World.block_lt_of_cell? _ _ d5)).trans d5; replace c6 := (Below.cell hEW (World.block_lt_of_cell? _ _ c6)).trans c6; replace d6 := (Below.cell hEW (World.block_lt_of_cell? _ _ d6)).trans d6; replace c7 := (Below.cell hEW (World.block_lt_of_cell? _ _ c7)).trans c7; replace d7 := (Below.cell hEW (World.block_lt_of_cell? _ _ d7)).trans d7; replace c8 := (Below.cell hEW (World.block_lt_of_cell? _ _ c8)).trans c8; replace d8 := (Below.cell hEW (World.block_lt_of_cell? _ _ d8)).trans d8; replace c9 := (Below.cell hEW (World.block_lt_of_cell? _ _ c9)).trans c9; replace d9 := (Below.cell hEW (World.block_lt_of_cell? _ _ d9)).trans d9; replace c10 := (Below.cell hEW (World.block_lt_of_cell? _ _ c10)).trans c10; replace d10 := (Below.cell hEW (World.block_lt_of_cell? _ _ d10)).trans d10; replace c11 := (Below.cell hEW (World.block_lt_of_cell? _ _ c11)).trans c11; replace d11 := (Below.cell hEW (World.block_lt_of_cell? _ _ d11)).trans d11; replace c12 := (Below.cell hEW (World.block_lt_of_cell? _ _ c12)).trans c12; replace d12 := (Below.cell hEW (World.block_lt_of_cell? _ _ d12)).trans d12; replace c13 := (Below.cell hEW (World.block_lt_of_cell? _ _ c13)).trans c13; replace d13 := (Below.cell hEW (World.block_lt_of_cell? _ _ d13)).trans d13; replace c14 := (Below.cell hEW (World.block_lt_of_cell? _ _ c14)).trans c14; replace d14 := (Below.cell hEW (World.block_lt_of_cell? _ _ d14)).trans d14; replace c15 := (Below.cell hEW (World.block_lt_of_cell? _ _ c15)).trans c15; replace d15 := (Below.cell hEW (World.block_lt_of_cell? _ _ d15)).trans d15; replace c16 := (Below.cell hEW (World.block_lt_of_cell? _ _ c16)).trans c16; replace d16 := (Below.cell hEW (World.block_lt_of_cell? _ _ d16)).trans d16; replace c17 := (Below.cell hEW (World.block_lt_of_cell? _ _ c17)).trans c17; replace d17 := (Below.cell hEW (World.block_lt_of_cell? _ _ d17)).trans d17; replace c18 := (Below.cell hEW (World.block_lt_of_cell? _ _ c18)).trans c18; replace d18 := (Below.cell hEW (World.block_lt_of_cell? _ _ d18)).trans d18; clear hEW)
   go_ret
   exact ⟨ret_bool (by rw [HV.out]; rfl), Ext.trans HE.out HEW.out⟩
  ·cases q3
   ·skip
    go_enter Tryz.func113, Tryz.ntmps113
    go_wp2_with (go_at_call 135; refine (HEq.out _ (Ext.refl _)).mono ?_; rintro e W ⟨rfl, hEW⟩; have HEW := hide hEW; replace c2 := (Below.cell hEW (World.block_lt_of_cell? _ _ c2)).trans c2; replace d2 := (Below.cell hEW (World.block_lt_of_cell? _ _ d2)).trans d2; replace c3 := (Below.cell hEW (World.block_lt_of_cell? _ _ c3)).trans c3; replace d3 := (Below.cell hEW (World.block_lt_of_cell? _ _ d3)).trans d3; replace c4 := (Below.cell hEW (World.block_lt_of_cell? _ _ c4)).trans c4; replace d4 := (Below.cell hEW (World.block_lt_of_cell? _ _ d4)).trans d4; replace c5 := (Below.cell hEW (World.block_lt_of_cell? _ _ c5)).trans c5; replace d5 := (Below.cell hEW (World.block_lt_of_cell? _ _ d5)).trans d5; replace c6 := (Below.cell hEW (World.block_lt_of_cell? _ _ c6)).trans c6; replace d6 := (Below.cell hEW (World.block_lt_of_cell? _ _ d6)).trans d6; replace c7 := (Below.cell hEW (World.block_lt_of_cell? _ _ c7)).trans c7; replace d7 := (Below.cell hEW (World.block_lt_of_cell? _ _ d7)).trans d7; replace c8 := (Below.cell hEW (World.block_lt_of_cell? _ _ c8)).trans c8; replace d8 := (Below.cell hEW (World.block_lt_of_cell? _ _ d8)).trans d8; replace c9 := (Below.cell hEW (World.block_lt_of_cell? _ _ c9)).trans c9; replace d9 := (Below.cell hEW (World.block_lt_of_cell? _ _ d9)).trans d9; replace c10 := (Below.cell hEW (World.block_lt_of_cell? _ _ c10)).trans c10; replace d10 := (Below.cell hEW (World.block_lt_of_cell? _ _ d10)).trans d10; replace c11 := (Below.cell hEW (World.block_lt_of_cell? _ _ c11)).trans c11; replace d11 := (Below.cell hEW (World.block_lt_of_cell? _ _ d11)).trans d11; replace c12 := (Below.cell hEW (World.block_lt_of_cell? _ _ c12)).trans c12; replace d12 := (Below.cell hEW (World.block_lt_of_cell? _ _ d12)).trans d12; replace c13 := (Below.cell hEW (World.block_lt_of_cell? _ _ c13)).trans c13; replace d13 := (Below.cell hEW (World.block_lt_of_cell? _ _ d13)).trans d13; replace c14 := (Below.cell hEW (World.block_lt_of_cell? _ _ c14)).trans c14; replace d14 := (Below.cell hEW (World.block_lt_of_cell? _ _ d14)).trans d14; replace c15 := (Below.cell hEW (World.block_lt_of_cell? _ _ c15)).trans c15; replace d15 := (Below.cell hEW (World.block_lt_of_cell? _ _ d15)).trans d15; replace c16 := (Below.cell hEW (World.block_lt_of_cell? _ _ c16)).trans c16; replace d16 := (Below.cell hEW (World.block_lt_of_cell? _ _ d16)).trans d16; replace c17 := (Below.cell hEW (World.block_lt_of_cell? _ _ c17)).trans c17; replace d17 := (Below.cell hEW (World.block_lt_of_cell? _ _ d17)).trans d17; replace c18 := (Below.cell hEW (World.block_lt_of_cell? _ _ c18)).trans c18; replace d18 := (Below.cell hEW (World.block_lt_of_cell? _ _ d18)).trans d18; clear hEW)
    go_ret
    exact ⟨ret_bool (by rw [HV.out]; rfl), Ext.trans HE.out HEW.out⟩
   ·cases q4
    ·skip
     go_enter Tryz.func113, Tryz.ntmps113
     go_wp2_with (go_at_call 135; refine (HEq.out _ (Ext.refl _)).mono ?_; rintro e W ⟨rfl, hEW⟩; have HEW := hide hEW; replace c2 := (Below.cell hEW (World.block_lt_of_cell? _ _ c2)).trans c2; replace d2 := (Below.cell hEW (World.block_lt_of_cell? _ _ d2)).trans d2; replace c3 := (Below.cell hEW (World.block_lt_of_cell? _ _ c3)).trans c3; replace d3 := (Below.cell hEW (World.block_lt_of_cell? _ _ d3)).trans d3; replace c4 := (Below.cell hEW (World.block_lt_of_cell? _ _ c4)).trans c4; replace d4 := (Below.cell hEW (World.block_lt_of_cell? _ _ d4)).trans d4; replace c5 := (Below.cell hEW (World.block_lt_of_cell? _ _ c5)).trans c5; replace d5 := (Below.cell hEW (World.block_lt_of_cell? _ _ d5)).trans d5; replace c6 := (Below.cell hEW (World.block_lt_of_cell? _ _ c6)).trans c6; replace d6 := (Below.cell hEW (World.block_lt_of_cell? _ _ d6)).trans d6; replace c7 := (Below.cell hEW (World.block_lt_of_cell? _ _ c7)).trans c7; replace d7 := (Below.cell hEW (World.block_lt_of_cell? _ _ d7)).trans d7; replace c8 := (Below.cell hEW (World.block_lt_of_cell? _ _ c8)).trans c8; replace d8 := (Below.cell hEW (World.block_lt_of_cell? _ _ d8)).trans d8; replace c9 := (Below.cell hEW (World.block_lt_of_cell? _ _ c9)).trans c9; replace d9 := (Below.cell hEW (World.block_lt_of_cell? _ _ d9)).trans d9; replace c10 := (Below.cell hEW (World.block_lt_of_cell? _ _ c10)).trans c10; replace d10 := (Below.cell hEW (World.block_lt_of_cell? _ _ d10)).trans d10; replace c11 := (Below.cell hEW (World.block_lt_of_cell? _ _ c11)).trans c11; replace d11 := (Below.cell hEW (World.block_lt_of_cell? _ _ d11)).trans d11; replace c12 := (Below.cell hEW (World.block_lt_of_cell? _ _ c12)).trans c12; replace d12 := (Below.cell hEW (World.block_lt_of_cell? _ _ d12)).trans d12; replace c13 := (Below.cell hEW (World.block_lt_of_cell? _ _ c13)).trans c13; replace d13 := (Below.cell hEW (World.block_lt_of_cell? _ _ d13)).trans d13; replace c14 := (Below.cell hEW (World.block_lt_of_cell? _ _ c14)).trans c14; replace d14 := (Below.cell hEW (World.block_lt_of_cell? _ _ d14)).trans d14; replace c15 := (Below.cell hEW (World.block_lt_of_cell? _ _ c15)).trans c15; replace d15 := (Below.cell hEW (World.block_lt_of_cell? _ _ d15)).trans d15; replace c16 := (Below.cell hEW (World.block_lt_of_cell? _ _ c16)).trans c16; replace d16 := (Below.cell hEW (World.block_lt_of_cell? _ _ d16)).trans d16; replace c17 := (Below.cell hEW (World.block_lt_of_cell? _ _ c17)).trans c17; replace d17 := (Below.cell hEW (World.block_lt_of_cell? _ _ d17)).trans d17; replace c18 := (Below.cell hEW (World.block_lt_of_cell? _ _ c18)).trans c18; replace d18 := (Below.cell hEW (World.block_lt_of_cell? _ _ d18)).trans d18; clear hEW)
     go_ret
     exact ⟨ret_bool (by rw [HV.out]; rfl), Ext.trans HE.out HEW.out⟩
    ·cases q5
     ·skip
      go_enter Tryz.func113, Tryz.ntmps113
      go_wp2_with (go_at_call 135; refine (HEq.out _ (Ext.refl _)).mono ?_; rintro e W ⟨rfl, hEW⟩; have HEW := hide hEW; replace c2 := (Below.cell hEW (World.block_lt_of_cell? _ _ c2)).trans c2; replace d2 := (Below.cell hEW (World.block_lt_of_cell? _ _ d2)).trans d2; replace c3 := (Below.cell hEW (World.block_lt_of_cell? _ _ c3)).trans c3; replace d3 := (Below.cell hEW (World.block_lt_of_cell? _ _ d3)).trans d3; replace c4 := (Below.cell hEW (World.block_lt_of_cell? _ _ c4)).trans c4; replace d4 := (Below.cell hEW (World.block_lt_of_cell? _ _ d4)).trans d4; replace c5 := (Below.cell hEW (World.block_lt_of_cell? _ _ c5)).trans c5; replace d5 := (Below.cell hEW (World.block_lt_of_cell? _ _ d5)).trans d5; replace c6 := (Below.cell hEW (World.block_lt_of_cell? _ _ c6)).trans c6; replace d6 := (Below.cell hEW (World.block_lt_of_cell? _ _ d6)).trans d6; replace c7 := (Below.cell hEW (World.block_lt_of_cell? _ _ c7)).trans c7; replace d7 := (Below.cell hEW (World.block_lt_of_cell? _ _ d7)).trans d7; replace c8 := (Below.cell hEW (World.block_lt_of_cell? _ _ c8)).trans c8; replace d8 := (Below.cell hEW (World.block_lt_of_cell? _ _ d8)).trans d8; replace c9 := (Below.cell hEW (World.block_lt_of_cell? _ _ c9)).trans c9; replace d9 := (Below.cell hEW (World.block_lt_of_cell? _ _ d9)).trans d9; replace c10 := (Below.cell hEW (World.block_lt_of_cell? _ _ c10)).trans c10; replace d10 := (Below.cell hEW (World.block_lt_of_cell? _ _ d10)).trans d10; replace c11 := (Below.cell hEW (World.block_lt_of_cell? _ _ c11)).trans c11; replace d11 := (Below.cell hEW (World.block_lt_of_cell? _ _ d11)).trans d11; replace c12 := (Below.cell hEW (World.block_lt_of_cell? _ _ c12)).trans c12; replace d12 := (Below.cell hEW (World.block_lt_of_cell? _ _ d12)).trans d12; replace c13 := (Below.cell hEW (World.block_lt_of_cell? _ _ c13)).trans c13; replace d13 := (Below.cell hEW (World.block_lt_of_cell? _ _ d13)).trans d13; replace c14 := (Below.cell hEW (World.block_lt_of_cell? _ _ c14)).trans c14; replace d14 := (Below.cell hEW (World.block_lt_of_cell? _ _ d14)).trans d14; replace c15 := (Below.cell hEW (World.block_lt_of_cell? _ _ c15)).trans c15; replace d15 := (Below.cell hEW (World.block_lt_of_cell? _ _ d15)).trans d15; replace c16 := (Below.cell hEW (World.block_lt_of_cell? _ _ c16)).trans c16; replace d16 := (Below.cell hEW (World.block_lt_of_cell? _ _ d16)).trans d16; replace c17 := (Below.cell hEW (World.block_lt_of_cell? _ _ c17)).trans c17; replace d17 := (Below.cell hEW (World.block_lt_of_cell? _ _ d17)).trans d17; replace c18 := (Below.cell hEW (World.block_lt_of_cell? _ _ c18)).trans c18; replace d18 := (Below.cell hEW (World.block_lt_of_cell? _ _ d18)).trans d18; clear hEW)
      go_ret
      exact ⟨ret_bool (by rw [HV.out]; rfl), Ext.trans HE.out HEW.out⟩
     ·cases q6
      ·skip
       go_enter Tryz.func113, Tryz.ntmps113
       go_wp2_with (go_at_call 135; refine (HEq.out _ (Ext.refl _)).mono ?_; rintro e W ⟨rfl, hEW⟩; have HEW := hide hEW; replace c2 := (Below.cell hEW (World.block_lt_of_cell? _ _ c2)).trans c2; replace d2 := (Below.cell hEW (World.block_lt_of_cell? _ _ d2)).trans d2; replace c3 := (Below.cell hEW (World.block_lt_of_cell? _ _ c3)).trans c3; replace d3 := (Below.cell hEW (World.block_lt_of_cell? _ _ d3)).trans d3; replace c4 := (Below.cell hEW (World.block_lt_of_cell? _ _ c4)).trans c4; replace d4 := (Below.cell hEW (World.block_lt_of_cell? _ _ d4)).trans d4; replace c5 := (Below.cell hEW (World.block_lt_of_cell? _ _ c5)).trans c5; replace d5 := (Below.cell hEW (World.block_lt_of_cell? _ _ d5)).trans d5; replace c6 := (Below.cell hEW (World.block_lt_of_cell? _ _ c6)).trans c6; replace d6 := (Below.cell hEW (World.block_lt_of_cell? _ _ d6)).trans d6; replace c7 := (Below.cell hEW (World.block_lt_of_cell? _ _ c7)).trans c7; replace d7 := (Below.cell hEW (World.block_lt_of_cell? _ _ d7)).trans d7; replace c8 := (Below.cell hEW (World.block_lt_of_cell? _ _ c8)).trans c8; replace d8 := (Below.cell hEW (World.block_lt_of_cell? _ _ d8)).trans d8; replace c9 := (Below.cell hEW (World.block_lt_of_cell? _ _ c9)).trans c9; replace d9 := (Below.cell hEW (World.block_lt_of_cell? _ _ d9)).trans d9; replace c10 := (Below.cell hEW (World.block_lt_of_cell? _ _ c10)).trans c10; replace d10 := (Below.cell hEW (World.block_lt_of_cell? _ _ d10)).trans d10; replace c11 := (Below.cell hEW (World.block_lt_of_cell? _ _ c11)).trans c11; replace d11 := (Below.cell hEW (World.block_lt_of_cell? _ _ d11)).trans d11; replace c12 := (Below.cell hEW (World.block_lt_of_cell? _ _ c12)).trans c12; replace d12 := (Below.cell hEW (World.block_lt_of_cell? _ _ d12)).trans d12; replace c13 := (Below.cell hEW (World.block_lt_of_cell? _ _ c13)).trans c13; replace d13 := (Below.cell hEW (World.block_lt_of_cell? _ _ d13)).trans d13; replace c14 := (Below.cell hEW (World.block_lt_of_cell? _ _ c14)).trans c14; replace d14 := (Below.cell hEW (World.block_lt_of_cell? _ _ d14)).trans d14; replace c15 := (Below.cell hEW (World.block_lt_of_cell? _ _ c15)).trans c15; replace d15 := (Below.cell hEW (World.block_lt_of_cell? _ _ d15)).trans d15; replace c16 := (Below.cell hEW (World.block_lt_of_cell? _ _ c16)).trans c16; replace d16 := (Below.cell hEW (World.block_lt_of_cell? _ _ d16)).trans d16; replace c17 := (Below.cell hEW (World.block_lt_of_cell? _ _ c17)).trans c17; replace d17 := (Below.cell hEW (World.block_lt_of_cell? _ _ d17)).trans d17; replace c18 := (Below.cell hEW (World.block_lt_of_cell? _ _ c18)).trans c18; replace d18 := (Below.cell hEW (World.block_lt_of_cell? _ _ d18)).trans d18; clear hEW)
       go_ret
       exact ⟨ret_bool (by rw [HV.out]; rfl), Ext.trans HE.out HEW.out⟩
      ·cases q7
       ·skip
        go_enter Tryz.func113, Tryz.ntmps113
        go_wp2_with (go_at_call 135; refine (HEq.out _ (Ext.refl _)).mono ?_; rintro e W ⟨rfl, hEW⟩; have HEW := hide hEW; replace c2 := (Below.cell hEW (World.block_lt_of_cell? _ _ c2)).trans c2; replace d2 := (Below.cell hEW (World.block_lt_of_cell? _ _ d2)).trans d2; replace c3 := (Below.cell hEW (World.block_lt_of_cell? _ _ c3)).trans c3; replace d3 := (Below.cell hEW (World.block_lt_of_cell? _ _ d3)).trans d3; replace c4 := (Below.cell hEW (World.block_lt_of_cell? _ _ c4)).trans c4; replace d4 := (Below.cell hEW (World.block_lt_of_cell? _ _ d4)).trans d4; replace c5 := (Below.cell hEW (World.block_lt_of_cell? _ _ c5)).trans c5; replace d5 := (Below.cell hEW (World.block_lt_of_cell? _ _ d5)).trans d5; replace c6 := (Below.cell hEW (World.block_lt_of_cell? _ _ c6)).trans c6; replace d6 := (Below.cell hEW (World.block_lt_of_cell? _ _ d6)).trans d6; replace c7 := (Below.cell hEW (World.block_lt_of_cell? _ _ c7)).trans c7; replace d7 := (Below.cell hEW (World.block_lt_of_cell? _ _ d7)).trans d7; replace c8 := (Below.cell hEW (World.block_lt_of_cell? _ _ c8)).trans c8; replace d8 := (Below.cell hEW (World.block_lt_of_cell? _ _ d8)).trans d8; replace c9 := (Below.cell hEW (World.block_lt_of_cell? _ _ c9)).trans c9; replace d9 := (Below.cell hEW (World.block_lt_of_cell? _ _ d9)).trans d9; replace c10 := (Below.cell hEW (World.block_lt_of_cell? _ _ c10)).trans c10; replace d10 := (Below.cell hEW (World.block_lt_of_cell? _ _ d10)).trans d10; replace c11 := (Below.cell hEW (World.block_lt_of_cell? _ _ c11)).trans c11; replace d11 := (Below.cell hEW (World.block_lt_of_cell? _ _ d11)).trans d11; replace c12 := (Below.cell hEW (World.block_lt_of_cell? _ _ c12)).trans c12; replace d12 := (Below.cell hEW (World.block_lt_of_cell? _ _ d12)).trans d12; replace c13 := (Below.cell hEW (World.block_lt_of_cell? _ _ c13)).trans c13; replace d13 := (Below.cell hEW (World.block_lt_of_cell? _ _ d13)).trans d13; replace c14 := (Below.cell hEW (World.block_lt_of_cell? _ _ c14)).trans c14; replace d14 := (Below.cell hEW (World.block_lt_of_cell? _ _ d14)).trans d14; replace c15 := (Below.cell hEW (World.block_lt_of_cell? _ _ c15)).trans c15; replace d15 := (Below.cell hEW (World.block_lt_of_cell? _ _ d15)).trans d15; replace c16 := (Below.cell hEW (World.block_lt_of_cell? _ _ c16)).trans c16; replace d16 := (Below.cell hEW (World.block_lt_of_cell? _ _ d16)).trans d16; replace c17 := (Below.cell hEW (World.block_lt_of_cell? _ _ c17)).trans c17; replace d17 := (Below.cell hEW (World.block_lt_of_cell? _ _ d17)).trans d17; replace c18 := (Below.cell hEW (World.block_lt_of_cell? _ _ c18)).trans c18; replace d18 := (Below.cell hEW (World.block_lt_of_cell? _ _ d18)).trans d18; clear hEW)
        go_ret
        exact ⟨ret_bool (by rw [HV.out]; rfl), Ext.trans HE.out HEW.out⟩
       ·skip
        go_enter Tryz.func113, Tryz.ntmps113
        go_wp2_with (go_at_call 135; refine (HEq.out _ (Ext.refl _)).mono ?_; rintro e W ⟨rfl, hEW⟩; have HEW := hide hEW; replace c2 := (Below.cell hEW (World.block_lt_of_cell? _ _ c2)).trans c2; replace d2 := (Below.cell hEW (World.block_lt_of_cell? _ _ d2)).trans d2; replace c3 := (Below.cell hEW (World.block_lt_of_cell? _ _ c3)).trans c3; replace d3 := (Below.cell hEW (World.block_lt_of_cell? _ _ d3)).trans d3; replace c4 := (Below.cell hEW (World.block_lt_of_cell? _ _ c4)).trans c4; replace d4 := (Below.cell hEW (World.block_lt_of_cell? _ _ d4)).trans d4; replace c5 := (Below.cell hEW (World.block_lt_of_cell? _ _ c5)).trans c5; replace d5 := (Below.cell hEW (World.block_lt_of_cell? _ _ d5)).trans d5; replace c6 := (Below.cell hEW (World.block_lt_of_cell? _ _ c6)).trans c6; replace d6 := (Below.cell hEW (World.block_lt_of_cell? _ _ d6)).trans d6; replace c7 := (Below.cell hEW (World.block_lt_of_cell? _ _ c7)).trans c7; replace d7 := (Below.cell hEW (World.block_lt_of_cell? _ _ d7)).trans d7; replace c8 := (Below.cell hEW (World.block_lt_of_cell? _ _ c8)).trans c8; replace d8 := (Below.cell hEW (World.block_lt_of_cell? _ _ d8)).trans d8; replace c9 := (Below.cell hEW (World.block_lt_of_cell? _ _ c9)).trans c9; replace d9 := (Below.cell hEW (World.block_lt_of_cell? _ _ d9)).trans d9; replace c10 := (Below.cell hEW (World.block_lt_of_cell? _ _ c10)).trans c10; replace d10 := (Below.cell hEW (World.block_lt_of_cell? _ _ d10)).trans d10; replace c11 := (Below.cell hEW (World.block_lt_of_cell? _ _ c11)).trans c11; replace d11 := (Below.cell hEW (World.block_lt_of_cell? _ _ d11)).trans d11; replace c12 := (Below.cell hEW (World.block_lt_of_cell? _ _ c12)).trans c12; replace d12 := (Below.cell hEW (World.block_lt_of_cell? _ _ d12)).trans d12; replace c13 := (Below.cell hEW (World.block_lt_of_cell? _ _ c13)).trans c13; replace d13 := (Below.cell hEW (World.block_lt_of_cell? _ _ d13)).trans d13; replace c14 := (Below.cell hEW (World.block_lt_of_cell? _ _ c14)).trans c14; replace d14 := (Below.cell hEW (World.block_lt_of_cell? _ _ d14)).trans d14; replace c15 := (Below.cell hEW (World.block_lt_of_cell? _ _ c15)).trans c15; replace d15 := (Below.cell hEW (World.block_lt_of_cell? _ _ d15)).trans d15; replace c16 := (Below.cell hEW (World.block_lt_of_cell? _ _ c16)).trans c16; replace d16 := (Below.cell hEW (World.block_lt_of_cell? _ _ d16)).trans d16; replace c17 := (Below.cell hEW (World.block_lt_of_cell? _ _ c17)).trans c17; replace d17 := (Below.cell hEW (World.block_lt_of_cell? _ _ d17)).trans d17; replace c18 := (Below.cell hEW (World.block_lt_of_cell? _ _ c18)).trans c18; replace d18 := (Below.cell hEW (World.block_lt_of_cell? _ _ d18)).trans d18; clear hEW)
        go_ret
        exact ⟨ret_bool (by rw [HV.out]; rfl), Ext.trans HE.out HEW.out⟩
end Go.Proofs.YtfhiiakoilkbkaaGreatDoor
