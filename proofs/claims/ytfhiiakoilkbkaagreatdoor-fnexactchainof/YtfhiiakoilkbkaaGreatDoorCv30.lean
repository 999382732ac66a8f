/- Walks: the law's own helpers over curves and points: toCurve, toPoint, eqPoint. Walks: the laws' own helpers over twisted curves and pairs; the laws, where model and program answer alike. Keys: the laws' own helpers over keys; a key that came in, opened (written by mkkey.py). Keys: copied keys compared (written by mkkey.py). -/
import Derived.Test.YtfhiiakoilkbkaaGreatDoorCv29
namespace Go.Proofs.YtfhiiakoilkbkaaGreatDoor
set_option linter.unusedVariables false
set_option linter.unusedSimpArgs false
section
open Go.RowKit
set_option maxHeartbeats 400000 in
theorem toCurve_any (P A B N gx gy : Int) (w : World) : Calls Tryz.prog 55 #[.agg #[.int .i64 P, .int .i64 A, .int .i64 B, .int .i64 N, .int .i64 gx, .int .i64 gy]] w fun r w' => r = .returned (.agg #[.int .i64 P, .int .i64 A, .int .i64 B, .int .i64 N, .int .i64 gx, .int .i64 gy]) ∧ Below w.heap.size w w' := by
 go_enter Tryz.func55, Tryz.ntmps55
 go_wp2
 refine bodyPost_ret (v := .agg #[.int .i64 P, .int .i64 A, .int .i64 B, .int .i64 N, .int .i64 gx, .int .i64 gy]) (by simp [results, Tryz.results55, go_sem]) rfl ⟨rfl, ?_⟩
 repeat (first | exact Below.refl _ _ | refine Below.setCell ?_ (by simp <;> omega) _ | refine Below.alloc ?_ (by simp <;> omega) _)
set_option maxHeartbeats 400000 in
theorem toPoint_any (x y : Int) (f : Bool) (w : World) : Calls Tryz.prog 56 #[.agg #[.int .i64 x, .int .i64 y, .bool f]] w fun r w' => r = .returned (.agg #[.int .i64 x, .int .i64 y, .bool f]) ∧ Below w.heap.size w w' := by
 go_enter Tryz.func56, Tryz.ntmps56
 go_wp2
 refine bodyPost_ret (v := .agg #[.int .i64 x, .int .i64 y, .bool f]) (by simp [results, Tryz.results56, go_sem]) rfl ⟨rfl, ?_⟩
 repeat (first | exact Below.refl _ _ | refine Below.setCell ?_ (by simp <;> omega) _ | refine Below.alloc ?_ (by simp <;> omega) _)
set_option maxHeartbeats 400000 in
theorem eqPoint_same (x y : Int) (f : Bool) (w : World) : Calls Tryz.prog 70 #[.agg #[.int .i64 x, .int .i64 y, .bool f], .agg #[.int .i64 x, .int .i64 y, .bool f]] w fun r w' => r = .returned (.bool true) ∧ Below w.heap.size w w' := by
 have h1 : (x != x) = false := by simp
 have h2 : (y != y) = false := by simp
 have h3 : (f != f) = false := by simp
 go_enter Tryz.func70, Tryz.ntmps70
 go_wp2
 go_ret
 exact ⟨rfl, ((Below.refl _ _).alloc (Nat.le_refl _) _).alloc (by simp) _⟩
set_option maxHeartbeats 400000 in
theorem toEd_any (P D L bx cy : Int) (w : World) : Calls Tryz.prog 57 #[.agg #[.int .i64 P, .int .i64 D, .int .i64 L, .int .i64 bx, .int .i64 cy]] w fun r w' => r = .returned (.agg #[.int .i64 P, .int .i64 D, .int .i64 L, .int .i64 bx, .int .i64 cy]) ∧ Ext w w' := by
 go_enter Tryz.func57, Tryz.ntmps57
 go_wp2
 refine bodyPost_ret (v := .agg #[.int .i64 P, .int .i64 D, .int .i64 L, .int .i64 bx, .int .i64 cy]) (by simp [results, Tryz.results57, go_sem]) rfl ⟨rfl, ?_⟩
 unfold Ext
 repeat (first | exact Below.refl _ _ | refine Below.setCell ?_ (by simp <;> omega) _ | refine Below.alloc ?_ (by simp <;> omega) _)
set_option maxHeartbeats 400000 in
theorem toPair_any (x y : Int) (w : World) : Calls Tryz.prog 58 #[.agg #[.int .i64 x, .int .i64 y]] w fun r w' => r = .returned (.agg #[.int .i64 x, .int .i64 y]) ∧ Ext w w' := by
 go_enter Tryz.func58, Tryz.ntmps58
 go_wp2
 refine bodyPost_ret (v := .agg #[.int .i64 x, .int .i64 y]) (by simp [results, Tryz.results58, go_sem]) rfl ⟨rfl, ?_⟩
 unfold Ext
 repeat (first | exact Below.refl _ _ | refine Below.setCell ?_ (by simp <;> omega) _ | refine Below.alloc ?_ (by simp <;> omega) _)
set_option maxHeartbeats 400000 in
theorem eqPair_same (x y : Int) (w : World) : Calls Tryz.prog 72 #[.agg #[.int .i64 x, .int .i64 y], .agg #[.int .i64 x, .int .i64 y]] w fun r w' => r = .returned (.bool true) ∧ Ext w w' := by
 have h1 : (x != x) = false := by simp
 have h2 : (y != y) = false := by simp
 go_enter Tryz.func72, Tryz.ntmps72
 go_wp2
 go_ret
 exact ⟨rfl, ((Below.refl _ _).alloc (Nat.le_refl _) _).alloc (by simp) _⟩
theorem results_cell {P : Program} {fn : Func} {a : Nat} {T : TypeId} (hf : fn.results = #[.cell a T]) {tmps : Array Value} {q : Addr} {v : Value} {W : World} (ht : tmps.getD a undef = .pointer (some q)) (hl : (loadVar T q).run P W = .ok v W) : (results fn tmps).run P W = .ok v W := by
 have ht' : tmps[a]?.getD undef = .pointer (some q) := by simpa using ht
 simp [results, hf, ht', asAddr, hl]
theorem setCells_putK (b : Nat) : ∀ (vs : List Value) (o : Nat) (w : World), w.setCells b o vs = putL b o vs w
 | [], _, _ => rfl
 | v :: vs, o, w => by rw [World.setCells, putL, setCells_putK b vs]
theorem run_storeKey (cs : List Value) (hl : cs.length = 19) (h1 : ∀ v ∈ cs, v.oneCell' = true) (b : Nat) (w : World) {vs : List Value} (hB : Blk w b vs) (hv : vs.length = 19) :
  (Instr.storeAt 51 (.pointer (some ⟨b, 0, none⟩)) (.agg cs.toArray)).run Tryz.prog w = .ok () (putL b 0 cs w) := by
 have hs : (Go.sizeOf 51).run Tryz.prog w = .ok 19 w := by kernel_rfl
 have hx : ∀ j, j < 19 → ∃ v, vs[j]? = some v := fun j hj => ⟨_, List.getElem?_eq_getElem (by omega)⟩
 have hst := run_storeCells_cells (P := Tryz.prog) b 0 cs 0 w (fun j hj => by
  obtain ⟨v, h⟩ := hx j (by omega)
  simp [(hB j v h).1]) (fun j hj => by
  obtain ⟨v, h⟩ := hx j (by omega)
  simpa using (hB j v h).2) h1
 simp only [Instr.storeAt, Instr.sureAddr, storeVar, Sem.run_bind, Sem.run_pure, Result.andThen_ok, hs, Value.cells]
 rw [setCells_putK] at hst
 simp [hl, hst]
theorem wpList_store_on {P : Program} {w : World} {ops : Array Oper} {rest : List Oper} {o : Oper} {a : Act} {Q : Exit → Act → World → Prop} (hw : Region.wanted o (yielded ops a.tmps) = true) (ty : TypeId) (x y : Operand) (ho : o.op = .store ty x y) (vx : Value) (hx : a.eval x = vx) (vy : Value) (hy : a.eval y = vy) (w2 : World) (hl : (Instr.storeAt ty vx vy).run P w = .ok () w2)
  (h : wpList P ops Q rest (a.put o.dst undef) w2) : wpList P ops Q (o :: rest) a w := by
 rw [wpList]
 simp only [hw, if_true]
 refine Or.inl ?_
 unfold Oper.wp execOp
 simp only [ho, hx, hy, Sem.run_bind, Sem.run_pure, Result.andThen_ok, hl]
 exact h
theorem Blk.putAll {w : World} {C : Nat} {us vs : List Value} (h : Blk w C us) (hl : us.length = vs.length) : Blk (putL C 0 vs w) C vs := fun j v hj => by
 have hi := (List.getElem?_eq_some_iff.1 hj).1
 have := cell_putL C vs 0 w (fun k hk => by
  obtain ⟨y, hy⟩ : ∃ y, us[k]? = some y := ⟨_, List.getElem?_eq_getElem (by omega)⟩
  rw [Nat.zero_add, (h k y hy).1]
  rfl) j v hj
 rw [Nat.zero_add] at this
 obtain ⟨y, hy⟩ : ∃ y, us[j]? = some y := ⟨_, List.getElem?_eq_getElem (by omega)⟩
 exact ⟨this, by rw [frozen_putL]; exact (h j y hy).2⟩
theorem Seg.putAll {w : World} {a : Option Addr} {g o n D : Nat} {f : Nat → Int} (vs : List Value) (h : Seg w a g o n f) (hn : g ≠ D) : Seg (putL D 0 vs w) a g o n f :=
 ⟨h.at', fun j hj => (cell_putL_other D ⟨g, o + j, none⟩ vs 0 w (fun e => absurd e hn)).trans (h.cell j hj)⟩
theorem Blk.set {w : World} {C : Nat} {vs : List Value} (h : Blk w C vs) (i : Nat) (v : Value) (hi : i < vs.length) : Blk (w.setCell ⟨C, i, none⟩ v) C (vs.set i v) := fun j u hj => by
 by_cases e : j = i
 ·subst e
  rw [List.getElem?_set_self hi] at hj
  simp only [Option.some.injEq] at hj
  subst hj
  obtain ⟨y, hy⟩ : ∃ y, vs[j]? = some y := ⟨_, List.getElem?_eq_getElem hi⟩
  exact ⟨World.cell?_setCell_same _ _ _ (h j y hy).1, by rw [World.frozen?_setCell]; exact (h j y hy).2⟩
 ·rw [List.getElem?_set_ne (fun h => e h.symm)] at hj
  refine ⟨?_, by rw [World.frozen?_setCell]; exact (h j u hj).2⟩
  rw [World.cell?_setCell_other _ _ _ _ (fun k => e (by have := congrArg Addr.off k; simp at this; omega))]
  exact (h j u hj).1
theorem Blk.apart {w : World} {C D i : Nat} {vs : List Value} (h : Blk w C vs) (v : Value) (hn : C ≠ D) : Blk (w.setCell ⟨D, i, none⟩ v) C vs := fun j u hj => by
 have hb : (w.setCell ⟨D, i, none⟩ v).heap[C]? = w.heap[C]? := Below.heap_setCell _ _ _ _ hn
 exact ⟨(World.cell?_of_block (a := ⟨C, j, none⟩) hb).trans (h j u hj).1, (World.frozen?_of_block (a := ⟨C, j, none⟩) hb).trans (h j u hj).2⟩
theorem Seg.apart {w : World} {a : Option Addr} {g o n D i : Nat} {f : Nat → Int} (h : Seg w a g o n f) (v : Value) (hn : g ≠ D) : Seg (w.setCell ⟨D, i, none⟩ v) a g o n f :=
 ⟨h.at', fun j hj => (World.cell?_of_block (a := ⟨g, o + j, none⟩) (Below.heap_setCell _ _ _ _ hn)).trans (h.cell j hj)⟩
def szN (l : Int) (n : Nat) : Int := if l < n then -1 else l - n
theorem szN_facts {l : Int} {n : Nat} (h0 : 0 ≤ l) : -1 ≤ szN l n ∧ szN l n ≤ l ∧ (0 ≤ szN l n → szN l n + (n : Int) ≤ l) := by
 unfold szN
 split <;> refine ⟨by omega, by omega, fun _ => by omega⟩
theorem szIntS_any (a : Option Addr) (n cap : Nat) (l : Int) (w : World) (l0 : 0 ≤ l) (l1 : l ≤ 1048576) (hn : n ≤ 9223372036854775807) :
  Calls Tryz.prog 49 #[.slice a n cap, .int .i64 l] w fun e w' => e = .returned (.int .i64 (szN l n)) ∧ w' = w := by
 unfold szN
 by_cases h : l < n
 ·rw [if_pos h]
  have h1 : l - (n : Int) < 0 := by omega
  have h2 : -9223372036854775808 ≤ l - (n : Int) := by omega
  go_enter Tryz.func49, Tryz.ntmps49
  go_wp2
  go_ret
  exact ⟨rfl, rfl⟩
 ·rw [if_neg h]
  have h1 : ¬ l - (n : Int) < 0 := by omega
  go_enter Tryz.func49, Tryz.ntmps49
  go_wp2
  go_ret
  exact ⟨rfl, rfl⟩
set_option maxHeartbeats 3200000 in
set_option maxRecDepth 100000 in
theorem szKey_any (k : Ky) (ad : Option Addr) (cap : Nat) (l : Int) (w : World) (l0 : 0 ≤ l) (l1 : l ≤ 1048576) (hn : k.n ≤ 9223372036854775807) :
  Calls Tryz.prog 19 #[.agg #[.int .i64 k.kind, .slice ad k.n cap, .int .i64 k.e, .int .i64 k.cP, .int .i64 k.cA, .int .i64 k.cB, .int .i64 k.cN, .int .i64 k.cX, .int .i64 k.cY, .int .i64 k.q.x, .int .i64 k.q.y, .bool k.q.far, .int .i64 k.dP, .int .i64 k.dD, .int .i64 k.dL, .int .i64 k.dX, .int .i64 k.dY, .int .i64 k.a.x, .int .i64 k.a.y], .int .i64 l] w fun e w' => (∃ z : Int, e = .returned (.int .i64 z) ∧ -1 ≤ z ∧ z ≤ l ∧ (0 ≤ z → z + (k.n : Int) ≤ l)) ∧ Ext w w' := by
 obtain ⟨V, hV⟩ : ∃ V, w.alloc (.cells #[.int .i64 k.kind, .slice ad k.n cap, .int .i64 k.e, .int .i64 k.cP, .int .i64 k.cA, .int .i64 k.cB, .int .i64 k.cN, .int .i64 k.cX, .int .i64 k.cY, .int .i64 k.q.x, .int .i64 k.q.y, .bool k.q.far, .int .i64 k.dP, .int .i64 k.dD, .int .i64 k.dL, .int .i64 k.dX, .int .i64 k.dY, .int .i64 k.a.x, .int .i64 k.a.y] 33) = V := ⟨_, rfl⟩
 obtain ⟨B0, hE, -⟩ := box1 w [.int .i64 k.kind, .slice ad k.n cap, .int .i64 k.e, .int .i64 k.cP, .int .i64 k.cA, .int .i64 k.cB, .int .i64 k.cN, .int .i64 k.cX, .int .i64 k.cY, .int .i64 k.q.x, .int .i64 k.q.y, .bool k.q.far, .int .i64 k.dP, .int .i64 k.dD, .int .i64 k.dL, .int .i64 k.dX, .int .i64 k.dY, .int .i64 k.a.x, .int .i64 k.a.y] 33 (w1 := V) (by rw [← hV]; exact Ext.refl _)
 have c1 := (B0 1 _ rfl).1
 have HE := hide hE
 have HS := hide (szIntS_any ad k.n cap l V l0 l1 hn)
 clear B0 hE
 go_enter Tryz.func19, Tryz.ntmps19
 go_wp2_with fail
 refine HS.out.mono ?_
 rintro e W ⟨rfl, hw⟩
 obtain rfl := hw.symm
 obtain ⟨z0, z1, hz⟩ := szN_facts (l := l) (n := k.n) l0
 generalize szN l k.n = z at *
 have Hz := hide hz
 clear hz
 by_cases h : z < 0
 ·go_wp2
  go_ret
  exact ⟨⟨-1, rfl, by omega, by omega, fun h => by omega⟩, HE.out⟩
 ·go_wp2
  go_ret
  exact ⟨⟨z, rfl, z0, z1, Hz.out⟩, HE.out⟩
def GivesKy (w : World) (k : Ky) (e : Ending) (w' : World) : Prop := ∃ R, e = .returned (.agg #[.int .i64 k.kind, .slice (some ⟨R, 0, none⟩) k.n k.n, .int .i64 k.e, .int .i64 k.cP, .int .i64 k.cA, .int .i64 k.cB, .int .i64 k.cN, .int .i64 k.cX, .int .i64 k.cY, .int .i64 k.q.x, .int .i64 k.q.y, .bool k.q.far, .int .i64 k.dP, .int .i64 k.dD, .int .i64 k.dL, .int .i64 k.dX, .int .i64 k.dY, .int .i64 k.a.x, .int .i64 k.a.y]) ∧ w.heap.size ≤ R ∧ Seg w' (some ⟨R, 0, none⟩) R 0 k.n k.f ∧ Ext w w'
set_option maxHeartbeats 6400000 in
set_option maxRecDepth 100000 in
theorem toKey_any (k : Ky) (ad : Option Addr) (b off cap : Nat) (w : World) (hs : Seg w ad b off k.n k.f) (hn : k.n ≤ 1048576) :
  Calls Tryz.prog 27 #[.agg #[.int .i64 k.kind, .slice ad k.n cap, .int .i64 k.e, .int .i64 k.cP, .int .i64 k.cA, .int .i64 k.cB, .int .i64 k.cN, .int .i64 k.cX, .int .i64 k.cY, .int .i64 k.q.x, .int .i64 k.q.y, .bool k.q.far, .int .i64 k.dP, .int .i64 k.dD, .int .i64 k.dL, .int .i64 k.dX, .int .i64 k.dY, .int .i64 k.a.x, .int .i64 k.a.y]] w fun e w' => GivesKy w k e w' := by
 obtain ⟨V, hV⟩ : ∃ V, ((w.alloc (.cells #[.int .i64 k.kind, .slice ad k.n cap, .int .i64 k.e, .int .i64 k.cP, .int .i64 k.cA, .int .i64 k.cB, .int .i64 k.cN, .int .i64 k.cX, .int .i64 k.cY, .int .i64 k.q.x, .int .i64 k.q.y, .bool k.q.far, .int .i64 k.dP, .int .i64 k.dD, .int .i64 k.dL, .int .i64 k.dX, .int .i64 k.dY, .int .i64 k.a.x, .int .i64 k.a.y] 33)).alloc (.cells #[.int .i64 0, .slice none 0 0, .int .i64 0, .int .i64 0, .int .i64 0, .int .i64 0, .int .i64 0, .int .i64 0, .int .i64 0, .int .i64 0, .int .i64 0, .bool false, .int .i64 0, .int .i64 0, .int .i64 0, .int .i64 0, .int .i64 0, .int .i64 0, .int .i64 0] 51)).alloc (.cells #[.int .i64 0, .slice none 0 0, .int .i64 0, .int .i64 0, .int .i64 0, .int .i64 0, .int .i64 0, .int .i64 0, .int .i64 0, .int .i64 0, .int .i64 0, .bool false, .int .i64 0, .int .i64 0, .int .i64 0, .int .i64 0, .int .i64 0, .int .i64 0, .int .i64 0] 51) = V := ⟨_, rfl⟩
 obtain ⟨B0, B2, B1, hE, -⟩ := box3 w [.int .i64 k.kind, .slice ad k.n cap, .int .i64 k.e, .int .i64 k.cP, .int .i64 k.cA, .int .i64 k.cB, .int .i64 k.cN, .int .i64 k.cX, .int .i64 k.cY, .int .i64 k.q.x, .int .i64 k.q.y, .bool k.q.far, .int .i64 k.dP, .int .i64 k.dD, .int .i64 k.dL, .int .i64 k.dX, .int .i64 k.dY, .int .i64 k.a.x, .int .i64 k.a.y] [.int .i64 0, .slice none 0 0, .int .i64 0, .int .i64 0, .int .i64 0, .int .i64 0, .int .i64 0, .int .i64 0, .int .i64 0, .int .i64 0, .int .i64 0, .bool false, .int .i64 0, .int .i64 0, .int .i64 0, .int .i64 0, .int .i64 0, .int .i64 0, .int .i64 0] [.int .i64 0, .slice none 0 0, .int .i64 0, .int .i64 0, .int .i64 0, .int .i64 0, .int .i64 0, .int .i64 0, .int .i64 0, .int .i64 0, .int .i64 0, .bool false, .int .i64 0, .int .i64 0, .int .i64 0, .int .i64 0, .int .i64 0, .int .i64 0, .int .i64 0] 33 51 51 (w1 := V) (by rw [← hV]; exact Ext.refl _)
 have HA := hide B0
 have HO := hide B1
 have HQ := hide B2
 have HW := hide hE
 have HInt : Hid (∀ W, Ext w W → Calls Tryz.prog 9 #[.slice ad k.n cap] W fun e w' => ∃ R, e = .returned (.slice (some ⟨R, 0, none⟩) k.n k.n) ∧ W.heap.size ≤ R ∧ Seg w' (some ⟨R, 0, none⟩) R 0 k.n k.f ∧ Ext W w') := fun W h => (toIntS_any ad b off k.n cap k.f W (hs.of_all h) hn).mono fun e w' ⟨h1, h2, h3, h4⟩ => ⟨_, h1, Nat.le_refl _, ⟨fun _ => rfl, fun i hi => by rw [Nat.zero_add]; exact h3.cell hi⟩, h4⟩
 clear B0 B1 B2 hE hs
 have a0 := (HA.out 0 _ rfl).1
 have a1 := (HA.out 1 _ rfl).1
 have o0 := (HO.out 0 _ rfl).1
 have f0 := (HO.out 0 _ rfl).2
 go_enter Tryz.func27, Tryz.ntmps27
 go_wp2_with fail
 refine (HInt.out _ (Below.setCell HW.out (p := ⟨w.heap.size + 1 + 1, 0, none⟩) (Nat.le_succ_of_le (Nat.le_succ _)) _)).mono ?_
 rintro e w1 ⟨R, rfl, hR, hSg, hEW⟩
 clear a0 a1 o0 f0
 replace HQ := hide (Blk.ext (Blk.apart HQ.out _ (by omega)) hEW (World.block_lt_of_cell? _ _ ((Blk.apart HQ.out _ (by omega)) 0 _ rfl).1))
 replace HA := hide (Blk.ext (Blk.apart HA.out _ (by omega)) hEW (World.block_lt_of_cell? _ _ ((Blk.apart HA.out _ (by omega)) 0 _ rfl).1))
 have HO0 := HO
 replace HO : Hid (Blk w1 (w.heap.size + 1 + 1) [.int .i64 k.kind, .slice none 0 0, .int .i64 0, .int .i64 0, .int .i64 0, .int .i64 0, .int .i64 0, .int .i64 0, .int .i64 0, .int .i64 0, .int .i64 0, .bool false, .int .i64 0, .int .i64 0, .int .i64 0, .int .i64 0, .int .i64 0, .int .i64 0, .int .i64 0]) := hide (Blk.ext (Blk.set HO.out 0 _ (by simp)) hEW (World.block_lt_of_cell? _ _ ((Blk.set HO.out 0 _ (by simp)) 0 _ rfl).1))
 have HRn : Hid (R ≠ w.heap.size + 1 + 1) := by
  show _ ≠ _
  have h1 := World.block_lt_of_cell? _ _ ((Blk.set HO0.out 0 (.int .i64 k.kind) (by simp)) 0 _ rfl).1
  have h2 : w.heap.size + 1 + 1 < (V.setCell ⟨w.heap.size + 1 + 1, 0, none⟩ (.int .i64 k.kind)).heap.size := h1
  omega
 have HRq : Hid (R ≠ w.heap.size + 1) := by
  show _ ≠ _
  have h1 := World.block_lt_of_cell? _ _ ((Blk.set HO0.out 0 (.int .i64 k.kind) (by simp)) 0 _ rfl).1
  have h2 : w.heap.size + 1 + 1 < (V.setCell ⟨w.heap.size + 1 + 1, 0, none⟩ (.int .i64 k.kind)).heap.size := h1
  omega
 have HR : Hid (w.heap.size ≤ R) := by
  show _ ≤ _
  have h1 := Below.size HW.out
  have h2 : (V.setCell ⟨w.heap.size + 1 + 1, 0, none⟩ (.int .i64 k.kind)).heap.size = V.heap.size := by simp [World.setCell]
  omega
 have HSg := hide hSg
 clear hSg hR
 replace HW := hide (Ext.trans (Below.setCell HW.out (p := ⟨w.heap.size + 1 + 1, 0, none⟩) (Nat.le_succ_of_le (Nat.le_succ _)) _) hEW)
 clear hEW
 have a2 := (HA.out 2 _ rfl).1
 have a3 := (HA.out 3 _ rfl).1
 have a4 := (HA.out 4 _ rfl).1
 have a5 := (HA.out 5 _ rfl).1
 have a6 := (HA.out 6 _ rfl).1
 have a7 := (HA.out 7 _ rfl).1
 have a8 := (HA.out 8 _ rfl).1
 have o1 := (HO.out 1 _ rfl).1
 have f1 := (HO.out 1 _ rfl).2
 have o2 := (HO.out 2 _ rfl).1
 have f2 := (HO.out 2 _ rfl).2
 go_wp2_with fail
 refine (toCurve_any k.cP k.cA k.cB k.cN k.cX k.cY _).mono ?_
 rintro e w2 ⟨rfl, hEW⟩
 clear a2 a3 a4 a5 a6 a7 a8 o1 f1 o2 f2
 replace HQ := hide (Blk.ext (Blk.apart (Blk.apart HQ.out _ (by omega)) _ (by omega)) hEW (World.block_lt_of_cell? _ _ ((Blk.apart (Blk.apart HQ.out _ (by omega)) _ (by omega)) 0 _ rfl).1))
 replace HA := hide (Blk.ext (Blk.apart (Blk.apart HA.out _ (by omega)) _ (by omega)) hEW (World.block_lt_of_cell? _ _ ((Blk.apart (Blk.apart HA.out _ (by omega)) _ (by omega)) 0 _ rfl).1))
 have HO0 := HO
 replace HO : Hid (Blk w2 (w.heap.size + 1 + 1) [.int .i64 k.kind, .slice (some ⟨R, 0, none⟩) k.n k.n, .int .i64 k.e, .int .i64 0, .int .i64 0, .int .i64 0, .int .i64 0, .int .i64 0, .int .i64 0, .int .i64 0, .int .i64 0, .bool false, .int .i64 0, .int .i64 0, .int .i64 0, .int .i64 0, .int .i64 0, .int .i64 0, .int .i64 0]) := hide (Blk.ext (Blk.set (Blk.set HO.out 1 _ (by simp)) 2 _ (by simp)) hEW (World.block_lt_of_cell? _ _ ((Blk.set (Blk.set HO.out 1 _ (by simp)) 2 _ (by simp)) 0 _ rfl).1))
 replace HSg := hide (Seg.of_all (Seg.apart (Seg.apart HSg.out _ HRn.out) _ HRn.out) hEW)
 replace HW := hide (Ext.trans (Below.setCell (Below.setCell HW.out (p := ⟨w.heap.size + 1 + 1, 1, none⟩) (Nat.le_succ_of_le (Nat.le_succ _)) _) (p := ⟨w.heap.size + 1 + 1, 2, none⟩) (Nat.le_succ_of_le (Nat.le_succ _)) _) hEW)
 clear hEW
 have a9 := (HA.out 9 _ rfl).1
 have a10 := (HA.out 10 _ rfl).1
 have a11 := (HA.out 11 _ rfl).1
 have o3 := (HO.out 3 _ rfl).1
 have f3 := (HO.out 3 _ rfl).2
 have o4 := (HO.out 4 _ rfl).1
 have f4 := (HO.out 4 _ rfl).2
 have o5 := (HO.out 5 _ rfl).1
 have f5 := (HO.out 5 _ rfl).2
 have o6 := (HO.out 6 _ rfl).1
 have f6 := (HO.out 6 _ rfl).2
 have o7 := (HO.out 7 _ rfl).1
 have f7 := (HO.out 7 _ rfl).2
 have o8 := (HO.out 8 _ rfl).1
 have f8 := (HO.out 8 _ rfl).2
 go_wp2_with fail
 refine (toPoint_any k.q.x k.q.y k.q.far _).mono ?_
 rintro e w3 ⟨rfl, hEW⟩
 clear a9 a10 a11 o3 f3 o4 f4 o5 f5 o6 f6 o7 f7 o8 f8
 replace HQ := hide (Blk.ext (Blk.apart (Blk.apart (Blk.apart (Blk.apart (Blk.apart (Blk.apart HQ.out _ (by omega)) _ (by omega)) _ (by omega)) _ (by omega)) _ (by omega)) _ (by omega)) hEW (World.block_lt_of_cell? _ _ ((Blk.apart (Blk.apart (Blk.apart (Blk.apart (Blk.apart (Blk.apart HQ.out _ (by omega)) _ (by omega)) _ (by omega)) _ (by omega)) _ (by omega)) _ (by omega)) 0 _ rfl).1))
 replace HA := hide (Blk.ext (Blk.apart (Blk.apart (Blk.apart (Blk.apart (Blk.apart (Blk.apart HA.out _ (by omega)) _ (by omega)) _ (by omega)) _ (by omega)) _ (by omega)) _ (by omega)) hEW (World.block_lt_of_cell? _ _ ((Blk.apart (Blk.apart (Blk.apart (Blk.apart (Blk.apart (Blk.apart HA.out _ (by omega)) _ (by omega)) _ (by omega)) _ (by omega)) _ (by omega)) _ (by omega)) 0 _ rfl).1))
 have HO0 := HO
 replace HO : Hid (Blk w3 (w.heap.size + 1 + 1) [.int .i64 k.kind, .slice (some ⟨R, 0, none⟩) k.n k.n, .int .i64 k.e, .int .i64 k.cP, .int .i64 k.cA, .int .i64 k.cB, .int .i64 k.cN, .int .i64 k.cX, .int .i64 k.cY, .int .i64 0, .int .i64 0, .bool false, .int .i64 0, .int .i64 0, .int .i64 0, .int .i64 0, .int .i64 0, .int .i64 0, .int .i64 0]) := hide (Blk.ext (Blk.set (Blk.set (Blk.set (Blk.set (Blk.set (Blk.set HO.out 3 _ (by simp)) 4 _ (by simp)) 5 _ (by simp)) 6 _ (by simp)) 7 _ (by simp)) 8 _ (by simp)) hEW (World.block_lt_of_cell? _ _ ((Blk.set (Blk.set (Blk.set (Blk.set (Blk.set (Blk.set HO.out 3 _ (by simp)) 4 _ (by simp)) 5 _ (by simp)) 6 _ (by simp)) 7 _ (by simp)) 8 _ (by simp)) 0 _ rfl).1))
 replace HSg := hide (Seg.of_all (Seg.apart (Seg.apart (Seg.apart (Seg.apart (Seg.apart (Seg.apart HSg.out _ HRn.out) _ HRn.out) _ HRn.out) _ HRn.out) _ HRn.out) _ HRn.out) hEW)
 replace HW := hide (Ext.trans (Below.setCell (Below.setCell (Below.setCell (Below.setCell (Below.setCell (Below.setCell HW.out (p := ⟨w.heap.size + 1 + 1, 3, none⟩) (Nat.le_succ_of_le (Nat.le_succ _)) _) (p := ⟨w.heap.size + 1 + 1, 4, none⟩) (Nat.le_succ_of_le (Nat.le_succ _)) _) (p := ⟨w.heap.size + 1 + 1, 5, none⟩) (Nat.le_succ_of_le (Nat.le_succ _)) _) (p := ⟨w.heap.size + 1 + 1, 6, none⟩) (Nat.le_succ_of_le (Nat.le_succ _)) _) (p := ⟨w.heap.size + 1 + 1, 7, none⟩) (Nat.le_succ_of_le (Nat.le_succ _)) _) (p := ⟨w.heap.size + 1 + 1, 8, none⟩) (Nat.le_succ_of_le (Nat.le_succ _)) _) hEW)
 clear hEW
 have a12 := (HA.out 12 _ rfl).1
 have a13 := (HA.out 13 _ rfl).1
 have a14 := (HA.out 14 _ rfl).1
 have a15 := (HA.out 15 _ rfl).1
 have a16 := (HA.out 16 _ rfl).1
 have o9 := (HO.out 9 _ rfl).1
 have f9 := (HO.out 9 _ rfl).2
 have o10 := (HO.out 10 _ rfl).1
 have f10 := (HO.out 10 _ rfl).2
 have o11 := (HO.out 11 _ rfl).1
 have f11 := (HO.out 11 _ rfl).2
 go_wp2_with fail
 refine (toEd_any k.dP k.dD k.dL k.dX k.dY _).mono ?_
 rintro e w4 ⟨rfl, hEW⟩
 clear a12 a13 a14 a15 a16 o9 f9 o10 f10 o11 f11
 replace HQ := hide (Blk.ext (Blk.apart (Blk.apart (Blk.apart HQ.out _ (by omega)) _ (by omega)) _ (by omega)) hEW (World.block_lt_of_cell? _ _ ((Blk.apart (Blk.apart (Blk.apart HQ.out _ (by omega)) _ (by omega)) _ (by omega)) 0 _ rfl).1))
 replace HA := hide (Blk.ext (Blk.apart (Blk.apart (Blk.apart HA.out _ (by omega)) _ (by omega)) _ (by omega)) hEW (World.block_lt_of_cell? _ _ ((Blk.apart (Blk.apart (Blk.apart HA.out _ (by omega)) _ (by omega)) _ (by omega)) 0 _ rfl).1))
 have HO0 := HO
 replace HO : Hid (Blk w4 (w.heap.size + 1 + 1) [.int .i64 k.kind, .slice (some ⟨R, 0, none⟩) k.n k.n, .int .i64 k.e, .int .i64 k.cP, .int .i64 k.cA, .int .i64 k.cB, .int .i64 k.cN, .int .i64 k.cX, .int .i64 k.cY, .int .i64 k.q.x, .int .i64 k.q.y, .bool k.q.far, .int .i64 0, .int .i64 0, .int .i64 0, .int .i64 0, .int .i64 0, .int .i64 0, .int .i64 0]) := hide (Blk.ext (Blk.set (Blk.set (Blk.set HO.out 9 _ (by simp)) 10 _ (by simp)) 11 _ (by simp)) hEW (World.block_lt_of_cell? _ _ ((Blk.set (Blk.set (Blk.set HO.out 9 _ (by simp)) 10 _ (by simp)) 11 _ (by simp)) 0 _ rfl).1))
 replace HSg := hide (Seg.of_all (Seg.apart (Seg.apart (Seg.apart HSg.out _ HRn.out) _ HRn.out) _ HRn.out) hEW)
 replace HW := hide (Ext.trans (Below.setCell (Below.setCell (Below.setCell HW.out (p := ⟨w.heap.size + 1 + 1, 9, none⟩) (Nat.le_succ_of_le (Nat.le_succ _)) _) (p := ⟨w.heap.size + 1 + 1, 10, none⟩) (Nat.le_succ_of_le (Nat.le_succ _)) _) (p := ⟨w.heap.size + 1 + 1, 11, none⟩) (Nat.le_succ_of_le (Nat.le_succ _)) _) hEW)
 clear hEW
 have a17 := (HA.out 17 _ rfl).1
 have a18 := (HA.out 18 _ rfl).1
 have o12 := (HO.out 12 _ rfl).1
 have f12 := (HO.out 12 _ rfl).2
 have o13 := (HO.out 13 _ rfl).1
 have f13 := (HO.out 13 _ rfl).2
 have o14 := (HO.out 14 _ rfl).1
 have f14 := (HO.out 14 _ rfl).2
 have o15 := (HO.out 15 _ rfl).1
 have f15 := (HO.out 15 _ rfl).2
 have o16 := (HO.out 16 _ rfl).1
 have f16 := (HO.out 16 _ rfl).2
 go_wp2_with fail
 refine (toPair_any k.a.x k.a.y _).mono ?_
 rintro e w5 ⟨rfl, hEW⟩
 clear a17 a18 o12 f12 o13 f13 o14 f14 o15 f15 o16 f16
 replace HQ := hide (Blk.ext (Blk.apart (Blk.apart (Blk.apart (Blk.apart (Blk.apart HQ.out _ (by omega)) _ (by omega)) _ (by omega)) _ (by omega)) _ (by omega)) hEW (World.block_lt_of_cell? _ _ ((Blk.apart (Blk.apart (Blk.apart (Blk.apart (Blk.apart HQ.out _ (by omega)) _ (by omega)) _ (by omega)) _ (by omega)) _ (by omega)) 0 _ rfl).1))
 replace HA := hide (Blk.ext (Blk.apart (Blk.apart (Blk.apart (Blk.apart (Blk.apart HA.out _ (by omega)) _ (by omega)) _ (by omega)) _ (by omega)) _ (by omega)) hEW (World.block_lt_of_cell? _ _ ((Blk.apart (Blk.apart (Blk.apart (Blk.apart (Blk.apart HA.out _ (by omega)) _ (by omega)) _ (by omega)) _ (by omega)) _ (by omega)) 0 _ rfl).1))
 have HO0 := HO
 replace HO : Hid (Blk w5 (w.heap.size + 1 + 1) [.int .i64 k.kind, .slice (some ⟨R, 0, none⟩) k.n k.n, .int .i64 k.e, .int .i64 k.cP, .int .i64 k.cA, .int .i64 k.cB, .int .i64 k.cN, .int .i64 k.cX, .int .i64 k.cY, .int .i64 k.q.x, .int .i64 k.q.y, .bool k.q.far, .int .i64 k.dP, .int .i64 k.dD, .int .i64 k.dL, .int .i64 k.dX, .int .i64 k.dY, .int .i64 0, .int .i64 0]) := hide (Blk.ext (Blk.set (Blk.set (Blk.set (Blk.set (Blk.set HO.out 12 _ (by simp)) 13 _ (by simp)) 14 _ (by simp)) 15 _ (by simp)) 16 _ (by simp)) hEW (World.block_lt_of_cell? _ _ ((Blk.set (Blk.set (Blk.set (Blk.set (Blk.set HO.out 12 _ (by simp)) 13 _ (by simp)) 14 _ (by simp)) 15 _ (by simp)) 16 _ (by simp)) 0 _ rfl).1))
 replace HSg := hide (Seg.of_all (Seg.apart (Seg.apart (Seg.apart (Seg.apart (Seg.apart HSg.out _ HRn.out) _ HRn.out) _ HRn.out) _ HRn.out) _ HRn.out) hEW)
 replace HW := hide (Ext.trans (Below.setCell (Below.setCell (Below.setCell (Below.setCell (Below.setCell HW.out (p := ⟨w.heap.size + 1 + 1, 12, none⟩) (Nat.le_succ_of_le (Nat.le_succ _)) _) (p := ⟨w.heap.size + 1 + 1, 13, none⟩) (Nat.le_succ_of_le (Nat.le_succ _)) _) (p := ⟨w.heap.size + 1 + 1, 14, none⟩) (Nat.le_succ_of_le (Nat.le_succ _)) _) (p := ⟨w.heap.size + 1 + 1, 15, none⟩) (Nat.le_succ_of_le (Nat.le_succ _)) _) (p := ⟨w.heap.size + 1 + 1, 16, none⟩) (Nat.le_succ_of_le (Nat.le_succ _)) _) hEW)
 clear hEW
 have o17 := (HO.out 17 _ rfl).1
 have f17 := (HO.out 17 _ rfl).2
 have o18 := (HO.out 18 _ rfl).1
 have f18 := (HO.out 18 _ rfl).2
 have hO2 : Blk ((w5.setCell ⟨w.heap.size + 1 + 1, 17, none⟩ (.int .i64 k.a.x)).setCell ⟨w.heap.size + 1 + 1, 18, none⟩ (.int .i64 k.a.y)) (w.heap.size + 1 + 1) [.int .i64 k.kind, .slice (some ⟨R, 0, none⟩) k.n k.n, .int .i64 k.e, .int .i64 k.cP, .int .i64 k.cA, .int .i64 k.cB, .int .i64 k.cN, .int .i64 k.cX, .int .i64 k.cY, .int .i64 k.q.x, .int .i64 k.q.y, .bool k.q.far, .int .i64 k.dP, .int .i64 k.dD, .int .i64 k.dL, .int .i64 k.dX, .int .i64 k.dY, .int .i64 k.a.x, .int .i64 k.a.y] := (Blk.set (Blk.set HO.out 17 _ (by simp)) 18 _ (by simp))
 have hQ2 : Blk ((w5.setCell ⟨w.heap.size + 1 + 1, 17, none⟩ (.int .i64 k.a.x)).setCell ⟨w.heap.size + 1 + 1, 18, none⟩ (.int .i64 k.a.y)) (w.heap.size + 1) [.int .i64 0, .slice none 0 0, .int .i64 0, .int .i64 0, .int .i64 0, .int .i64 0, .int .i64 0, .int .i64 0, .int .i64 0, .int .i64 0, .int .i64 0, .bool false, .int .i64 0, .int .i64 0, .int .i64 0, .int .i64 0, .int .i64 0, .int .i64 0, .int .i64 0] := (Blk.apart (Blk.apart HQ.out _ (by omega)) _ (by omega))
 have hW2 : Ext w ((w5.setCell ⟨w.heap.size + 1 + 1, 17, none⟩ (.int .i64 k.a.x)).setCell ⟨w.heap.size + 1 + 1, 18, none⟩ (.int .i64 k.a.y)) := (Below.setCell (Below.setCell HW.out (p := ⟨w.heap.size + 1 + 1, 17, none⟩) (Nat.le_succ_of_le (Nat.le_succ _)) _) (p := ⟨w.heap.size + 1 + 1, 18, none⟩) (Nat.le_succ_of_le (Nat.le_succ _)) _)
 have hS2 : Seg ((w5.setCell ⟨w.heap.size + 1 + 1, 17, none⟩ (.int .i64 k.a.x)).setCell ⟨w.heap.size + 1 + 1, 18, none⟩ (.int .i64 k.a.y)) (some ⟨R, 0, none⟩) R 0 k.n k.f := (Seg.apart (Seg.apart HSg.out _ HRn.out) _ HRn.out)
 have hld := run_loadKey [.int .i64 k.kind, .slice (some ⟨R, 0, none⟩) k.n k.n, .int .i64 k.e, .int .i64 k.cP, .int .i64 k.cA, .int .i64 k.cB, .int .i64 k.cN, .int .i64 k.cX, .int .i64 k.cY, .int .i64 k.q.x, .int .i64 k.q.y, .bool k.q.far, .int .i64 k.dP, .int .i64 k.dD, .int .i64 k.dL, .int .i64 k.dX, .int .i64 k.dY, .int .i64 k.a.x, .int .i64 k.a.y] rfl (w.heap.size + 1 + 1) ((w5.setCell ⟨w.heap.size + 1 + 1, 17, none⟩ (.int .i64 k.a.x)).setCell ⟨w.heap.size + 1 + 1, 18, none⟩ (.int .i64 k.a.y)) (fun j v h => (hO2 j v h).1)
 have hst := run_storeKey [.int .i64 k.kind, .slice (some ⟨R, 0, none⟩) k.n k.n, .int .i64 k.e, .int .i64 k.cP, .int .i64 k.cA, .int .i64 k.cB, .int .i64 k.cN, .int .i64 k.cX, .int .i64 k.cY, .int .i64 k.q.x, .int .i64 k.q.y, .bool k.q.far, .int .i64 k.dP, .int .i64 k.dD, .int .i64 k.dL, .int .i64 k.dX, .int .i64 k.dY, .int .i64 k.a.x, .int .i64 k.a.y] rfl (by simp [Value.oneCell']) (w.heap.size + 1) ((w5.setCell ⟨w.heap.size + 1 + 1, 17, none⟩ (.int .i64 k.a.x)).setCell ⟨w.heap.size + 1 + 1, 18, none⟩ (.int .i64 k.a.y)) hQ2 rfl
 have hB3 := Blk.putAll (vs := [.int .i64 k.kind, .slice (some ⟨R, 0, none⟩) k.n k.n, .int .i64 k.e, .int .i64 k.cP, .int .i64 k.cA, .int .i64 k.cB, .int .i64 k.cN, .int .i64 k.cX, .int .i64 k.cY, .int .i64 k.q.x, .int .i64 k.q.y, .bool k.q.far, .int .i64 k.dP, .int .i64 k.dD, .int .i64 k.dL, .int .i64 k.dX, .int .i64 k.dY, .int .i64 k.a.x, .int .i64 k.a.y]) hQ2 rfl
 have HW3 := hide (below_putL (Nat.le_succ _) [.int .i64 k.kind, .slice (some ⟨R, 0, none⟩) k.n k.n, .int .i64 k.e, .int .i64 k.cP, .int .i64 k.cA, .int .i64 k.cB, .int .i64 k.cN, .int .i64 k.cX, .int .i64 k.cY, .int .i64 k.q.x, .int .i64 k.q.y, .bool k.q.far, .int .i64 k.dP, .int .i64 k.dD, .int .i64 k.dL, .int .i64 k.dX, .int .i64 k.dY, .int .i64 k.a.x, .int .i64 k.a.y] 0 _ hW2)
 have HS3 := hide (Seg.putAll [.int .i64 k.kind, .slice (some ⟨R, 0, none⟩) k.n k.n, .int .i64 k.e, .int .i64 k.cP, .int .i64 k.cA, .int .i64 k.cB, .int .i64 k.cN, .int .i64 k.cX, .int .i64 k.cY, .int .i64 k.q.x, .int .i64 k.q.y, .bool k.q.far, .int .i64 k.dP, .int .i64 k.dD, .int .i64 k.dL, .int .i64 k.dX, .int .i64 k.dY, .int .i64 k.a.x, .int .i64 k.a.y] hS2 HRq.out)
 have HB3 := hide hB3
 clear hQ2 hW2 hS2 hO2 hB3
 go_wp2_with (first | (refine wpList_load_on (by first | rfl | simp [Region.wanted, yielded]) 51 _ rfl _ rfl _ hld ?_) | (refine wpList_store_on (by first | rfl | simp [Region.wanted, yielded]) 51 _ _ rfl _ rfl _ rfl _ hst ?_))
 refine bodyPost_ret (v := .agg #[.int .i64 k.kind, .slice (some ⟨R, 0, none⟩) k.n k.n, .int .i64 k.e, .int .i64 k.cP, .int .i64 k.cA, .int .i64 k.cB, .int .i64 k.cN, .int .i64 k.cX, .int .i64 k.cY, .int .i64 k.q.x, .int .i64 k.q.y, .bool k.q.far, .int .i64 k.dP, .int .i64 k.dD, .int .i64 k.dL, .int .i64 k.dX, .int .i64 k.dY, .int .i64 k.a.x, .int .i64 k.a.y]) (results_cell Tryz.results27 rfl (run_loadKey [.int .i64 k.kind, .slice (some ⟨R, 0, none⟩) k.n k.n, .int .i64 k.e, .int .i64 k.cP, .int .i64 k.cA, .int .i64 k.cB, .int .i64 k.cN, .int .i64 k.cX, .int .i64 k.cY, .int .i64 k.q.x, .int .i64 k.q.y, .bool k.q.far, .int .i64 k.dP, .int .i64 k.dD, .int .i64 k.dL, .int .i64 k.dX, .int .i64 k.dY, .int .i64 k.a.x, .int .i64 k.a.y] rfl (w.heap.size + 1) _ (fun j v h => (HB3.out j v h).1))) rfl ?_
 exact ⟨R, rfl, HR.out, HS3.out, HW3.out⟩
set_option maxHeartbeats 1600000 in
theorem eqCurve_same (a b c d e f : Int) (w : World) : Calls Tryz.prog 69 #[.agg #[.int .i64 a, .int .i64 b, .int .i64 c, .int .i64 d, .int .i64 e, .int .i64 f], .agg #[.int .i64 a, .int .i64 b, .int .i64 c, .int .i64 d, .int .i64 e, .int .i64 f]] w fun r w' => r = .returned (.bool true) ∧ Ext w w' := by
 go_enter Tryz.func69, Tryz.ntmps69
 go_wp2
 go_ret
 exact ⟨rfl, Ext.trans (Ext.alloc _ _) (Ext.alloc _ _)⟩
set_option maxHeartbeats 1600000 in
theorem eqEd_same (a b c d e : Int) (w : World) : Calls Tryz.prog 71 #[.agg #[.int .i64 a, .int .i64 b, .int .i64 c, .int .i64 d, .int .i64 e], .agg #[.int .i64 a, .int .i64 b, .int .i64 c, .int .i64 d, .int .i64 e]] w fun r w' => r = .returned (.bool true) ∧ Ext w w' := by
 go_enter Tryz.func71, Tryz.ntmps71
 go_wp2
 go_ret
 exact ⟨rfl, Ext.trans (Ext.alloc _ _) (Ext.alloc _ _)⟩
set_option maxHeartbeats 6400000 in
set_option maxRecDepth 100000 in
theorem eqKey_same (k : Ky) (ad : Option Addr) (b off cap : Nat) (ad2 : Option Addr) (b2 off2 cap2 : Nat) (w : World) (hs : Seg w ad b off k.n k.f) (hs2 : Seg w ad2 b2 off2 k.n k.f) (hn : k.n ≤ 1048576) :
  Calls Tryz.prog 37 #[.agg #[.int .i64 k.kind, .slice ad k.n cap, .int .i64 k.e, .int .i64 k.cP, .int .i64 k.cA, .int .i64 k.cB, .int .i64 k.cN, .int .i64 k.cX, .int .i64 k.cY, .int .i64 k.q.x, .int .i64 k.q.y, .bool k.q.far, .int .i64 k.dP, .int .i64 k.dD, .int .i64 k.dL, .int .i64 k.dX, .int .i64 k.dY, .int .i64 k.a.x, .int .i64 k.a.y], .agg #[.int .i64 k.kind, .slice ad2 k.n cap2, .int .i64 k.e, .int .i64 k.cP, .int .i64 k.cA, .int .i64 k.cB, .int .i64 k.cN, .int .i64 k.cX, .int .i64 k.cY, .int .i64 k.q.x, .int .i64 k.q.y, .bool k.q.far, .int .i64 k.dP, .int .i64 k.dD, .int .i64 k.dL, .int .i64 k.dX, .int .i64 k.dY, .int .i64 k.a.x, .int .i64 k.a.y]] w fun e w' => e = .returned (.bool true) ∧ Ext w w' := by
 obtain ⟨V, hV⟩ : ∃ V, (w.alloc (.cells #[.int .i64 k.kind, .slice ad k.n cap, .int .i64 k.e, .int .i64 k.cP, .int .i64 k.cA, .int .i64 k.cB, .int .i64 k.cN, .int .i64 k.cX, .int .i64 k.cY, .int .i64 k.q.x, .int .i64 k.q.y, .bool k.q.far, .int .i64 k.dP, .int .i64 k.dD, .int .i64 k.dL, .int .i64 k.dX, .int .i64 k.dY, .int .i64 k.a.x, .int .i64 k.a.y] 51)).alloc (.cells #[.int .i64 k.kind, .slice ad2 k.n cap2, .int .i64 k.e, .int .i64 k.cP, .int .i64 k.cA, .int .i64 k.cB, .int .i64 k.cN, .int .i64 k.cX, .int .i64 k.cY, .int .i64 k.q.x, .int .i64 k.q.y, .bool k.q.far, .int .i64 k.dP, .int .i64 k.dD, .int .i64 k.dL, .int .i64 k.dX, .int .i64 k.dY, .int .i64 k.a.x, .int .i64 k.a.y] 51) = V := ⟨_, rfl⟩
 obtain ⟨B0, B1, hE, -⟩ := box2 w [.int .i64 k.kind, .slice ad k.n cap, .int .i64 k.e, .int .i64 k.cP, .int .i64 k.cA, .int .i64 k.cB, .int .i64 k.cN, .int .i64 k.cX, .int .i64 k.cY, .int .i64 k.q.x, .int .i64 k.q.y, .bool k.q.far, .int .i64 k.dP, .int .i64 k.dD, .int .i64 k.dL, .int .i64 k.dX, .int .i64 k.dY, .int .i64 k.a.x, .int .i64 k.a.y] [.int .i64 k.kind, .slice ad2 k.n cap2, .int .i64 k.e, .int .i64 k.cP, .int .i64 k.cA, .int .i64 k.cB, .int .i64 k.cN, .int .i64 k.cX, .int .i64 k.cY, .int .i64 k.q.x, .int .i64 k.q.y, .bool k.q.far, .int .i64 k.dP, .int .i64 k.dD, .int .i64 k.dL, .int .i64 k.dX, .int .i64 k.dY, .int .i64 k.a.x, .int .i64 k.a.y] 51 51 (w1 := V) (by rw [← hV]; exact Ext.refl _)
 have HEq : Hid (Calls Tryz.prog 13 #[.slice ad k.n cap, .slice ad2 k.n cap2] V fun e w' => e = .returned (.bool true) ∧ Ext V w') := (eqIntS_any ad b off k.n cap k.f ad2 b2 off2 k.n cap2 k.f V (hs.of_all hE) (hs2.of_all hE) hn).mono fun e w' ⟨h1, q, h2⟩ => ⟨by rw [h1, alike_refl], by rw [h2]; exact ⟨rfl, rfl, rfl, Nat.le_refl _, fun _ _ => rfl⟩⟩
 have HX := hide hE
 have HA := hide B0
 have HB := hide B1
 clear B0 B1 hE hs hs2
 have n0 : (k.kind != k.kind) = false := by simp
 have n2 : (k.e != k.e) = false := by simp
 have c0 := (HA.out 0 _ rfl).1
 have d0 := (HB.out 0 _ rfl).1
 have c1 := (HA.out 1 _ rfl).1
 have d1 := (HB.out 1 _ rfl).1
 go_enter Tryz.func37, Tryz.ntmps37
 go_wp2_with fail
 refine (HEq.out).mono ?_
 rintro e W ⟨rfl, hEW⟩
 clear c0 d0 c1 d1
 replace HX := hide (Ext.trans HX.out hEW)
 replace HA := hide (Blk.ext HA.out hEW (World.block_lt_of_cell? _ _ (HA.out 0 _ rfl).1))
 replace HB := hide (Blk.ext HB.out hEW (World.block_lt_of_cell? _ _ (HB.out 0 _ rfl).1))
 clear hEW
 have c2 := (HA.out 2 _ rfl).1
 have d2 := (HB.out 2 _ rfl).1
 have c3 := (HA.out 3 _ rfl).1
 have d3 := (HB.out 3 _ rfl).1
 have c4 := (HA.out 4 _ rfl).1
 have d4 := (HB.out 4 _ rfl).1
 have c5 := (HA.out 5 _ rfl).1
 have d5 := (HB.out 5 _ rfl).1
 have c6 := (HA.out 6 _ rfl).1
 have d6 := (HB.out 6 _ rfl).1
 have c7 := (HA.out 7 _ rfl).1
 have d7 := (HB.out 7 _ rfl).1
 have c8 := (HA.out 8 _ rfl).1
 have d8 := (HB.out 8 _ rfl).1
 go_wp2_with fail
 refine (eqCurve_same k.cP k.cA k.cB k.cN k.cX k.cY _).mono ?_
 rintro e W ⟨rfl, hEW⟩
 clear c2 d2 c3 d3 c4 d4 c5 d5 c6 d6 c7 d7 c8 d8
 replace HX := hide (Ext.trans HX.out hEW)
 replace HA := hide (Blk.ext HA.out hEW (World.block_lt_of_cell? _ _ (HA.out 0 _ rfl).1))
 replace HB := hide (Blk.ext HB.out hEW (World.block_lt_of_cell? _ _ (HB.out 0 _ rfl).1))
 clear hEW
 have c9 := (HA.out 9 _ rfl).1
 have d9 := (HB.out 9 _ rfl).1
 have c10 := (HA.out 10 _ rfl).1
 have d10 := (HB.out 10 _ rfl).1
 have c11 := (HA.out 11 _ rfl).1
 have d11 := (HB.out 11 _ rfl).1
 go_wp2_with fail
 refine (eqPoint_same k.q.x k.q.y k.q.far _).mono ?_
 rintro e W ⟨rfl, hEW⟩
 clear c9 d9 c10 d10 c11 d11
 replace HX := hide (Ext.trans HX.out hEW)
 replace HA := hide (Blk.ext HA.out hEW (World.block_lt_of_cell? _ _ (HA.out 0 _ rfl).1))
 replace HB := hide (Blk.ext HB.out hEW (World.block_lt_of_cell? _ _ (HB.out 0 _ rfl).1))
 clear hEW
 have c12 := (HA.out 12 _ rfl).1
 have d12 := (HB.out 12 _ rfl).1
 have c13 := (HA.out 13 _ rfl).1
 have d13 := (HB.out 13 _ rfl).1
 have c14 := (HA.out 14 _ rfl).1
 have d14 := (HB.out 14 _ rfl).1
 have c15 := (HA.out 15 _ rfl).1
 have d15 := (HB.out 15 _ rfl).1
 have c16 := (HA.out 16 _ rfl).1
 have d16 := (HB.out 16 _ rfl).1
 go_wp2_with fail
 refine (eqEd_same k.dP k.dD k.dL k.dX k.dY _).mono ?_
 rintro e W ⟨rfl, hEW⟩
 clear c12 d12 c13 d13 c14 d14 c15 d15 c16 d16
 replace HX := hide (Ext.trans HX.out hEW)
 replace HA := hide (Blk.ext HA.out hEW (World.block_lt_of_cell? _ _ (HA.out 0 _ rfl).1))
 replace HB := hide (Blk.ext HB.out hEW (World.block_lt_of_cell? _ _ (HB.out 0 _ rfl).1))
 clear hEW
 have c17 := (HA.out 17 _ rfl).1
 have d17 := (HB.out 17 _ rfl).1
 have c18 := (HA.out 18 _ rfl).1
 have d18 := (HB.out 18 _ rfl).1
 go_wp2_with fail
 refine (eqPair_same k.a.x k.a.y _).mono ?_
 rintro e W ⟨rfl, hEW⟩
 clear c17 d17 c18 d18
 replace HX := hide (Ext.trans HX.out hEW)
 replace HA := hide (Blk.ext HA.out hEW (World.block_lt_of_cell? _ _ (HA.out 0 _ rfl).1))
 replace HB := hide (Blk.ext HB.out hEW (World.block_lt_of_cell? _ _ (HB.out 0 _ rfl).1))
 clear hEW
 go_wp2
 go_ret
 exact ⟨rfl, HX.out⟩
end
end Go.Proofs.YtfhiiakoilkbkaaGreatDoor
