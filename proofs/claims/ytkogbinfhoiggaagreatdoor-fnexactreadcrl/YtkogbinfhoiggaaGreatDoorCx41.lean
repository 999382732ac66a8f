/- Walks: the program reads a list of what is void out of pieces. Walks: the face of ReadCrl, which recovers from every panic. What is read of a list of what is void: plain. -/
import Derived.Test.YtkogbinfhoiggaaGreatDoorCx40
namespace Go.Proofs.YtkogbinfhoiggaaGreatDoor
set_option linter.unusedVariables false
set_option linter.unusedSimpArgs false
section
open Go.RowKit
theorem row_at {w : World} {B n cap b : Nat} {e : TypeId} {xs : List Value} (h : w.ownsRow B e 1 (.slice (some ⟨b, 0, none⟩) n cap) n xs) : B ≤ b ∧ b < w.heap.size ∧ ∀ j v, j < n → xs[j]? = some v → w.cell? ⟨b, 0 + j, none⟩ = some v ∧ w.frozen? ⟨b, 0 + j, none⟩ = false := by
 have h' := h
 rcases h.2 with ⟨h0, _⟩ | ⟨g', cap', cur, hv, hb, hg, h1, h2, h3, h4⟩
 ·simp at h0
 ·simp only [Value.slice.injEq, Option.some.injEq, Addr.mk.injEq] at hv
  obtain ⟨⟨rfl, -, -⟩, -, rfl⟩ := hv
  refine ⟨hb, (Array.getElem?_eq_some_iff.1 hg).1, fun j v hj hv => ⟨?_, ?_⟩⟩
  ·rw [Nat.zero_add, World.ownsRow.cellAt h' j (by simpa using hj)]
   exact hv
  ·simp [World.frozen?, hg]
def ivv : Value → Int
 | .int _ z => z
 | _ => 0
structure SameL (c d : Cl) : Prop where
 ni : c.ni = d.ni
 fi : ∀ j, j < c.ni → c.fi j = d.fi j
 fr : c.fr = d.fr
 to : c.to = d.to
 alg : c.alg = d.alg
 nv : c.nv = d.nv
 fv : ∀ j, j < c.nv → c.fv j = d.fv j
 ng : c.ng = d.ng
 fg : ∀ j, j < c.ng → c.fg j = d.fg j
structure CrlV (x : Nat → It) (n : Nat) (c : Cl) : Prop where
 ni : c.ni = (x (kpl x n 1 1)).kid.toNat
 fi : ∀ j, j < c.ni → c.fi j = txS (x (kpl x n (kpl x n 1 1) j))
 fr : c.fr = rdV (txS (x (kpl x n (kpl x n 1 2) 0)))
 to : c.to = rdV (txS (x (kpl x n (kpl x n 1 2) 1)))
 alg : I64 c.alg ∧ ∀ k, I64 k → ct (x (kpl x n 1 0)) = intC k → c.alg = k
 nv : c.nv = (x (kpl x n 1 3)).kid.toNat
 fv : ∀ j, j < c.nv → I64 (c.fv j) ∧ ∀ k, I64 k → ct (x (kpl x n (kpl x n 1 3) j)) = intC k → c.fv j = k
 ng : c.ng = (x (kpl x n 0 1)).len - 1
 fg : c.fg = fun i => (x (kpl x n 0 1)).f (i + 1)
theorem bits_of {t : It} {g : Nat} {f : Nat → Int} (h : ct t = ⟨3, 0, 0 :: (List.range g).map f⟩) : mdT t.tag = false ∧ t.len = g + 1 ∧ ∀ i, i < g → t.f (i + 1) = f i := by
 have h1 : t.tag = 3 := congrArg Ic.tag h
 have hb : (List.range t.len).map t.f = 0 :: (List.range g).map f := congrArg Ic.bd h
 have hl : t.len = g + 1 := by have := congrArg List.length hb; simpa using this
 refine ⟨by unfold mdT; rw [h1]; decide, hl, fun i hi => ?_⟩
 have := congrArg (fun L : List Int => L[i + 1]?) hb
 simp only [List.getElem?_cons_succ, List.getElem?_map, List.getElem?_range (show i + 1 < t.len by omega), List.getElem?_range hi, Option.map_some, Option.some.injEq] at this
 exact this
theorem small64 {z : Int} (h0 : 1 ≤ z) (h1 : z ≤ 1000000000000000) : I64 z := ⟨by omega, by omega⟩
theorem CrlV.same {x : Nat → It} {n : Nat} {c d : Cl} (h : CrlV x n c) (L : LayC x n d) (O : ClOk d) : SameL c d := by
 have e1 : c.ni = d.ni := by rw [h.ni, L.q1, L.nk]
 have e2 : c.nv = d.nv := by rw [h.nv, L.q3, L.sk]
 obtain ⟨-, b1, b2⟩ := bits_of L.b
 have e3 : c.ng = d.ng := by rw [h.ng, L.rz, b1]; omega
 refine ⟨e1, fun j hj => ?_, ?_, ?_, ?_, e2, fun j hj => ?_, e3, fun j hj => ?_⟩
 ·rw [h.fi j hj, L.q1, L.np j (by omega), txS_of (L.nt j (by omega))]
 ·rw [h.fr, L.q2, L.tp 0 (by omega), Nat.add_zero]; exact L.t1.2.2
 ·rw [h.to, L.q2, L.tp 1 (by omega), show 5 + d.ni + 1 = 6 + d.ni by omega]; exact L.t2.2.2
 ·exact h.alg.2 _ (small64 O.alg.1 (by have := O.alg.2; omega)) (by rw [L.q0]; exact L.i2)
 ·refine (h.fv j hj).2 _ (small64 (O.fv j (by omega)).1 (O.fv j (by omega)).2) ?_
  rw [L.q3, L.sp j (by omega)]
  exact L.st j (by omega)
 ·rw [h.fg, L.rz]
  exact b2 j (by omega)
def CrlP (x : Nat → It) (n : Nat) : Prop := ∃ d, ClOk d ∧ LayC x n d
theorem CrlP.p1 {x : Nat → It} {n : Nat} (h : CrlP x n) : mdT (x 0).tag = true ∧ 2 ≤ (x 0).kid.toNat := by
 obtain ⟨d, O, L⟩ := h
 exact ⟨L.r0, by rw [L.rk]; exact Nat.le_refl _⟩
theorem CrlP.p2 {x : Nat → It} {n : Nat} (h : CrlP x n) : mdT (x 1).tag = true ∧ 4 ≤ (x 1).kid.toNat := by
 obtain ⟨d, O, L⟩ := h
 exact ⟨L.a0, by rw [L.ak]; exact Nat.le_refl _⟩
theorem CrlP.p3 {x : Nat → It} {n : Nat} (h : CrlP x n) : (mdT (x (kpl x n 1 2)).tag = true ∧ 2 ≤ (x (kpl x n 1 2)).kid.toNat) ∧ TimP (x (kpl x n (kpl x n 1 2) 0)) ∧ TimP (x (kpl x n (kpl x n 1 2) 1)) := by
 obtain ⟨d, O, L⟩ := h
 rw [L.q2, L.tp 0 (by omega), L.tp 1 (by omega), Nat.add_zero, show 5 + d.ni + 1 = 6 + d.ni by omega]
 exact ⟨⟨L.t0, by rw [L.tk]; exact Nat.le_refl _⟩, ⟨L.t1.1, L.t1.2.1⟩, ⟨L.t2.1, L.t2.2.1⟩⟩
theorem CrlP.p4 {x : Nat → It} {n : Nat} (h : CrlP x n) : NumP (x (kpl x n 1 0)) := by
 obtain ⟨d, O, L⟩ := h
 exact ⟨d.alg, small64 O.alg.1 (by have := O.alg.2; omega), by rw [L.q0]; exact L.i2⟩
theorem CrlP.p5 {x : Nat → It} {n : Nat} (h : CrlP x n) : mdT (x (kpl x n 1 1)).tag = true ∧ ∀ j, j < (x (kpl x n 1 1)).kid.toNat → TxtP (x (kpl x n (kpl x n 1 1) j)) := by
 obtain ⟨d, O, L⟩ := h
 rw [L.q1]
 refine ⟨L.n0, fun j hj => ?_⟩
 rw [L.nk] at hj
 rw [L.np j (by omega)]
 have h1 : (x (4 + j)).tag = 12 := congrArg Ic.tag (L.nt j hj)
 unfold TxtP mdT
 rw [h1]
 decide
theorem CrlP.p6 {x : Nat → It} {n : Nat} (h : CrlP x n) : mdT (x (kpl x n 1 3)).tag = true ∧ ∀ j, j < (x (kpl x n 1 3)).kid.toNat → NumP (x (kpl x n (kpl x n 1 3) j)) := by
 obtain ⟨d, O, L⟩ := h
 rw [L.q3]
 refine ⟨L.s0, fun j hj => ?_⟩
 rw [L.sk] at hj
 rw [L.sp j (by omega)]
 exact ⟨d.fv j, small64 (O.fv j hj).1 (O.fv j hj).2, L.st j hj⟩
theorem CrlP.p7 {x : Nat → It} {n : Nat} (h : CrlP x n) : BitP (x (kpl x n 0 1)) := by
 obtain ⟨d, O, L⟩ := h
 rw [L.rz]
 obtain ⟨b0, b1, -⟩ := bits_of L.b
 exact ⟨b0, by omega⟩
def CrlG (x : Nat → It) (n : Nat) (w : World) (u : Value) (w' : World) : Prop :=
 ∃ (c : Cl) (m : ClPl), u = .agg (clL c m).toArray ∧ CrlV x n c ∧ (SSeg w' m.i.ad m.i.b m.i.off c.ni c.fi ∧ SAny w' m.i.ad m.i.b m.i.off c.ni) ∧ Own w' m.v.ad m.v.b m.v.off c.nv c.fv ∧ BOwn w' m.g.ad m.g.b m.g.off c.ng c.fg ∧
  m.g.b = (x (kpl x n 0 1)).blk ∧ 0 < (x (kpl x n 0 1)).len ∧ w.heap.size ≤ m.i.b ∧ m.i.b < m.v.b ∧ m.v.b < w'.heap.size ∧ c.ni ≤ 300 ∧ c.nv ≤ 300
theorem PieAt.isIface {x : Nat → It} {n : Nat} {w : World} {m B : Nat} {v : Value} {i : Nat} (h : PieAt x n w m B v i) : ∃ t u, v = .iface t u := by
 cases m with
 | zero => exact h.elim
 | succ m =>
  rcases h.2 with ⟨-, rfl⟩ | ⟨-, b, -, -, rfl, -⟩
  ·exact ⟨_, _, rfl⟩
  ·exact ⟨_, _, rfl⟩
theorem PieAt.lt {x : Nat → It} {n : Nat} {w : World} {m B : Nat} {v : Value} {i : Nat} (h : PieAt x n w m B v i) : i < n := by
 cases m with
 | zero => exact h.elim
 | succ m => exact h.1
theorem names_of {x : Nat → It} {n i : Nat} {w u : World} {v : Value} (h : GivesTp x n i w v u) : ∃ b K f, v = .slice (some ⟨b, 0, none⟩) K K ∧ K = (x i).kid.toNat ∧ (∀ j, j < K → f j = txS (x (kpl x n i j))) ∧ SSeg u (some ⟨b, 0, none⟩) b 0 K f ∧ SAny u (some ⟨b, 0, none⟩) b 0 K ∧ w.heap.size ≤ b ∧ b < u.heap.size := by
 obtain ⟨xs, rfl, ho, hx⟩ := h
 obtain ⟨h1, h2, h3⟩ := row_at ho
 have hc : ∀ j, j < (x i).kid.toNat → u.cell? ⟨w.heap.size, 0 + j, none⟩ = some (.string (txS (x (kpl x n i j)))) ∧ u.frozen? ⟨w.heap.size, 0 + j, none⟩ = false := fun j hj => by
  obtain ⟨y, hy, rfl⟩ := hx j hj
  exact h3 j _ hj hy
 exact ⟨_, _, fun j => txS (x (kpl x n i j)), rfl, rfl, fun _ _ => rfl, ⟨fun _ => rfl, fun j hj => (hc j hj).1⟩, ⟨fun _ => rfl, fun j hj => ⟨_, (hc j hj).1⟩, fun j hj => (hc j hj).2⟩, h1, h2⟩
theorem nums_of {x : Nat → It} {n i : Nat} {w u : World} {v : Value} (h : GivesNp x n i w v u) : ∃ b K f, v = .slice (some ⟨b, 0, none⟩) K K ∧ K = (x i).kid.toNat ∧ (∀ j, j < K → I64 (f j) ∧ ∀ k, I64 k → ct (x (kpl x n i j)) = intC k → f j = k) ∧ Own u (some ⟨b, 0, none⟩) b 0 K f ∧ w.heap.size ≤ b ∧ b < u.heap.size := by
 obtain ⟨xs, rfl, ho, hx⟩ := h
 obtain ⟨h1, h2, h3⟩ := row_at ho
 have hc : ∀ j, j < (x i).kid.toNat → (u.cell? ⟨w.heap.size, 0 + j, none⟩ = some (.int .i64 (ivv (xs[j]?.getD (.bool false)))) ∧ u.frozen? ⟨w.heap.size, 0 + j, none⟩ = false) ∧ I64 (ivv (xs[j]?.getD (.bool false))) ∧ ∀ k, I64 k → ct (x (kpl x n i j)) = intC k → ivv (xs[j]?.getD (.bool false)) = k := fun j hj => by
  obtain ⟨y, hy, z, rfl, hz1, hz2⟩ := hx j hj
  have e : ivv (xs[j]?.getD (.bool false)) = z := by rw [hy]; rfl
  rw [e]
  exact ⟨h3 j _ hj hy, hz1, hz2⟩
 exact ⟨_, _, fun j => ivv (xs[j]?.getD (.bool false)), rfl, rfl, fun j hj => (hc j hj).2, ⟨⟨fun _ => rfl, fun j hj => (hc j hj).1.1⟩, fun j hj => (hc j hj).1.2⟩, h1, h2⟩
theorem Own.kpR {N : Nat} {w w' : World} {a : Option Addr} {b off n : Nat} {f : Nat → Int} (h : Own w a b off n f) (hb : N ≤ b) (k : Kp N w w') : Own w' a b off n f :=
 ⟨h.toSeg.kp hb k, fun i hi => (World.frozen?_of_block (a := ⟨b, off + i, none⟩) (k.2 b hb (h.toSeg.lt (by omega)))).trans (h.free i hi)⟩
theorem BOwn.blkR {w w' : World} {a : Option Addr} {b o n : Nat} {f : Nat → Int} (h : BOwn w a b o n f) (hb : 0 < n → w'.heap[b]? = w.heap[b]?) : BOwn w' a b o n f :=
 ⟨⟨h.at', fun i hi => (World.cell?_of_block (a := ⟨b, o + i, none⟩) (hb (by omega))).trans (h.cell i hi)⟩, fun i hi => (World.frozen?_of_block (a := ⟨b, o + i, none⟩) (hb (by omega))).trans (h.free i hi)⟩
set_option maxHeartbeats 6400000 in
set_option maxRecDepth 100000 in
theorem readCrl_any {x : Nat → It} {n : Nat} {w : World} {m B : Nat} {v : Value} (hP : PieAt x n w (m + 4) B v 0) (hX : Rdx x n w) (hT : Tbl w) (hK : ∀ i, i < n → (x i).kid.toNat ≤ 300) :
  Calls Tryz.prog 24 #[v] w (OrP w (CrlP x n) (fun u w' => CrlG x n w u w')) := by
 obtain ⟨V, hV⟩ : ∃ V, w.alloc (.cells #[.slice none 0 0, .int .i64 0, .int .i64 0, .int .i64 0, .slice none 0 0, .slice none 0 0] 26) = V := ⟨_, rfl⟩
 obtain ⟨B0, hE, hsz⟩ := box1 w [.slice none 0 0, .int .i64 0, .int .i64 0, .int .i64 0, .slice none 0 0, .slice none 0 0] 26 (w1 := V) (by rw [← hV]; exact Ext.refl _)
 have HBx := hide B0
 have HE := hide hE
 have HV := hide (show w.heap.size < V.heap.size from hsz)
 have HX0 := hide hX
 have HX := hide (hX.ext hE)
 have HT := hide (hT.ext hE)
 have HK := hide hK
 have HB := hide (partsOf_any (hP.ext hE) 2 (by decide) (hK 0 hP.lt))
 clear hP hX hT hK B0 hE hsz
 go_enter Tryz.func24, Tryz.ntmps24
 go_wp2_with fail
 refine HB.out.mono ?_
 rintro e w1 ⟨hE1, ⟨u, rfl, ⟨b1, hb1, hl1, rfl, hc1⟩, h1, h2⟩ | ⟨⟨ch, rfl⟩, hno⟩⟩
 ·obtain ⟨u0, c0, p0⟩ := hc1 0 (by omega)
  obtain ⟨u1, c1, p1⟩ := hc1 1 (by omega)
  have HE1 := hide hE1
  have hne1 : b1 ≠ w.heap.size := fun h => by
   subst h
   obtain ⟨t, y, rfl⟩ := p0.isIface
   have := (HBx.out.ext hE1 HV.out 0 _ rfl).1
   rw [c0] at this
   cases this
  replace p0 : PieAt x n w1 (m + 3) (b1 + 1) u0 1 := p0
  have HC1 := hide (partsOf_any p0 4 (by decide) (HK.out 1 p0.lt))
  have Hc1 := hide c1
  have Hp1 := hide p1
  have Hn1 := hide hne1
  have i0 : 0 < (x 0).kid.toNat := by omega
  have I1 : Hid ((1 : Int) < ((x 0).kid.toNat : Int)) := hide (by omega)
  generalize (x 0).kid.toNat = K0 at *
  clear hE1 hc1 p1 c1 h1 h2 HB hne1 p0
  go_wp2_with fail
  refine HC1.out.mono ?_
  rintro e w2 ⟨hE2, ⟨u, rfl, ⟨b2, hb2, hl2, rfl, hc2⟩, h1, h2⟩ | ⟨⟨ch, rfl⟩, hno⟩⟩
  ·obtain ⟨v0, a0, q0⟩ := hc2 0 (by omega)
   obtain ⟨v1, a1, q1⟩ := hc2 1 (by omega)
   obtain ⟨v2, a2, q2⟩ := hc2 2 (by omega)
   obtain ⟨v3, a3, q3⟩ := hc2 3 (by omega)
   have hE := HE.out.trans (HE1.out.trans hE2)
   have hne2 : b2 ≠ w.heap.size := fun h => by
    subst h
    obtain ⟨t, y, rfl⟩ := q0.isIface
    have := (HBx.out.ext (HE1.out.trans hE2) HV.out 0 _ rfl).1
    rw [a0] at this
    cases this
   have HX2 := hide (HX.out.ext (HE1.out.trans hE2))
   have HT2 := hide (HT.out.ext (HE1.out.trans hE2))
   have HC2 := hide (readTimes_any q2 HX2.out HT2.out (HK.out _ q2.lt))
   have hk1 := HK.out _ q1.lt
   have hk3 := HK.out _ q3.lt
   have HD0 : Hid (∀ W, Ext w2 W → Calls Tryz.prog 51 #[v0] W (OrP W (NumP (x (kpl x n 1 0))) (fun u _ => NumR (x (kpl x n 1 0)) u))) := hide (fun W h => readInt_any (q0.ext h) (HX2.out.ext h))
   have HD1 : Hid (∀ W, Ext w2 W → Calls Tryz.prog 52 #[v1] W (OrP W (mdT (x (kpl x n 1 1)).tag = true ∧ ∀ j, j < (x (kpl x n 1 1)).kid.toNat → TxtP (x (kpl x n (kpl x n 1 1) j))) (fun u w' => ∃ w1, Ext W w1 ∧ GivesTp x n (kpl x n 1 1) w1 u w' ∧ mdT (x (kpl x n 1 1)).tag = true))) := hide (fun W h => readTexts_any (q1.ext h) (HX2.out.ext h) hk1)
   have HD3 : Hid (∀ W, Ext w2 W → Calls Tryz.prog 53 #[v3] W (OrP W (mdT (x (kpl x n 1 3)).tag = true ∧ ∀ j, j < (x (kpl x n 1 3)).kid.toNat → NumP (x (kpl x n (kpl x n 1 3) j))) (fun u w' => ∃ w1, Ext W w1 ∧ GivesNp x n (kpl x n 1 3) w1 u w' ∧ mdT (x (kpl x n 1 3)).tag = true))) := hide (fun W h => readInts_any (q3.ext h) (HX2.out.ext h) hk3)
   have HI := hide Hp1.out.lt
   have HD4 : Hid (∀ W, Ext w2 W → Calls Tryz.prog 54 #[u1] W (OrP W (BitP (x (kpl x n 0 1))) (fun u w' => BitR (x (kpl x n 0 1)) u w'))) := hide (fun W h => readBits_any (Hp1.out.ext (hE2.trans h)) (HX2.out.ext h))
   have HE2 := hide hE2
   have Hn2 := hide hne2
   have Ha0 := hide a0
   have Ha1 := hide a1
   have Ha3 := hide a3
   have HKk := hide (And.intro hk1 hk3)
   have HC := hide (Below.cell hE2 (p := ⟨b1, 1, none⟩) (World.block_lt_of_cell? _ _ Hc1.out) |>.trans Hc1.out)
   have J0 : Hid (0 < (x 1).kid.toNat) := hide (by omega)
   have J1 : Hid ((1 : Int) < ((x 1).kid.toNat : Int)) := hide (by omega)
   have i2 : (2 : Int) < ((x 1).kid.toNat : Int) := by omega
   have J3 : Hid ((3 : Int) < ((x 1).kid.toNat : Int)) := hide (by omega)
   generalize (x 1).kid.toNat = K1 at *
   clear hE hE2 hc2 q0 q1 q2 q3 h1 h2 hne2 a0 a1 a3 hk1 hk3 Hp1 Hc1 HX HT HC1
   go_wp2_with fail
   refine HC2.out.mono ?_
   rintro e w3 ⟨hE3, ⟨u, rfl, ta, tb, rfl, hta, htb, h1, h2⟩ | ⟨⟨ch, rfl⟩, hno⟩⟩
   ·have HE3 := hide (HE2.out.trans hE3)
    have hE3' := hE3
    obtain ⟨z1, hz1⟩ : ∃ z, rdV (txS (x (kpl x n (kpl x n 1 2) 0))) = z := ⟨_, rfl⟩
    obtain ⟨z2, hz2⟩ : ∃ z, rdV (txS (x (kpl x n (kpl x n 1 2) 1))) = z := ⟨_, rfl⟩
    have hta' : ta = .int .i64 (rdV (txS (x (kpl x n (kpl x n 1 2) 0)))) := hta
    have htb' : tb = .int .i64 (rdV (txS (x (kpl x n (kpl x n 1 2) 1)))) := htb
    rw [hz1] at hta'
    rw [hz2] at htb'
    subst hta'
    subst htb'
    have Hz := hide (And.intro hz1 hz2)
    have d1 := fun p : ReC (fun k => k = w.heap.size) w3 => cell_reC ((Below.cell hE3 (p := ⟨b1, 1, none⟩) (World.block_lt_of_cell? _ _ HC.out)).trans HC.out) Hn1.out p
    have d20 := fun p : ReC (fun k => k = w.heap.size) w3 => cell_reC ((Below.cell hE3 (p := ⟨b2, 0, none⟩) (World.block_lt_of_cell? _ _ Ha0.out)).trans Ha0.out) Hn2.out p
    have d21 := fun p : ReC (fun k => k = w.heap.size) w3 => cell_reC ((Below.cell hE3 (p := ⟨b2, 1, none⟩) (World.block_lt_of_cell? _ _ Ha1.out)).trans Ha1.out) Hn2.out p
    have d23 := fun p : ReC (fun k => k = w.heap.size) w3 => cell_reC ((Below.cell hE3 (p := ⟨b2, 3, none⟩) (World.block_lt_of_cell? _ _ Ha3.out)).trans Ha3.out) Hn2.out p
    have i0' := J0.out
    have i1' := J1.out
    have i3' := J3.out
    have k1' := I1.out
    have HW3 := hide hE3
    clear hE3 hE3' hta htb h1 h2 hz1 hz2 HC2 a2 i0 i2
    go_wp2_with fail
    refine anyK_begin (fun k => k = w.heap.size) 20 rfl (by kernel_rfl) ?_
    refine anyK_take 0 3 17 rfl (by decide) (by kernel_rfl) (fun _ _ d _ _ h => by cases d <;> exact h) ?_
    repeat (refine headC_step (fun K hK => ?_); go_simp; refine hK _ ?_; clear hK K)
    refine headC_nil ?_
    refine anyK_take 4 3 14 rfl (by decide) (by kernel_rfl) (fun _ _ d _ _ h => by cases d <;> exact h) ?_
    repeat (refine headC_step (fun K hK => ?_); go_simp; refine hK _ ?_; clear hK K)
    refine headC_nil ?_
    refine anyK_take 8 2 12 rfl (by decide) (by kernel_rfl) (fun _ _ d _ _ h => by cases d <;> exact h) ?_
    repeat (refine headC_step (fun K hK => ?_); go_simp; refine hK _ ?_; clear hK K)
    refine headC_nil ?_
    refine anyK_take 10 3 9 rfl (by decide) (by kernel_rfl) (fun _ _ d _ _ h => by cases d <;> exact h) ?_
    repeat (refine headC_step (fun K hK => ?_); go_simp; refine hK _ ?_; clear hK K)
    refine headC_nil ?_
    refine anyK_take 14 3 6 rfl (by decide) (by kernel_rfl) (fun _ _ d _ _ h => by cases d <;> exact h) ?_
    repeat (refine headC_step (fun K hK => ?_); go_simp; refine hK _ ?_; clear hK K)
    refine headC_nil ?_
    clear d1 d20 d21 d23
    refine anyK_one 3 (by kernel_rfl) ?_
    refine stepK_run rfl ?_
    intro w4 h4 K2 hK2
    go_simp
    refine (HD0.out w4 (HW3.out.trans h4)).mono ?_
    rintro e w5 ⟨hE5, ⟨a, rfl, za, rfl, hza1, hza2⟩ | ⟨⟨ch, rfl⟩, hno⟩⟩
    ·have Ha := hide (And.intro hza1 hza2)
     have HE5 := hide (h4.trans hE5)
     try go_simp
     refine hK2 _ _ (Grw.of_ext HE5.out) ?_
     clear hK2 K2 h4 hE5 hza1 hza2 HD0
     refine anyK_one 7 (by kernel_rfl) ?_
     refine stepK_run rfl ?_
     intro w6 h6 K2 hK2
     go_simp
     refine (HD1.out w6 (HW3.out.trans (HE5.out.trans h6))).mono ?_
     rintro e w7 ⟨hE7, ⟨nm, rfl, wn, hwn, hgn, hn0⟩ | ⟨⟨ch, rfl⟩, hno⟩⟩
     ·obtain ⟨bn, Kn, fn, rfl, hKn, hfn, hsn, han, hbn, hbn'⟩ := names_of hgn
      have HN := hide (And.intro hKn (And.intro hfn (And.intro hsn (And.intro han (And.intro (Nat.le_trans (Below.size hwn) hbn) hbn')))))
      have HE7 := hide (HE5.out.trans (h6.trans hE7))
      have H6 := hide (HE5.out.trans h6)
      clear hwn hgn hn0 hKn hfn hsn han hbn hbn'
      try go_simp
      refine hK2 _ _ (Grw.of_ext HE7.out) ?_
      clear hK2 K2 h6 hE7 HD1
      refine anyK_one 13 (by kernel_rfl) ?_
      refine stepK_run rfl ?_
      intro w8 h8 K2 hK2
      go_simp
      refine (HD3.out w8 (HW3.out.trans (HE7.out.trans h8))).mono ?_
      rintro e w9 ⟨hE9, ⟨nm, rfl, wn2, hwn, hgn, hn0⟩ | ⟨⟨ch, rfl⟩, hno⟩⟩
      ·obtain ⟨bv, Kv, fv, rfl, hKv, hfv, hov, hbv, hbv'⟩ := nums_of hgn
       have HV9 := hide (And.intro hKv (And.intro hfv (And.intro hov (And.intro (Nat.le_trans (Below.size hwn) hbv) hbv'))))
       have HE9 := hide (HE7.out.trans (h8.trans hE9))
       have H8 := hide h8
       have H9 := hide (h8.trans hE9)
       clear hwn hgn hn0 hKv hfv hov hbv hbv'
       try go_simp
       refine hK2 _ _ (Grw.of_ext HE9.out) ?_
       clear hK2 K2 h8 hE9 HD3
       refine anyK_one 17 (by kernel_rfl) ?_
       refine stepK_run rfl ?_
       intro w10 h10 K2 hK2
       go_simp
       refine (HD4.out w10 (HW3.out.trans (HE9.out.trans h10))).mono ?_
       rintro e w11 ⟨hE11, ⟨u, rfl, ga, gc, rfl, hg0, hgo⟩ | ⟨⟨ch, rfl⟩, hno⟩⟩
       ·have HG := hide (And.intro hg0 hgo)
        have HE11 := hide (HE9.out.trans (h10.trans hE11))
        have H11 := hide (h10.trans hE11)
        obtain ⟨lg, hlg⟩ : ∃ l, (x (kpl x n 0 1)).len - 1 = l := ⟨_, rfl⟩
        rw [hlg] at HG ⊢
        have Hlg := hide hlg
        try go_simp
        refine hK2 _ _ (Grw.of_ext HE11.out) ?_
        clear hK2 K2 h10 hE11 hg0 hgo HD4 hlg
        refine anyK_take 18 1 1 rfl (by decide) (by kernel_rfl) (fun _ _ d _ _ h => by cases d <;> exact h) ?_
        repeat (refine headC_step (fun K hK => ?_); go_simp; refine hK _ ?_; clear hK K)
        refine headC_nil ?_
        refine anyK_one 19 (by kernel_rfl) ?_
        refine stepK_run rfl ?_
        intro w12 h12 K2 hK2
        have hEV : Ext V w12 := HE1.out.trans (HE3.out.trans (HE11.out.trans h12))
        have BZ := HBx.out.ext hEV HV.out
        have v0' := (BZ 0 _ rfl).1
        have v1' := (BZ 1 _ rfl).1
        have v2' := (BZ 2 _ rfl).1
        have v3' := (BZ 3 _ rfl).1
        have v4' := (BZ 4 _ rfl).1
        have v5' := (BZ 5 _ rfl).1
        have y0' := (BZ 0 _ rfl).2
        have y1' := (BZ 1 _ rfl).2
        have y2' := (BZ 2 _ rfl).2
        have y3' := (BZ 3 _ rfl).2
        have y4' := (BZ 4 _ rfl).2
        have y5' := (BZ 5 _ rfl).2
        have HBZ := hide BZ
        have HEV := hide hEV
        have H12 := hide h12
        clear BZ hEV h12
        go_simp
        refine hK2 _ _ (show Grw (fun k => k = w.heap.size) w3 (putL w.heap.size 0 [.slice (some ⟨bn, 0, none⟩) Kn Kn, .int .i64 z1, .int .i64 z2, .int .i64 za, .slice (some ⟨bv, 0, none⟩) Kv Kv, .slice ga lg gc] w12) from Grw.putL (X := fun k => k = w.heap.size) rfl _ _ _ (.of_ext (HE11.out.trans H12.out))) ?_
        clear hK2 K2 v0' v1' v2' v3' v4' v5' y0' y1' y2' y3' y4' y5'
        refine anyK_done (by kernel_rfl) ?_ 0
        intro w13 h13
        replace h13 : Ext (putL w.heap.size 0 [.slice (some ⟨bn, 0, none⟩) Kn Kn, .int .i64 z1, .int .i64 z2, .int .i64 za, .slice (some ⟨bv, 0, none⟩) Kv Kv, .slice ga lg gc] w12) w13 := h13
        have HKp := hide (show Kp (w.heap.size + 1) w12 w13 from (Kp.putL (Nat.lt_succ_self _) _ _ _).trans (.ext h13))
        have hB : Blk w13 w.heap.size [.slice (some ⟨bn, 0, none⟩) Kn Kn, .int .i64 z1, .int .i64 z2, .int .i64 za, .slice (some ⟨bv, 0, none⟩) Kv Kv, .slice ga lg gc] := (HBZ.out.put [.slice (some ⟨bn, 0, none⟩) Kn Kn, .int .i64 z1, .int .i64 z2, .int .i64 za, .slice (some ⟨bv, 0, none⟩) Kv Kv, .slice ga lg gc] rfl).ext h13 (by rw [size_putL]; exact Nat.lt_of_lt_of_le HV.out (Below.size HEV.out))
        have HF := hide (show Ext w w13 from ((HE.out.trans HEV.out).putL (Nat.le_refl _) [.slice (some ⟨bn, 0, none⟩) Kn Kn, .int .i64 z1, .int .i64 z2, .int .i64 za, .slice (some ⟨bv, 0, none⟩) Kv Kv, .slice ga lg gc]).trans h13)
        have Hld := hide (run_ld (P := Tryz.prog) 26 [.slice (some ⟨bn, 0, none⟩) Kn Kn, .int .i64 z1, .int .i64 z2, .int .i64 za, .slice (some ⟨bv, 0, none⟩) Kv Kv, .slice ga lg gc] w13 (by kernel_rfl) (by kernel_rfl) w.heap.size 0 (Blk.ld hB 0 _ (fun j v h => by rw [Nat.zero_add]; exact h)))
        clear HBZ h13 hB
        go_wp2
        refine bodyPost_ret (v := .agg #[.slice (some ⟨bn, 0, none⟩) Kn Kn, .int .i64 z1, .int .i64 z2, .int .i64 za, .slice (some ⟨bv, 0, none⟩) Kv Kv, .slice ga lg gc]) (results_at Tryz.results24 rfl Hld.out) rfl ⟨HF.out, .inl ⟨_, rfl, ?_⟩⟩
        have e7 : Ext w7 w12 := H9.out.trans (H11.out.trans H12.out)
        have e9 : Ext w9 w12 := H11.out.trans H12.out
        have hN := HN.out
        have hV9 := HV9.out
        have s0 : w.heap.size + 1 ≤ V.heap.size := HV.out
        have s1 : V.heap.size ≤ w6.heap.size := Below.size (HE1.out.trans (HE3.out.trans H6.out))
        have s2 : w7.heap.size ≤ w8.heap.size := Below.size H8.out
        have s3 : w9.heap.size ≤ w13.heap.size := Nat.le_trans (Below.size e9) HKp.out.1
        have hbl : 0 < lg → (x (kpl x n 0 1)).blk < w.heap.size := fun h => (HX0.out.body _ HI.out).toBSeg.lt (by have := Hlg.out; omega)
        have e11 : Ext w w11 := HE.out.trans (HE1.out.trans (HE3.out.trans HE11.out))
        refine ⟨⟨Kn, fn, z1, z2, za, Kv, fv, lg, fun i => (x (kpl x n 0 1)).f (i + 1)⟩, ⟨⟨some ⟨bn, 0, none⟩, bn, 0, Kn⟩, ⟨some ⟨bv, 0, none⟩, bv, 0, Kv⟩, ⟨ga, (x (kpl x n 0 1)).blk, (x (kpl x n 0 1)).off + 1, gc⟩⟩, rfl, ⟨hN.1, hN.2.1, Hz.out.1.symm, Hz.out.2.symm, Ha.out, hV9.1, hV9.2.1, Hlg.out.symm, rfl⟩, ⟨?_, ?_⟩, ?_, ?_, rfl, HG.out.1, ?_, ?_, ?_, ?_, ?_⟩
        ·exact (hN.2.2.1.of_all e7).kp (by have := hN.2.2.2.2.1; omega) HKp.out
        ·exact (hN.2.2.2.1.of_all e7).of_blk (fun h => HKp.out.2 bn (by have := hN.2.2.2.2.1; omega) ((hN.2.2.2.1.of_all e7).lt h))
        ·exact (hV9.2.2.1.of_all e9).kpR (by have := hV9.2.2.2.1; omega) HKp.out
        ·exact HG.out.2.blkR (fun h => (Below.block HF.out _ (hbl h)).trans (Below.block e11 _ (hbl h)).symm)
        ·show w.heap.size ≤ bn
         have := hN.2.2.2.2.1
         omega
        ·show bn < bv
         have := hN.2.2.2.2.2
         have := hV9.2.2.2.1
         omega
        ·show bv < w13.heap.size
         have := hV9.2.2.2.2
         omega
        ·show Kn ≤ 300
         rw [hN.1]; exact HKk.out.1
        ·show Kv ≤ 300
         rw [hV9.1]; exact HKk.out.2
       ·try go_simp
        exact ⟨rfl, HE.out.trans (HE1.out.trans (HE3.out.trans (HE9.out.trans (h10.trans hE11)))), .inr ⟨⟨_, rfl⟩, fun h => hno h.p7⟩⟩
      ·try go_simp
       exact ⟨rfl, HE.out.trans (HE1.out.trans (HE3.out.trans (HE7.out.trans (h8.trans hE9)))), .inr ⟨⟨_, rfl⟩, fun h => hno h.p6⟩⟩
     ·try go_simp
      exact ⟨rfl, HE.out.trans (HE1.out.trans (HE3.out.trans (HE5.out.trans (h6.trans hE7)))), .inr ⟨⟨_, rfl⟩, fun h => hno h.p5⟩⟩
    ·try go_simp
     exact ⟨rfl, HE.out.trans (HE1.out.trans (HE3.out.trans (h4.trans hE5))), .inr ⟨⟨_, rfl⟩, fun h => hno h.p4⟩⟩
   ·exact ⟨rfl, HE.out.trans (HE1.out.trans (HE2.out.trans hE3)), .inr ⟨⟨_, rfl⟩, fun h => hno h.p3⟩⟩
  ·exact ⟨rfl, HE.out.trans (HE1.out.trans hE2), .inr ⟨⟨_, rfl⟩, fun h => hno h.p2⟩⟩
 ·exact ⟨rfl, HE.out.trans hE1, .inr ⟨⟨_, rfl⟩, fun h => hno h.p1⟩⟩
theorem catchF_idle (w : World) :
  CallsD Tryz.prog 46 #[] .returning w fun e u' w' => e = .returned (.tuple #[]) ∧ u' = .returning ∧ w' = w := by
 refine callsD_of_wpS Tryz.func46 rfl fun c₀ cs hu => ?_
 apply wpS_region
 simp [wpOpsS, go_sem, recoverD, hu, Tryz.ntmps46, Exit.thenS]
 cases c₀
 simp_all [bodyPostS, results, Tryz.results46]
theorem catchF_hit (v : Value) (w : World) :
  CallsD Tryz.prog 46 #[] (.panicking [{ v := v, recovered := false }]) w fun e u' w' => e = .returned (.tuple #[]) ∧ u' = .panicking [{ v := v, recovered := true }] ∧ w' = w := by
 refine callsD_of_wpS Tryz.func46 rfl fun c₀ cs hu => ?_
 apply wpS_region
 simp [wpOpsS, go_sem, recoverD, hu, Tryz.ntmps46, Exit.thenS]
 cases c₀
 simp_all [bodyPostS, results, Tryz.results46]
theorem results_atb {P : Program} {fn : Func} {a b : Nat} {T : TypeId} (hf : fn.results = #[.cell a T, .tmp b]) {tmps : Array Value} {q : Addr} {v u : Value} {W : World} (ht : tmps.getD a undef = .pointer (some q)) (hu : tmps.getD b undef = u) (hl : (loadVar T q).run P W = .ok v W) : (results fn tmps).run P W = .ok (.tuple #[v, u]) W := by
 have ht' : tmps[a]?.getD undef = .pointer (some q) := by simpa using ht
 have hu' : tmps[b]?.getD undef = u := by simpa using hu
 simp [results, hf, ht', hu', asAddr, hl]
def zL : List Value := [.slice none 0 0, .int .i64 0, .int .i64 0, .int .i64 0, .slice none 0 0, .slice none 0 0]
def FmR (w : World) (P : Prop) (R : Cl → ClPl → World → Prop) (e : Ending) (w' : World) : Prop :=
 Ext w w' ∧ ((∃ c m, e = .returned (.tuple #[.agg (clL c m).toArray, .bool true]) ∧ R c m w') ∨ (e = .returned (.tuple #[.agg zL.toArray, .bool false]) ∧ ¬ P))
set_option maxHeartbeats 4000000 in
set_option maxRecDepth 100000 in
theorem formed_any (G : Nat) (cap : Array Value) (hG : ∀ (args : Array Value) (w : World), (callFunc G args).run Tryz.prog w = .ok (.enter G args) w) (P : Prop) (R : Cl → ClPl → World → Prop) (w : World)
  (h : ∀ W, Ext w W → w.heap.size < W.heap.size → Calls Tryz.prog G cap W (OrP W P (fun u w' => ∃ c m, u = .agg (clL c m).toArray ∧ R c m w')))
  (hR : ∀ c m a b, Kp (w.heap.size + 1) a b → R c m a → R c m b) :
  Calls Tryz.prog 20 #[.func (.func G) #[] cap] w (FmR w P R) := by
 obtain ⟨V, hV⟩ : ∃ V, w.alloc (.cells #[.slice none 0 0, .int .i64 0, .int .i64 0, .int .i64 0, .slice none 0 0, .slice none 0 0] 26) = V := ⟨_, rfl⟩
 obtain ⟨B0, hE, hsz⟩ := box1 w zL 26 (w1 := V) (by rw [← hV]; exact Ext.refl _)
 have HBx := hide B0
 have HE := hide hE
 have HV := hide (show w.heap.size < V.heap.size from hsz)
 have HC := hide (h V hE hsz)
 have HR := hide hR
 clear h hR B0 hE hsz
 go_enter_defers Tryz.func20, Tryz.ntmps20
 go_wp2_with fail
 refine HC.out.mono ?_
 rintro e w1 ⟨hE1, ⟨u, rfl, c, m, rfl, hr⟩ | ⟨⟨v, rfl⟩, hno⟩⟩
 ·have BZ := HBx.out.ext hE1 HV.out
  have Hr := hide hr
  have HE1 := hide hE1
  have HBZ := hide BZ
  have hst := run_st (P := Tryz.prog) 26 (clL c m) w1 (by kernel_rfl) (by simp [clL, Value.oneCell']) w.heap.size 0 (Blk.st BZ 0 _ (by simp [clL, zL]))
  have HBW := hide (BZ.put (clL c m) rfl)
  have HF := hide ((HE.out.trans hE1).putL (Nat.le_refl _) (clL c m))
  have HK := hide (HR.out c m _ _ (Kp.putL (Nat.lt_succ_self _) (clL c m) 0 w1) hr)
  obtain ⟨L, hL⟩ : ∃ L, clL c m = L := ⟨_, rfl⟩
  have HLL := hide hL
  rw [hL] at hst HBW HF HK ⊢
  obtain ⟨W, hW⟩ : ∃ W, putL w.heap.size 0 L w1 = W := ⟨_, rfl⟩
  rw [hW] at hst HBW HF HK
  have Hld := hide (run_ld (P := Tryz.prog) 26 L W (by rw [← HLL.out]; kernel_rfl) (by kernel_rfl) w.heap.size 0 (Blk.ld HBW.out 0 _ (fun j v h => by rw [Nat.zero_add]; exact h)))
  clear BZ hE1 hr hL hW HC HBx HBZ
  go_wp2_with (first | (refine wpList_st (by first | rfl | simp [Region.wanted, yielded]) 26 _ _ rfl _ rfl _ rfl _ hst ?_))
  refine leaves_cons (f := 46) (args := #[]) (by simp) (by simp [go_sem]) ?_
  refine (catchF_idle _).mono ?_
  rintro e u' w'' ⟨rfl, rfl, rfl⟩
  exact ⟨_, results_atb Tryz.results20 rfl rfl Hld.out, HF.out, .inl ⟨c, m, by rw [HLL.out]; rfl, HK.out⟩⟩
 ·have BZ := HBx.out.ext hE1 HV.out
  have Hld := hide (run_ld (P := Tryz.prog) 26 zL w1 (by kernel_rfl) (by kernel_rfl) w.heap.size 0 (Blk.ld BZ 0 _ (fun j v h => by rw [Nat.zero_add]; exact h)))
  have HF := hide (HE.out.trans hE1)
  have Hno := hide hno
  clear BZ hE1 HC HBx hno
  go_wp2
  refine leaves_cons (f := 46) (args := #[]) (by simp) (by simp [go_sem]) ?_
  refine (catchF_hit _ _).mono ?_
  rintro e u' w'' ⟨rfl, rfl, rfl⟩
  exact ⟨_, results_atb Tryz.results20 rfl rfl Hld.out, HF.out, .inr ⟨rfl, Hno.out⟩⟩
def InR (c : Ic) : Prop := ∀ b ∈ c.bd, 0 ≤ b ∧ b < 256
theorem rdK_rng {e : Nat} {rd : Nat → Rdr} (H : ∀ x, ∀ c ∈ (rd x).its, InR c) : ∀ m a, ∀ c ∈ (rdK rd e m a).1.its, InR c
 | 0, a => by intro c hc; simp [rdK] at hc
 | m + 1, a => by
  intro c hc
  rw [rdK] at hc
  split at hc
  ·simp at hc
  ·split at hc
   ·simp at hc
   ·split at hc
    ·simp at hc
    ·rcases List.mem_append.1 (show c ∈ (rd a).its ++ (rdK rd e m (rd a).nx).1.its from hc) with h | h
     ·exact H a c h
     ·exact rdK_rng H m _ c h
theorem rdT_rng (f : Nat → Int) : ∀ k a e d, (∀ i, i < e → 0 ≤ f i ∧ f i < 256) → ∀ c ∈ (rdT f k a e d).its, InR c
 | 0, a, e, d, _ => by intro c hc; simp [rdT] at hc
 | k + 1, a, e, d, hb => by
  intro c hc
  rw [rdT] at hc
  by_cases hd : (hdC f a e d).1 = 0
  ·rw [if_neg (fun h => h hd)] at hc
   have h0 := hdC_ok hd
   by_cases hm : mdT (f a) = false
   ·rw [if_pos hm] at hc
    rw [List.mem_singleton.1 (show c ∈ [itH f (hdOf f a e d)] from hc)]
    intro b hb'
    have hb2 : b ∈ (if mdT (f a) then [] else (List.range (hdE f a e - hdS f a e)).map (fun i => f (hdS f a e + i))) := hb'
    rw [hm] at hb2
    obtain ⟨i, hi, rfl⟩ := List.mem_map.1 (show b ∈ (List.range (hdE f a e - hdS f a e)).map (fun i => f (hdS f a e + i)) from hb2)
    rw [List.mem_range] at hi
    exact hb _ (by omega)
   ·rw [if_neg hm] at hc
    split at hc
    ·simp at hc
    ·rcases List.mem_cons.1 (show c ∈ _ :: _ from hc) with rfl | h
     ·intro b hb'; simp at hb'
     ·exact rdK_rng (fun x => rdT_rng f k x (hdE f a e) (d + 1) (fun i hi => hb i (by omega))) _ _ c h
  ·rw [if_pos hd] at hc; simp at hc
theorem rdA_rng (f : Nat → Int) (bn : Nat) (hb : ∀ i, i < bn → 0 ≤ f i ∧ f i < 256) : ∀ c ∈ (rdA f bn).1, InR c := by
 intro c hc
 unfold rdA at hc
 split at hc
 ·simp at hc
 ·split at hc
  ·simp at hc
  ·split at hc
   ·simp at hc
   ·split at hc
    ·simp at hc
    ·exact rdT_rng f 14 0 bn 0 hb c hc
theorem rdx_of {f : Nat → Int} {bn B : Nat} {W : World} {v : Value} {M : List It} (hb : ∀ i, i < bn → 0 ≤ f i ∧ f i < 256) (h0 : (rdA f bn).2.1 = 0) (hL : LAcc B W v M) (hM : M.map ct = (rdA f bn).1) (hC : CpL M) :
  (∃ a S cap, v = .slice a M.length cap ∧ ISeg W a S 0 M.length (fun i => M.getD i dI)) ∧ treeV (fun i => M.getD i dI) M.length = true ∧ Rdx (fun i => M.getD i dI) M.length W ∧ (∀ i, i < M.length → (M.getD i dI).kid.toNat ≤ 300) ∧ ∀ i, i < M.length → 0 < (M.getD i dI).len → B ≤ (M.getD i dI).blk := by
 have hl : ∀ t ∈ M, t.len ≤ 4000 := fun t ht => by
  have h1 : ct t ∈ (rdA f bn).1 := by rw [← hM]; exact List.mem_map.2 ⟨t, ht, rfl⟩
  have h2 := (wt_len (rdA f bn).1).2 _ h1
  have h3 := rdA_wt f bn
  rw [ct_len] at h2
  omega
 have hm : ∀ i, i < M.length → M.getD i dI ∈ M := fun i hi => by
  rw [List.getD_eq_getElem?_getD, List.getElem?_eq_getElem hi]
  exact List.getElem_mem hi
 have ht := rd_tree hb h0 hM
 have hg : ∀ i, i < M.length → itGood (M.getD i dI) := by
  have := ht
  unfold treeV at this
  rw [decide_eq_true_eq] at this
  exact this.2.2.1
 obtain ⟨a, S, cap, rfl, hI⟩ := hL.iow (fun t ht => by have := hl t ht; omega)
 refine ⟨⟨a, S, cap, rfl, hI.toISeg⟩, ht, ⟨fun i hi => hI.own hi, hg, fun i hi j hj => ?_, fun i hi h => hC _ (hm i hi) h, fun i hi => hl _ (hm i hi)⟩, fun i hi => ?_, fun i hi h => (hI.away i hi h).2⟩
 ·have h1 : ct (M.getD i dI) ∈ (rdA f bn).1 := by rw [← hM]; exact List.mem_map.2 ⟨_, hm i hi, rfl⟩
  exact rdA_rng f bn hb _ h1 _ (List.mem_map.2 ⟨j, List.mem_range.2 hj, rfl⟩)
 ·have := (hg i hi).2.2.2.2.1
  have h2 : (M.getD i dI).kid ≤ 300 := this
  omega
def CrlRd (g : Int → Nat × Nat × Nat × Nat) (f : Nat → Int) (bn : Nat) (c : Cl) : Prop :=
 clB c = true ∧ wtB (seC (clC g c) c.ng c.fg) = true ∧ wtL (seC (clC g c) c.ng c.fg) = byF f 0 bn
theorem CrlRd.lay {g : Int → Nat × Nat × Nat × Nat} (hg : DayG g) {f : Nat → Int} {bn : Nat} (hb : ∀ i, i < bn → 0 ≤ f i ∧ f i < 256) {d : Cl} (h : CrlRd g f bn d) : rdA f bn = (seC (clC g d) d.ng d.fg, 0, 0) ∧
  ∀ M : List It, M.map ct = (rdA f bn).1 → LayC (fun i => M.getD i dI) M.length d := by
 have e := wt_read h.2.1 h.2.2
 refine ⟨e, fun M hM => ?_⟩
 have ht := rd_tree hb (by rw [e]) hM
 rw [e] at hM
 have hM' : M.map ct = seC (clC g d) d.ng d.fg := hM
 have hl : M.length = (seC (clC g d) d.ng d.fg).length := by rw [← hM', List.length_map]
 refine layC hg ht (ClOk.of h.1) hl (fun j c hj => ?_)
 have hj' := (List.getElem?_eq_some_iff.1 hj)
 obtain ⟨h1, h2⟩ := hj'
 show ct (M.getD (0 + j) dI) = c
 rw [Nat.zero_add, List.getD_eq_getElem?_getD, List.getElem?_eq_getElem (by omega)]
 rw [← hM', List.getElem?_map, List.getElem?_eq_getElem (by omega)] at hj
 simpa using hj
theorem allB_congr {p q : Nat → Bool} : ∀ {n : Nat}, (∀ j, j < n → p j = q j) → allB p n = allB q n := by
 intro n h
 cases e : allB q n
 ·cases e1 : allB p n
  ·rfl
  ·have h1 := allB_iff.1 e1
   have : allB q n = true := allB_iff.2 (fun j hj => by rw [← h j hj]; exact h1 j hj)
   rw [this] at e; cases e
 ·have h1 := allB_iff.1 e
  exact allB_iff.2 (fun j hj => by rw [h j hj]; exact h1 j hj)
theorem SameL.eqs {c d : Cl} (h : SameL c d) (g : Int → Nat × Nat × Nat × Nat) : clB c = clB d ∧ seC (clC g c) c.ng c.fg = seC (clC g d) d.ng d.fg := by
 obtain ⟨ni, fi, fr, to, alg, nv, fv, ng, fg⟩ := c
 obtain ⟨ni', fi', fr', to', alg', nv', fv', ng', fg'⟩ := d
 obtain ⟨h1, h2, h3, h4, h5, h6, h7, h8, h9⟩ := h
 simp only at h1 h2 h3 h4 h5 h6 h7 h8 h9
 subst h1 h3 h4 h5 h6 h8
 refine ⟨?_, ?_⟩
 ·unfold clB nmB lvB
  simp only
  rw [allB_congr (p := fun i => txB (fi i)) (q := fun i => txB (fi' i)) (fun j hj => by rw [h2 j hj]), allB_congr (p := fun i => inB (fv i) 1 1000000000000000) (q := fun i => inB (fv' i) 1 1000000000000000) (fun j hj => by rw [h7 j hj]),
   allB_congr (p := upB fv) (q := upB fv') (fun j hj => by unfold upB; rw [h7 j hj, h7 (j - 1) (by omega)])]
 ·unfold seC clC nmC nsC
  simp only
  rw [List.map_congr_left (l := List.range ng) (f := fg) (g := fg') (fun i hi => h9 i (List.mem_range.1 hi)), List.map_congr_left (l := List.range ni) (f := fun i => txC 12 (fi i)) (g := fun i => txC 12 (fi' i)) (fun i hi => by rw [h2 i (List.mem_range.1 hi)]),
   List.map_congr_left (l := List.range nv) (f := fun i => intC (fv i)) (g := fun i => intC (fv' i)) (fun i hi => by rw [h7 i (List.mem_range.1 hi)])]
structure ClNw (B : Nat) (w : World) (c : Cl) (m : ClPl) : Prop where
 i : SSeg w m.i.ad m.i.b m.i.off c.ni c.fi
 ia : SAny w m.i.ad m.i.b m.i.off c.ni
 v : Own w m.v.ad m.v.b m.v.off c.nv c.fv
 g : BOwn w m.g.ad m.g.b m.g.off c.ng c.fg
 b0 : B ≤ m.g.b
 b1 : m.g.b < m.i.b
 b2 : m.i.b < m.v.b
 b3 : m.v.b < w.heap.size
theorem BOwn.kpR {N : Nat} {w w' : World} {a : Option Addr} {b off n : Nat} {f : Nat → Int} (h : BOwn w a b off n f) (hb : N ≤ b) (k : Kp N w w') : BOwn w' a b off n f :=
 h.blkR (fun h0 => k.2 b hb (h.toBSeg.lt h0))
theorem ClNw.kp {N B : Nat} {w w' : World} {c : Cl} {m : ClPl} (h : ClNw B w c m) (hN : N ≤ B) (k : Kp N w w') : ClNw B w' c m := by
 have h0 := h.b0
 have h1 := h.b1
 have h2 := h.b2
 exact ⟨h.i.kp (by omega) k, h.ia.of_blk (fun h0 => k.2 _ (by omega) (h.ia.lt h0)), h.v.kpR (by omega) k, h.g.kpR (by omega) k, h.b0, h.b1, h.b2, Nat.lt_of_lt_of_le h.b3 k.1⟩
theorem ClNw.in' {B : Nat} {w : World} {c : Cl} {m : ClPl} (h : ClNw B w c m) : ClIn w c m := ⟨h.i, h.v.toSeg, h.g.toBSeg⟩
theorem ClNw.low {B B' : Nat} {w : World} {c : Cl} {m : ClPl} (h : ClNw B w c m) (hB : B' ≤ B) : ClNw B' w c m := ⟨h.i, h.ia, h.v, h.g, Nat.le_trans hB h.b0, h.b1, h.b2, h.b3⟩
end
end Go.Proofs.YtkogbinfhoiggaaGreatDoor
