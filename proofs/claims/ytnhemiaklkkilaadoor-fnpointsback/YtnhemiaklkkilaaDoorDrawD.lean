/- Walk: l3DrawAny of the model: some curve, its numbers small; the cursor alone has turned. -/
import Derived.Test.YtnhemiaklkkilaaDoorDrawC2
namespace Go.Proofs.YtnhemiaklkkilaaDoor
set_option linter.unusedVariables false
open Go.RowKit Go.Sort

/-- A curve's numbers are small. -/
structure KBd (p A B N : Int) : Prop where
  p0 : 0 ≤ p
  p1 : p ≤ 2097152
  a0 : -1 ≤ A
  a1 : A ≤ 2097152
  b0 : 0 ≤ B
  b1 : B ≤ 2097152
  n0 : 0 ≤ N
  n1 : N ≤ 2097169

theorem kbd (j : Nat) : KBd (kP j) (kA j) (kB j) (kN j) ∧ (0 ≤ kX j ∧ kX j ≤ 1973) ∧ 0 ≤ kY j ∧ kY j ≤ 1973 := by
  match j with
  | 0 => exact ⟨⟨by decide, by decide, by decide, by decide, by decide, by decide, by decide, by decide⟩, by decide⟩
  | 1 => exact ⟨⟨by decide, by decide, by decide, by decide, by decide, by decide, by decide, by decide⟩, by decide⟩
  | _ + 2 => exact ⟨⟨by simp [kP], by simp [kP], by simp [kA], by simp [kA], by simp [kB], by simp [kB], by simp [kN], by simp [kN]⟩, by simp [kX, kY]⟩

/-- The call answers such a curve, and of what was there turns the cursor alone. -/
def GivesAny (w : World) (C : Nat) (a : Option Addr) (n cap : Nat) (e : Ending) (w' : World) : Prop :=
  ∃ p A B N x y, e = .returned (.agg #[.int .i64 p, .int .i64 A, .int .i64 B, .int .i64 N, .int .i64 x, .int .i64 y]) ∧ KBd p A B N ∧ (0 ≤ x ∧ x ≤ 2000) ∧ (0 ≤ y ∧ y ≤ 2000) ∧ Cur w' C a n cap ∧ Grw (Cx C) w w'

theorem seg_lit (w : World) (xs : Array Value) (m : Nat) (g : Nat → Int) (h : ∀ i, i < m → xs[i]? = some (.int .i64 (g i))) : Seg (w.alloc (.cells xs 3)) (some ⟨w.heap.size, 0, none⟩) w.heap.size 0 m g :=
  ⟨fun _ => rfl, fun i hi => by rw [Nat.zero_add]; exact (World.cell?_alloc_at _ _ _ _ rfl).trans (h i hi)⟩

/-- In mid-call: the answer's block R, the curve's block S, the cursor. -/
structure Mid (w wr : World) (C R S : Nat) (a : Option Addr) (n cap : Nat) (p A B N x y : Int) : Prop where
  res : CvF wr R 0 0 0 0 0 0
  cv : CvF wr S p A B N x y
  cur : Cur wr C a n cap
  grw : Grw (Cx C) w wr
  hR : w.heap.size ≤ R
  hS : R < S
  hC : C < w.heap.size

theorem Mid.ext {w wr w1 : World} {C R S : Nat} {a : Option Addr} {n cap : Nat} {p A B N x y : Int} (h : Mid w wr C R S a n cap p A B N x y) (e : Ext wr w1) : Mid w w1 C R S a n cap p A B N x y :=
  ⟨h.res.of_block (e.block _ h.res.lt), h.cv.of_block (e.block _ h.cv.lt), h.cur.ext e, h.grw.trans (.of_ext e), h.hR, h.hS, h.hC⟩

theorem Mid.touch {w wr w1 : World} {C R S : Nat} {a : Option Addr} {n cap : Nat} {p A B N x y : Int} (h : Mid w wr C R S a n cap p A B N x y) (t : Touch C wr w1) (hc : Cur w1 C a n cap) : Mid w w1 C R S a n cap p A B N x y := by
  have h1 := h.hR; have h2 := h.hS; have h3 := h.hC
  exact ⟨h.res.of_block (t.grown.block _ h.res.lt (by simp; omega)), h.cv.of_block (t.grown.block _ h.cv.lt (by simp; omega)), hc, h.grw.trans (.of_touch t rfl), h1, h2, h3⟩

/-- The end: what lies in S is stored into R and answered. -/
theorem Mid.done {w wr : World} {C R S : Nat} {a : Option Addr} {n cap : Nat} {p A B N x y : Int} (h : Mid w wr C R S a n cap p A B N x y) (hk : KBd p A B N) (hx : 0 ≤ x ∧ x ≤ 2000) (hy : 0 ≤ y ∧ y ≤ 2000) :
    GivesAny w C a n cap (.returned (.agg #[.int .i64 p, .int .i64 A, .int .i64 B, .int .i64 N, .int .i64 x, .int .i64 y])) (putCv wr R p A B N x y) := by
  have h1 := h.hR; have h2 := h.hS; have h3 := h.hC
  refine ⟨p, A, B, N, x, y, rfl, hk, hx, hy, h.cur.of_block (heap_putCv wr R _ _ _ _ _ _ (by omega)), h.grw.later (below_putCv (Below.refl w.heap.size wr) h1 _ _ _ _ _ _) (Nat.le_refl _)⟩

theorem Mid.turn {w wr w1 : World} {C R S : Nat} {a : Option Addr} {n cap : Nat} {p A B N x y p' A' B' N' x' y' : Int} (h : Mid w wr C R S a n cap p A B N x y) (t : Touch S wr w1) (hc : CvF w1 S p' A' B' N' x' y') : Mid w w1 C R S a n cap p' A' B' N' x' y' := by
  have h1 := h.hR; have h2 := h.hS; have h3 := h.hC
  exact ⟨h.res.of_block (t.grown.block _ h.res.lt (by simp; omega)), hc, h.cur.of_block (t.grown.block _ h.cur.lt (by simp; omega)), h.grw.later (below_touch (Below.refl w.heap.size wr) t (by omega)) (Nat.le_refl _), h1, h2, h3⟩

theorem CvF.set0 {w : World} {C : Nat} {p A B N x y : Int} (h : CvF w C p A B N x y) (v : Int) : CvF (w.setCell ⟨C, 0, none⟩ (.int .i64 v)) C v A B N x y := by
  obtain ⟨⟨c0, c1, c2, c3, c4, c5⟩, f⟩ := h
  refine ⟨⟨?_, ?_, ?_, ?_, ?_, ?_⟩, fun o => ?_⟩
  all_goals first | (simp [go_sem, c0, c1, c2, c3, c4, c5, f]; done) | skip

theorem CvF.set1 {w : World} {C : Nat} {p A B N x y : Int} (h : CvF w C p A B N x y) (v : Int) : CvF (w.setCell ⟨C, 1, none⟩ (.int .i64 v)) C p v B N x y := by
  obtain ⟨⟨c0, c1, c2, c3, c4, c5⟩, f⟩ := h
  refine ⟨⟨?_, ?_, ?_, ?_, ?_, ?_⟩, fun o => ?_⟩
  all_goals first | (simp [go_sem, c0, c1, c2, c3, c4, c5, f]; done) | skip

theorem CvF.set3 {w : World} {C : Nat} {p A B N x y : Int} (h : CvF w C p A B N x y) (v : Int) : CvF (w.setCell ⟨C, 3, none⟩ (.int .i64 v)) C p A B v x y := by
  obtain ⟨⟨c0, c1, c2, c3, c4, c5⟩, f⟩ := h
  refine ⟨⟨?_, ?_, ?_, ?_, ?_, ?_⟩, fun o => ?_⟩
  all_goals first | (simp [go_sem, c0, c1, c2, c3, c4, c5, f]; done) | skip

theorem CvF.set5 {w : World} {C : Nat} {p A B N x y : Int} (h : CvF w C p A B N x y) (v : Int) : CvF (w.setCell ⟨C, 5, none⟩ (.int .i64 v)) C p A B N x v := by
  obtain ⟨⟨c0, c1, c2, c3, c4, c5⟩, f⟩ := h
  refine ⟨⟨?_, ?_, ?_, ?_, ?_, ?_⟩, fun o => ?_⟩
  all_goals first | (simp [go_sem, c0, c1, c2, c3, c4, c5, f]; done) | skip

set_option maxHeartbeats 1600000 in
set_option maxRecDepth 100000 in
theorem l3DrawAny_any (C : Nat) (a : Option Addr) (b off n cap : Nat) (f : Nat → Int) (w : World) (hC : Cur w C a n cap) (hK : Code w C a b off n f) (hn : n ≤ 1048576) :
    Calls Tryd.prog 41 #[.pointer (some ⟨C, 0, none⟩)] w fun e w' => GivesAny w C a n cap e w' := by
  have hl := hC.lt
  go_enter Tryd.func41, Tryd.ntmps41
  go_wp2_with fail
  have E0 := Ext.alloc w (.cells #[.int .i64 0, .int .i64 0, .int .i64 0, .int .i64 0, .int .i64 0, .int .i64 0] 25)
  have F0 := CvF.alloc w 0 0 0 0 0 0 25
  refine (l3Draw_any C a b off n cap f _ (hC.ext E0) (hK.ext E0) hn).mono ?_
  rintro e w1 ⟨j, hj, rfl, hC1, G1⟩
  have s1 : w.heap.size < w1.heap.size := by have := G1.size; rw [World.size_alloc] at this; omega
  have F1 := F0.of_block (G1.block _ F0.lt (by unfold Cx; omega))
  have GG := (Grw.of_ext (X := Cx C) E0).trans G1
  have M1 : Mid w (w1.alloc (.cells #[.int .i64 (kP j), .int .i64 (kA j), .int .i64 (kB j), .int .i64 (kN j), .int .i64 (kX j), .int .i64 (kY j)] 25)) C w.heap.size w1.heap.size a n cap (kP j) (kA j) (kB j) (kN j) (kX j) (kY j) :=
    ⟨F1.of_block ((Ext.alloc w1 _).block _ F1.lt), CvF.alloc w1 _ _ _ _ _ _ _, hC1.ext (Ext.alloc w1 _), GG.trans (.of_ext (Ext.alloc w1 _)), Nat.le_refl _, s1, hl⟩
  have hk := kbd j
  have K1 := hK.grw M1.grw hK.ne
  clear E0 F0 G1 F1 GG hC1 hK hC
  generalize kP j = p at *
  generalize kA j = A at *
  generalize kB j = B at *
  generalize kN j = N at *
  generalize kX j = x at *
  generalize kY j = y at *
  clear hj
  go_wp2_with fail
  generalize (w1.alloc (.cells #[.int .i64 p, .int .i64 A, .int .i64 B, .int .i64 N, .int .i64 x, .int .i64 y] 25)) = W1 at *
  generalize w1.heap.size = S at *
  clear w1
  refine (l1Below_any C a b off n cap f 25 _ M1.cur K1 hn (by omega) (by omega)).mono ?_
  rintro e w2 ⟨d, rfl, d0, d1, hC2, T2⟩
  have M2 := hide (M1.touch T2 hC2)
  have K2 := K1.touch T2
  clear M1 K1 T2 hC2 W1
  have HM := M2.out
  obtain ⟨⟨⟨z0, z1, z2, z3, z4, z5⟩, fz⟩, ⟨⟨k0, k1, k2, k3, k4, k5⟩, fk⟩, -, -, hR, hS, -⟩ := HM
  by_cases c0 : d = 0
  · subst c0
    have E3 := Ext.alloc w2 (.cells #[.int .i64 0, .int .i64 3, .int .i64 101, .int .i64 105, .int .i64 1019, .int .i64 1048583, .int .i64 7] 3)
    have M3 := hide (M2.out.ext E3)
    obtain ⟨g, hg⟩ : ∃ g : Nat → Int, g = fun i => if i = 0 then 0 else if i = 1 then 3 else if i = 2 then 101 else if i = 3 then 105 else if i = 4 then 1019 else if i = 5 then 1048583 else 7 := ⟨_, rfl⟩
    have Sg := seg_lit w2 #[.int .i64 0, .int .i64 3, .int .i64 101, .int .i64 105, .int .i64 1019, .int .i64 1048583, .int .i64 7] 7 g (fun i hi => by
      rw [hg]
      have : i = 0 ∨ i = 1 ∨ i = 2 ∨ i = 3 ∨ i = 4 ∨ i = 5 ∨ i = 6 := by omega
      rcases this with rfl | rfl | rfl | rfl | rfl | rfl | rfl <;> rfl)
    have hb : ∀ i, i < 7 → 0 ≤ g i ∧ g i ≤ 2097152 := fun i hi => by
      rw [hg]
      have h : i = 0 ∨ i = 1 ∨ i = 2 ∨ i = 3 ∨ i = 4 ∨ i = 5 ∨ i = 6 := by omega
      have := hk.1.p0; have := hk.1.p1
      rcases h with rfl | rfl | rfl | rfl | rfl | rfl | rfl <;> simp <;> omega
    clear hg
    have hne : w2.heap.size ≠ C := by have := M2.out.cur.lt; omega
    go_wp2_with fail
    clear z0 z1 z2 z3 z4 z5 fz k0 k1 k2 k3 k4 k5 fk
    refine (l1PickInt_of C a b off n cap f _ w2.heap.size 0 7 _ _ _ M3.out.cur (K2.ext E3) hn Sg (by omega) (by omega) hne).mono ?_
    rintro e w3 ⟨i, hi, rfl, hC3, T3⟩
    have M4 := hide (M3.out.touch T3 hC3)
    clear M3 M2 T3 hC3 Sg E3 hne K2
    have hv := hb i hi
    generalize g i = v at *
    clear hb
    obtain ⟨⟨⟨z0, z1, z2, z3, z4, z5⟩, fz⟩, ⟨⟨k0, k1, k2, k3, k4, k5⟩, fk⟩, -, -, -, -, -⟩ := M4.out
    have M5 := hide (M4.out.turn ((Touch.refl S w3).set 0 (.int .i64 v)) (M4.out.cv.set0 v))
    go_wp2
    clear z0 z1 z2 z3 z4 z5 fz k0 k1 k2 k3 k4 k5 fk
    generalize w3.setCell ⟨S, 0, none⟩ (.int .i64 v) = W3 at *
    obtain ⟨⟨⟨z0, z1, z2, z3, z4, z5⟩, fz⟩, -, -, -, -, -, -⟩ := M5.out
    refine bodyPost_ret (v := .agg #[.int .i64 v, .int .i64 A, .int .i64 B, .int .i64 N, .int .i64 x, .int .i64 y]) (by simp [results, Tryd.results41, go_sem, z0, z1, z2, z3, z4, z5]) rfl (M5.out.done ⟨hv.1, hv.2, hk.1.a0, hk.1.a1, hk.1.b0, hk.1.b1, hk.1.n0, hk.1.n1⟩ ⟨hk.2.1.1, by omega⟩ ⟨hk.2.2.1, by omega⟩)
  by_cases c1 : d = 1
  · subst c1
    have E3 := Ext.alloc w2 (.cells #[.int .i64 (-1), .int .i64 0, .int .i64 p] 3)
    have M3 := hide (M2.out.ext E3)
    obtain ⟨g, hg⟩ : ∃ g : Nat → Int, g = fun i => if i = 0 then (-1) else if i = 1 then 0 else p := ⟨_, rfl⟩
    have Sg := seg_lit w2 #[.int .i64 (-1), .int .i64 0, .int .i64 p] 3 g (fun i hi => by
      rw [hg]
      have : i = 0 ∨ i = 1 ∨ i = 2 := by omega
      rcases this with rfl | rfl | rfl <;> rfl)
    have hb : ∀ i, i < 3 → -1 ≤ g i ∧ g i ≤ 2097152 := fun i hi => by
      rw [hg]
      have h : i = 0 ∨ i = 1 ∨ i = 2 := by omega
      have := hk.1.p0; have := hk.1.p1
      rcases h with rfl | rfl | rfl <;> simp <;> omega
    clear hg
    have hne : w2.heap.size ≠ C := by have := M2.out.cur.lt; omega
    go_wp2_with fail
    clear z0 z1 z2 z3 z4 z5 fz k0 k1 k2 k3 k4 k5 fk
    refine (l1PickInt_of C a b off n cap f _ w2.heap.size 0 3 _ _ _ M3.out.cur (K2.ext E3) hn Sg (by omega) (by omega) hne).mono ?_
    rintro e w3 ⟨i, hi, rfl, hC3, T3⟩
    have M4 := hide (M3.out.touch T3 hC3)
    clear M3 M2 T3 hC3 Sg E3 hne K2
    have hv := hb i hi
    generalize g i = v at *
    clear hb
    obtain ⟨⟨⟨z0, z1, z2, z3, z4, z5⟩, fz⟩, ⟨⟨k0, k1, k2, k3, k4, k5⟩, fk⟩, -, -, -, -, -⟩ := M4.out
    have M5 := hide (M4.out.turn ((Touch.refl S w3).set 1 (.int .i64 v)) (M4.out.cv.set1 v))
    go_wp2
    clear z0 z1 z2 z3 z4 z5 fz k0 k1 k2 k3 k4 k5 fk
    generalize w3.setCell ⟨S, 1, none⟩ (.int .i64 v) = W3 at *
    obtain ⟨⟨⟨z0, z1, z2, z3, z4, z5⟩, fz⟩, -, -, -, -, -, -⟩ := M5.out
    refine bodyPost_ret (v := .agg #[.int .i64 p, .int .i64 v, .int .i64 B, .int .i64 N, .int .i64 x, .int .i64 y]) (by simp [results, Tryd.results41, go_sem, z0, z1, z2, z3, z4, z5]) rfl (M5.out.done ⟨hk.1.p0, hk.1.p1, hv.1, hv.2, hk.1.b0, hk.1.b1, hk.1.n0, hk.1.n1⟩ ⟨hk.2.1.1, by omega⟩ ⟨hk.2.2.1, by omega⟩)
  by_cases c2 : d = 2
  · subst c2
    have E3 := Ext.alloc w2 (.cells #[.int .i64 0, .int .i64 5, .int .i64 98, .int .i64 2097169] 3)
    have M3 := hide (M2.out.ext E3)
    obtain ⟨g, hg⟩ : ∃ g : Nat → Int, g = fun i => if i = 0 then 0 else if i = 1 then 5 else if i = 2 then 98 else 2097169 := ⟨_, rfl⟩
    have Sg := seg_lit w2 #[.int .i64 0, .int .i64 5, .int .i64 98, .int .i64 2097169] 4 g (fun i hi => by
      rw [hg]
      have : i = 0 ∨ i = 1 ∨ i = 2 ∨ i = 3 := by omega
      rcases this with rfl | rfl | rfl | rfl <;> rfl)
    have hb : ∀ i, i < 4 → 0 ≤ g i ∧ g i ≤ 2097169 := fun i hi => by
      rw [hg]
      have h : i = 0 ∨ i = 1 ∨ i = 2 ∨ i = 3 := by omega
      have := hk.1.p0; have := hk.1.p1
      rcases h with rfl | rfl | rfl | rfl <;> simp <;> omega
    clear hg
    have hne : w2.heap.size ≠ C := by have := M2.out.cur.lt; omega
    go_wp2_with fail
    clear z0 z1 z2 z3 z4 z5 fz k0 k1 k2 k3 k4 k5 fk
    refine (l1PickInt_of C a b off n cap f _ w2.heap.size 0 4 _ _ _ M3.out.cur (K2.ext E3) hn Sg (by omega) (by omega) hne).mono ?_
    rintro e w3 ⟨i, hi, rfl, hC3, T3⟩
    have M4 := hide (M3.out.touch T3 hC3)
    clear M3 M2 T3 hC3 Sg E3 hne K2
    have hv := hb i hi
    generalize g i = v at *
    clear hb
    obtain ⟨⟨⟨z0, z1, z2, z3, z4, z5⟩, fz⟩, ⟨⟨k0, k1, k2, k3, k4, k5⟩, fk⟩, -, -, -, -, -⟩ := M4.out
    have M5 := hide (M4.out.turn ((Touch.refl S w3).set 3 (.int .i64 v)) (M4.out.cv.set3 v))
    go_wp2
    clear z0 z1 z2 z3 z4 z5 fz k0 k1 k2 k3 k4 k5 fk
    generalize w3.setCell ⟨S, 3, none⟩ (.int .i64 v) = W3 at *
    obtain ⟨⟨⟨z0, z1, z2, z3, z4, z5⟩, fz⟩, -, -, -, -, -, -⟩ := M5.out
    refine bodyPost_ret (v := .agg #[.int .i64 p, .int .i64 A, .int .i64 B, .int .i64 v, .int .i64 x, .int .i64 y]) (by simp [results, Tryd.results41, go_sem, z0, z1, z2, z3, z4, z5]) rfl (M5.out.done ⟨hk.1.p0, hk.1.p1, hk.1.a0, hk.1.a1, hk.1.b0, hk.1.b1, hv.1, hv.2⟩ ⟨hk.2.1.1, by omega⟩ ⟨hk.2.2.1, by omega⟩)
  by_cases c3 : d = 3
  · subst c3
    have M5 := hide (M2.out.turn ((Touch.refl S w2).set 5 (.int .i64 (y + 1))) (M2.out.cv.set5 (y + 1)))
    have hy := hk.2.2
    go_wp2
    clear z0 z1 z2 z3 z4 z5 fz k0 k1 k2 k3 k4 k5 fk
    generalize w2.setCell ⟨S, 5, none⟩ (.int .i64 (y + 1)) = W3 at *
    obtain ⟨⟨⟨z0, z1, z2, z3, z4, z5⟩, fz⟩, -, -, -, -, -, -⟩ := M5.out
    refine bodyPost_ret (v := .agg #[.int .i64 p, .int .i64 A, .int .i64 B, .int .i64 N, .int .i64 x, .int .i64 (y + 1)]) (by simp [results, Tryd.results41, go_sem, z0, z1, z2, z3, z4, z5]) rfl (M5.out.done hk.1 ⟨hk.2.1.1, by omega⟩ ⟨by omega, by omega⟩)
  by_cases c4 : d = 4
  · subst c4
    have M5 := hide (M2.out.turn (touch_putCv w2 S 7 0 0 7 0 0) (M2.out.cv.put 7 0 0 7 0 0))
    simp only [putCv] at M5
    go_wp2
    clear z0 z1 z2 z3 z4 z5 fz k0 k1 k2 k3 k4 k5 fk
    generalize ((((((w2.setCell ⟨S, 0, none⟩ (.int .i64 7)).setCell ⟨S, 1, none⟩ (.int .i64 0)).setCell ⟨S, 2, none⟩ (.int .i64 0)).setCell ⟨S, 3, none⟩ (.int .i64 7)).setCell ⟨S, 4, none⟩ (.int .i64 0)).setCell ⟨S, 5, none⟩ (.int .i64 0)) = W3 at *
    obtain ⟨⟨⟨z0, z1, z2, z3, z4, z5⟩, fz⟩, -, -, -, -, -, -⟩ := M5.out
    refine bodyPost_ret (v := .agg #[.int .i64 7, .int .i64 0, .int .i64 0, .int .i64 7, .int .i64 0, .int .i64 0]) (by simp [results, Tryd.results41, go_sem, z0, z1, z2, z3, z4, z5]) rfl (M5.out.done ⟨by omega, by omega, by omega, by omega, by omega, by omega, by omega, by omega⟩ ⟨by omega, by omega⟩ ⟨by omega, by omega⟩)
  · go_wp2
    clear z0 z1 z2 z3 z4 z5 fz k0 k1 k2 k3 k4 k5 fk
    obtain ⟨⟨⟨z0, z1, z2, z3, z4, z5⟩, fz⟩, -, -, -, -, -, -⟩ := M2.out
    refine bodyPost_ret (v := .agg #[.int .i64 p, .int .i64 A, .int .i64 B, .int .i64 N, .int .i64 x, .int .i64 y]) (by simp [results, Tryd.results41, go_sem, z0, z1, z2, z3, z4, z5]) rfl (M2.out.done hk.1 ⟨hk.2.1.1, by omega⟩ ⟨hk.2.2.1, by omega⟩)

end Go.Proofs.YtnhemiaklkkilaaDoor
