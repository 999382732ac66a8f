/- Walks: CurveOk and PointOk of the model. Walks: PointAdd and PointMul of the model. -/
import Derived.Test.YtollgoadgjlccaaGreatDoorCz08
namespace Go.Proofs.YtollgoadgjlccaaGreatDoor

section
set_option linter.unusedVariables false

open Go.RowKit

/-- The curve is as the document wants it. -/
structure CvOk (P A B N gx gy : Int) : Prop where
  p5 : 5 ≤ P
  pM : P ≤ 1048576
  p4 : P % 4 = 3
  pp : Prime P.toNat
  a0 : 0 ≤ A
  a1 : A < P
  b0 : 0 ≤ B
  b1 : B < P
  n5 : 5 ≤ N
  nM : N ≤ 2097152
  np : Prime N.toNat
  disc : ¬ P ∣ 4 * (A * A * A) + 27 * (B * B)
  g : On P.toNat A B ⟨gx, gy, false⟩
  far : (mulF P.toNat A N.toNat ⟨gx, gy, false⟩).far = true

/-- A call's answer is whether the curve is so. -/
def GivesCv (P A B N gx gy : Int) (r : Ending) : Prop := ∃ ok : Bool, r = .returned (.bool ok) ∧ (ok = true ↔ CvOk P A B N gx gy)

theorem givesCv_no {P A B N gx gy : Int} (h : ¬ CvOk P A B N gx gy) : GivesCv P A B N gx gy (.returned (.bool false)) := ⟨false, rfl, ⟨fun k => by simp at k, fun k => absurd k h⟩⟩

theorem CvOk.cv {P A B N gx gy : Int} (h : CvOk P A B N gx gy) : Cv P.toNat A B :=
  ⟨h.pp, by have := h.p5; omega, by rw [show ((P.toNat : Nat) : Int) = P by have := h.p5; omega]; exact h.disc⟩

theorem on_inR {p : Nat} {A B : Int} (hp : 0 < p) {a : Pt} (h : On p A B a) : InR p a := by
  rcases h with ⟨_, hx, hy⟩ | ⟨_, k⟩
  · exact ⟨by omega, by omega, by omega, by omega⟩
  · exact ⟨k.x0, k.x1, k.y0, k.y1⟩

theorem disc_model {p A B : Int} : (4 * (A * A % p) * A + 27 * (B * B % p)) % p = 0 ↔ p ∣ 4 * (A * A * A) + 27 * (B * B) := by
  have h1 := mod_dvd p (A * A)
  have h2 := mod_dvd p (B * B)
  generalize A * A % p = u at *
  generalize B * B % p = v at *
  constructor
  · intro h
    exact comb3 (Int.dvd_of_emod_eq_zero h) h1 h2 1 (-4 * A) (-27) (by grind)
  · intro h
    exact Int.emod_eq_zero_of_dvd (comb3 h h1 h2 1 (4 * A) 27 (by grind))

set_option maxHeartbeats 2000000 in
set_option maxRecDepth 100000 in
theorem specCurveOk_any (P A B N gx gy : Int) (w : World) (hP1 : P ≤ 9223372036854775807) (hN1 : N ≤ 9223372036854775807) :
    Calls Tryz.prog 133 #[.agg #[.int .i64 P, .int .i64 A, .int .i64 B, .int .i64 N, .int .i64 gx, .int .i64 gy]] w fun r w' => GivesCv P A B N gx gy r ∧ Below w.heap.size w w' := by
  have Hno : Hid (¬ CvOk P A B N gx gy → GivesCv P A B N gx gy (.returned (.bool false))) := givesCv_no
  go_enter Tryz.func133, Tryz.ntmps133
  go_wp2_with fail
  refine (l1In_int _ _ _ _).mono ?_
  rintro r w' ⟨rfl, hw⟩
  subst hw
  by_cases c1 : 5 ≤ P ∧ P ≤ 1048576
  rotate_left
  · rw [show (decide (5 ≤ P) && decide (P ≤ 1048576)) = false by simp; omega]
    go_wp2
    go_ret
    exact ⟨Hno.out fun k => c1 ⟨k.p5, k.pM⟩, (Below.refl _ _).alloc (Nat.le_refl _) _⟩
  rw [show (decide (5 ≤ P) && decide (P ≤ 1048576)) = true by simp; omega]
  obtain ⟨p5, pM⟩ := c1
  obtain ⟨p, rfl⟩ := Int.eq_ofNat_of_zero_le (show 0 ≤ P by omega)
  by_cases c2 : (p : Int) % 4 = 3
  rotate_left
  · have hb : ((p : Int) % 4 != 3) = true := by simpa using c2
    go_wp2
    go_ret
    exact ⟨Hno.out fun k => c2 k.p4, (Below.refl _ _).alloc (Nat.le_refl _) _⟩
  have hb : ((p : Int) % 4 != 3) = false := by simpa using c2
  have Hc2 := hide c2
  clear c2
  go_wp2_with fail
  refine (specPrimeInt_any _ _ (by omega)).mono ?_
  rintro r w' ⟨⟨ok, rfl, h3⟩, hw⟩
  subst hw
  clear hb
  cases ok
  · have c3 : ¬ Prime ((p : Int)).toNat := fun k => by simpa using h3.2 ⟨by omega, by omega, k⟩
    have Hc := hide c3
    clear h3 c3
    go_wp2
    go_ret
    exact ⟨Hno.out fun k => Hc.out k.pp, (Below.refl _ _).alloc (Nat.le_refl _) _⟩
  have Hc3 := hide (h3.1 rfl).2.2
  clear h3
  go_wp2_with fail
  refine (l1In_int _ _ _ _).mono ?_
  rintro r w' ⟨rfl, hw⟩
  subst hw
  by_cases c4 : 0 ≤ A ∧ A ≤ p - 1
  rotate_left
  · rw [show (decide (0 ≤ A) && decide (A ≤ p - 1)) = false by simp; omega]
    go_wp2
    go_ret
    exact ⟨Hno.out fun k => c4 ⟨k.a0, by have := k.a1; omega⟩, (Below.refl _ _).alloc (Nat.le_refl _) _⟩
  rw [show (decide (0 ≤ A) && decide (A ≤ p - 1)) = true by simp; omega]
  obtain ⟨a0, a1⟩ := c4
  go_wp2_with fail
  refine (l1In_int _ _ _ _).mono ?_
  rintro r w' ⟨rfl, hw⟩
  subst hw
  by_cases c5 : 0 ≤ B ∧ B ≤ p - 1
  rotate_left
  · rw [show (decide (0 ≤ B) && decide (B ≤ p - 1)) = false by simp; omega]
    go_wp2
    go_ret
    exact ⟨Hno.out fun k => c5 ⟨k.b0, by have := k.b1; omega⟩, (Below.refl _ _).alloc (Nat.le_refl _) _⟩
  rw [show (decide (0 ≤ B) && decide (B ≤ p - 1)) = true by simp; omega]
  obtain ⟨b0, b1⟩ := c5
  go_wp2_with fail
  refine (l1In_int _ _ _ _).mono ?_
  rintro r w' ⟨rfl, hw⟩
  subst hw
  by_cases c6 : 5 ≤ N ∧ N ≤ 2097152
  rotate_left
  · rw [show (decide (5 ≤ N) && decide (N ≤ 2097152)) = false by simp; omega]
    go_wp2
    go_ret
    exact ⟨Hno.out fun k => c6 ⟨k.n5, k.nM⟩, (Below.refl _ _).alloc (Nat.le_refl _) _⟩
  rw [show (decide (5 ≤ N) && decide (N ≤ 2097152)) = true by simp; omega]
  obtain ⟨n5, nM⟩ := c6
  go_wp2_with fail
  refine (specPrimeInt_any _ _ (by omega)).mono ?_
  rintro r w' ⟨⟨ok, rfl, h3⟩, hw⟩
  subst hw
  cases ok
  · have c3 : ¬ Prime N.toNat := fun k => by simpa using h3.2 ⟨by omega, by omega, k⟩
    have Hc := hide c3
    clear h3 c3
    go_wp2
    go_ret
    exact ⟨Hno.out fun k => Hc.out k.np, (Below.refl _ _).alloc (Nat.le_refl _) _⟩
  have Hc7 := hide (h3.1 rfl).2.2
  clear h3
  obtain ⟨n, rfl⟩ := Int.eq_ofNat_of_zero_le (show 0 ≤ N by omega)
  have pp : (0 : Int) < p := by omega
  have u0 := Int.emod_nonneg (A * A) (show (p : Int) ≠ 0 by omega)
  have u1 := Int.emod_lt_of_pos (A * A) pp
  have v0 := Int.emod_nonneg (B * B) (show (p : Int) ≠ 0 by omega)
  have v1 := Int.emod_lt_of_pos (B * B) pp
  obtain ⟨s0, s1⟩ := mulBd a0 (show A ≤ 1048576 by omega) a0 (show A ≤ 1048576 by omega)
  obtain ⟨t0, t1⟩ := mulBd b0 (show B ≤ 1048576 by omega) b0 (show B ≤ 1048576 by omega)
  obtain ⟨q0, q1⟩ := mulBd (x := 4 * (A * A % p)) (y := A) (p := 4194304) (q := 1048576) (by omega) (by omega) a0 (by omega)
  by_cases c8 : (4 * (A * A % (p : Int)) * A + 27 * (B * B % (p : Int))) % (p : Int) = 0
  · have hb : ((4 * (A * A % (p : Int)) * A + 27 * (B * B % (p : Int))) % (p : Int) == 0) = true := by simpa using c8
    have Hc := hide (disc_model.1 c8)
    clear c8
    go_wp2
    go_quiet (fail)
    go_wp2
    go_ret
    exact ⟨Hno.out fun k => k.disc Hc.out, below_drewN ((Below.refl _ _).alloc (Nat.le_refl _) _) _⟩
  have hb : ((4 * (A * A % (p : Int)) * A + 27 * (B * B % (p : Int))) % (p : Int) == 0) = false := by simpa using c8
  have Hc8 := hide (fun h => c8 (disc_model.2 h))
  clear c8
  go_wp2
  go_quiet (fail)
  clear hb u0 u1 v0 v1 s0 s1 t0 t1 q0 q1
  go_wp2_with fail
  refine (l3On_any _ A B _ gx gy gx gy false _ (by omega) (by omega) (by omega) (by omega) (by omega) (by omega)).mono ?_
  rintro r w1 ⟨⟨ok, rfl, h9, -⟩, hw1⟩
  replace h9 := h9 a0
  rw [Int.toNat_natCast] at h9
  have Hw1 : Hid (Below w.heap.size w w1) := by
    refine Below.trans ?_ (hw1.mono (by simp <;> omega))
    repeat (first | exact Below.refl _ _ | refine Below.setCell ?_ (by simp <;> omega) _ | refine Below.alloc ?_ (by simp <;> omega) _ | refine below_drewN ?_ _)
  have K1 : CvAt w1 w.heap.size p A B n gx gy := CvAt.below ⟨by simp [go_sem], by simp [go_sem], by simp [go_sem], by simp [go_sem], by simp [go_sem], by simp [go_sem]⟩ hw1 (by simp <;> omega)
  have P1 : PtAt w1 (w.heap.size + 1) ⟨gx, gy, false⟩ := PtAt.below ⟨by simp [go_sem], by simp [go_sem], by simp [go_sem], by simp [go_sem], by simp [go_sem], by simp [go_sem]⟩ hw1 (by simp)
  have hz : w.heap.size + 2 ≤ w1.heap.size := by have := hw1.size; simp at this; omega
  clear hw1
  obtain ⟨k0, k1, k2, k3, k4, k5⟩ := K1
  obtain ⟨g0, g1, g2, _, _, _⟩ := P1
  cases ok
  · have Hc : Hid (¬ On p A B ⟨gx, gy, false⟩) := fun k => by simpa using h9.2 k
    clear h9
    go_wp2
    go_ret
    exact ⟨Hno.out fun k => Hc.out k.g, Hw1.out⟩
  have Hg := hide (h9.1 rfl)
  clear h9
  go_wp2_with fail
  have hin := on_inR (by omega) Hg.out
  refine (l3Mul_any p A B n gx gy n ⟨gx, gy, false⟩ _ Hc3.out (by omega) (by omega) (by omega) (by omega) hin (by omega)).mono ?_
  rintro r w2 ⟨rfl, hw2⟩
  have HF : Hid (GivesCv (p : Int) A B (n : Int) gx gy (.returned (.bool (mulF p A n ⟨gx, gy, false⟩).far))) := by
    refine ⟨_, rfl, ⟨fun h => ⟨p5, pM, Hc2.out, Hc3.out, a0, by omega, b0, by omega, n5, nM, Hc7.out, Hc8.out, ?_, ?_⟩, fun k => ?_⟩⟩
    · exact Hg.out
    · exact h
    · exact k.far
  have Hw2 : Hid (Below w.heap.size w w2) := Hw1.out.trans (hw2.mono (by omega))
  generalize mulF p A n ⟨gx, gy, false⟩ = G at *
  obtain ⟨G0, G1, G2⟩ := G
  simp only [ptV]
  clear hw2 hin
  have hfd : ∀ w : World, (Instr.field 43 (.agg #[.int .i64 G0, .int .i64 G1, .bool G2]) 2).run Tryz.prog w = .ok (.bool G2) w := fun _ => by kernel_rfl
  go_wp2
  go_ret
  exact ⟨HF.out, Hw2.out⟩

theorem CvAt.alloc (w : World) (p A B N gx gy : Int) (t : TypeId) : CvAt (w.alloc (.cells #[.int .i64 p, .int .i64 A, .int .i64 B, .int .i64 N, .int .i64 gx, .int .i64 gy] t)) w.heap.size p A B N gx gy :=
  ⟨by simp [go_sem], by simp [go_sem], by simp [go_sem], by simp [go_sem], by simp [go_sem], by simp [go_sem]⟩

theorem PtAt.alloc (w : World) (a : Pt) (t : TypeId) : PtAt (w.alloc (.cells #[.int .i64 a.x, .int .i64 a.y, .bool a.far] t)) w.heap.size a :=
  ⟨by simp [go_sem], by simp [go_sem], by simp [go_sem], by simp [go_sem], by simp [go_sem], by simp [go_sem]⟩

/-- A call's answer is whether the curve is so and the point is of it. -/
def GivesOk (P A B N gx gy : Int) (a : Pt) (r : Ending) : Prop := ∃ ok : Bool, r = .returned (.bool ok) ∧ (ok = true ↔ CvOk P A B N gx gy ∧ On P.toNat A B a)

set_option maxHeartbeats 800000 in
theorem specPointOk_any (P A B N gx gy : Int) (a : Pt) (w : World) (hP1 : P ≤ 9223372036854775807) (hN1 : N ≤ 9223372036854775807) :
    Calls Tryz.prog 73 #[.agg #[.int .i64 P, .int .i64 A, .int .i64 B, .int .i64 N, .int .i64 gx, .int .i64 gy], .agg #[.int .i64 a.x, .int .i64 a.y, .bool a.far]] w fun r w' => GivesOk P A B N gx gy a r ∧ Below w.heap.size w w' := by
  go_enter Tryz.func73, Tryz.ntmps73
  go_wp2_with fail
  refine (specCurveOk_any P A B N gx gy _ hP1 hN1).mono ?_
  rintro r w1 ⟨⟨ok, rfl, h1⟩, hw1⟩
  have Hw1 : Hid (Below w.heap.size w w1) := by
    refine Below.trans ?_ (hw1.mono (by simp <;> omega))
    repeat (first | exact Below.refl _ _ | refine Below.alloc ?_ (by simp <;> omega) _)
  have K1 : CvAt w1 w.heap.size P A B N gx gy := ((CvAt.alloc w P A B N gx gy _).below ((Below.refl _ _).alloc (Nat.le_refl _) _) (by simp)).below hw1 (by simp <;> omega)
  have P1 : PtAt w1 (w.heap.size + 1) a := by
    have := (PtAt.alloc (w.alloc (.cells #[.int .i64 P, .int .i64 A, .int .i64 B, .int .i64 N, .int .i64 gx, .int .i64 gy] 42)) a 43).below hw1 (by simp)
    simpa using this
  have hz : w.heap.size + 2 ≤ w1.heap.size := by have := hw1.size; simp at this; omega
  clear hw1
  obtain ⟨k0, k1, k2, k3, k4, k5⟩ := K1
  obtain ⟨g0, g1, g2, -, -, -⟩ := P1
  cases ok
  · have HF : Hid (GivesOk P A B N gx gy a (.returned (.bool false))) := ⟨false, rfl, ⟨fun h => by simp at h, fun h => h1.2 h.1⟩⟩
    clear h1
    go_wp2
    go_ret
    exact ⟨HF.out, Hw1.out⟩
  have Hc := hide (h1.1 rfl)
  clear h1
  go_wp2_with fail
  have hc := Hc.out
  refine (l3On_any P A B N gx gy a.x a.y a.far _ (by have := hc.p5; omega) (by have := hc.pM; omega) (by have := hc.a0; omega) (by have := hc.a1; have := hc.pM; omega) hc.b0 (by have := hc.b1; have := hc.pM; omega)).mono ?_
  rintro r w2 ⟨⟨ok, rfl, h2, -⟩, hw2⟩
  have HF : Hid (GivesOk P A B N gx gy a (.returned (.bool ok))) := ⟨ok, rfl, by rw [h2 hc.a0]; exact ⟨fun h => ⟨hc, h⟩, fun h => h.2⟩⟩
  have Hw2 : Hid (Below w.heap.size w w2) := Hw1.out.trans (hw2.mono (by omega))
  clear hc h2 hw2
  go_wp2
  go_ret
  exact ⟨HF.out, Hw2.out⟩

def zeroP : Pt := ⟨0, 0, false⟩

/-- An answer that may be refused. -/
def OptPt (Q : Prop) (v c : Pt) (ok : Bool) : Prop := (ok = true ∧ Q ∧ c = v) ∨ (ok = false ∧ ¬ Q ∧ c = zeroP)

theorem OptPt.unique {Q : Prop} {v c c' : Pt} {ok ok' : Bool} (h : OptPt Q v c ok) (h' : OptPt Q v c' ok') : c = c' ∧ ok = ok' := by
  rcases h with ⟨h1, h2, h3⟩ | ⟨h1, h2, h3⟩ <;> rcases h' with ⟨k1, k2, k3⟩ | ⟨k1, k2, k3⟩
  · exact ⟨h3.trans k3.symm, h1.trans k1.symm⟩
  · exact absurd h2 k2
  · exact absurd k2 h2
  · exact ⟨h3.trans k3.symm, h1.trans k1.symm⟩

def GivesPt (Q : Prop) (v : Pt) (r : Ending) : Prop := ∃ c ok, r = .returned (.tuple #[ptV c, .bool ok]) ∧ OptPt Q v c ok

theorem givesPt_no {Q : Prop} {v : Pt} (h : ¬ Q) : GivesPt Q v (.returned (.tuple #[ptV zeroP, .bool false])) := ⟨zeroP, false, rfl, Or.inr ⟨rfl, h, rfl⟩⟩

theorem givesPt_yes {Q : Prop} {v : Pt} (h : Q) : GivesPt Q v (.returned (.tuple #[ptV v, .bool true])) := ⟨v, true, rfl, Or.inl ⟨rfl, h, rfl⟩⟩
end

section
set_option linter.unusedVariables false

open Go.RowKit

/-- A call's boxes: a curve, two points and the answer's block. -/
structure Fr3 (w wr : World) (P A B N gx gy : Int) (a b z : Pt) : Prop where
  cv : CvAt wr w.heap.size P A B N gx gy
  pa : PtAt wr (w.heap.size + 1) a
  pb : PtAt wr (w.heap.size + 1 + 1) b
  rs : PtAt wr (w.heap.size + 1 + 1 + 1) z
  below : Below w.heap.size w wr
  big : w.heap.size + 4 ≤ wr.heap.size

theorem Fr3.box (w : World) (P A B N gx gy : Int) (a b z : Pt) (t1 t2 t3 t4 : TypeId) :
    Fr3 w ((((w.alloc (.cells #[.int .i64 P, .int .i64 A, .int .i64 B, .int .i64 N, .int .i64 gx, .int .i64 gy] t1)).alloc (.cells #[.int .i64 a.x, .int .i64 a.y, .bool a.far] t2)).alloc (.cells #[.int .i64 b.x, .int .i64 b.y, .bool b.far] t3)).alloc (.cells #[.int .i64 z.x, .int .i64 z.y, .bool z.far] t4)) P A B N gx gy a b z := by
  refine ⟨⟨?_, ?_, ?_, ?_, ?_, ?_⟩, ⟨?_, ?_, ?_, ?_, ?_, ?_⟩, ⟨?_, ?_, ?_, ?_, ?_, ?_⟩, ⟨?_, ?_, ?_, ?_, ?_, ?_⟩, ?_, ?_⟩
  all_goals first | (simp [go_sem]; done) | skip
  repeat (first | exact Below.refl _ _ | refine Below.alloc ?_ (by simp <;> omega) _)

theorem Fr3.call {w wr w1 : World} {P A B N gx gy : Int} {a b z : Pt} (h : Fr3 w wr P A B N gx gy a b z) (hb : Below wr.heap.size wr w1) : Fr3 w w1 P A B N gx gy a b z :=
  ⟨h.cv.below hb (by have := h.big; omega), h.pa.below hb (by have := h.big; omega), h.pb.below hb (by have := h.big; omega), h.rs.below hb (by have := h.big; omega), h.below.trans (hb.mono (by have := h.big; omega)), Nat.le_trans h.big hb.size⟩

/-- A call's boxes: a curve, a point and the answer's block. -/
structure Fr2 (w wr : World) (P A B N gx gy : Int) (a z : Pt) : Prop where
  cv : CvAt wr w.heap.size P A B N gx gy
  pa : PtAt wr (w.heap.size + 1) a
  rs : PtAt wr (w.heap.size + 1 + 1) z
  below : Below w.heap.size w wr
  big : w.heap.size + 3 ≤ wr.heap.size

theorem Fr2.box (w : World) (P A B N gx gy : Int) (a z : Pt) (t1 t2 t4 : TypeId) :
    Fr2 w (((w.alloc (.cells #[.int .i64 P, .int .i64 A, .int .i64 B, .int .i64 N, .int .i64 gx, .int .i64 gy] t1)).alloc (.cells #[.int .i64 a.x, .int .i64 a.y, .bool a.far] t2)).alloc (.cells #[.int .i64 z.x, .int .i64 z.y, .bool z.far] t4)) P A B N gx gy a z := by
  refine ⟨⟨?_, ?_, ?_, ?_, ?_, ?_⟩, ⟨?_, ?_, ?_, ?_, ?_, ?_⟩, ⟨?_, ?_, ?_, ?_, ?_, ?_⟩, ?_, ?_⟩
  all_goals first | (simp [go_sem]; done) | skip
  repeat (first | exact Below.refl _ _ | refine Below.alloc ?_ (by simp <;> omega) _)

theorem Fr2.call {w wr w1 : World} {P A B N gx gy : Int} {a z : Pt} (h : Fr2 w wr P A B N gx gy a z) (hb : Below wr.heap.size wr w1) : Fr2 w w1 P A B N gx gy a z :=
  ⟨h.cv.below hb (by have := h.big; omega), h.pa.below hb (by have := h.big; omega), h.rs.below hb (by have := h.big; omega), h.below.trans (hb.mono (by have := h.big; omega)), Nat.le_trans h.big hb.size⟩

theorem CvOk.nat {P A B N gx gy : Int} (h : CvOk P A B N gx gy) : ((P.toNat : Nat) : Int) = P := by have := h.p5; omega

/-- The multiple's condition. -/
def MulQ (P A B N gx gy n : Int) (a : Pt) : Prop := CvOk P A B N gx gy ∧ On P.toNat A B a ∧ 0 ≤ n ∧ n ≤ 1099511627776
end

end Go.Proofs.YtollgoadgjlccaaGreatDoor
