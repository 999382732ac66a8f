/- Walks: CurveOk and PointOk of the model. Walks: PointAdd and PointMul of the model. Walks: curves of the program: farPoint, inField, base, flat, square, opposite, divide, foldOk. Walks: curves of the program: has. Walks: curves of the program: slope, add. -/
import Derived.Test.YtfhiiakoilkbkaaGreatDoorCv09
import Derived.Deep.RegionHeld3
namespace Go.Proofs.YtfhiiakoilkbkaaGreatDoor
set_option linter.unusedVariables false
set_option linter.unusedSimpArgs false
section
open Go.RowKit
structure CvOk (P A B N gx gy : Int) : Prop where
 p5 : 5 ≤ P
 pM : P ≤ 1048576
 p4 : P % 4 = 3
 pp : Prime P.toNat
 a0 : 0 ≤ A
 a1 : A < P
 b0 : 0 ≤ B
 b1 : B < P
 n5 : 5 ≤ N
 nM : N ≤ 2097152
 np : Prime N.toNat
 disc : ¬ P ∣ 4 * (A * A * A) + 27 * (B * B)
 g : On P.toNat A B ⟨gx, gy, false⟩
 far : (mulF P.toNat A N.toNat ⟨gx, gy, false⟩).far = true
def GivesCv (P A B N gx gy : Int) (r : Ending) : Prop := ∃ ok : Bool, r = .returned (.bool ok) ∧ (ok = true ↔ CvOk P A B N gx gy)
theorem givesCv_no {P A B N gx gy : Int} (h : ¬ CvOk P A B N gx gy) : GivesCv P A B N gx gy (.returned (.bool false)) := ⟨false, rfl, ⟨fun k => by simp at k, fun k => absurd k h⟩⟩
theorem on_inR {p : Nat} {A B : Int} (hp : 0 < p) {a : Pt} (h : On p A B a) : InR p a := by
 rcases h with ⟨_, hx, hy⟩ | ⟨_, k⟩
 ·exact ⟨by omega, by omega, by omega, by omega⟩
 ·exact ⟨k.x0, k.x1, k.y0, k.y1⟩
theorem disc_model {p A B : Int} : (4 * (A * A % p) * A + 27 * (B * B % p)) % p = 0 ↔ p ∣ 4 * (A * A * A) + 27 * (B * B) := by
 have h1 := mod_dvd p (A * A)
 have h2 := mod_dvd p (B * B)
 generalize A * A % p = u at *
 generalize B * B % p = v at *
 constructor
 ·intro h
  exact comb3 (Int.dvd_of_emod_eq_zero h) h1 h2 1 (-4 * A) (-27) (by grind)
 ·intro h
  exact Int.emod_eq_zero_of_dvd (comb3 h h1 h2 1 (4 * A) 27 (by grind))
set_option maxHeartbeats 2000000 in
set_option maxRecDepth 100000 in
theorem specCurveOk_any (P A B N gx gy : Int) (w : World) (hP1 : P ≤ 9223372036854775807) (hN1 : N ≤ 9223372036854775807) :
  Calls Tryz.prog 117 #[.agg #[.int .i64 P, .int .i64 A, .int .i64 B, .int .i64 N, .int .i64 gx, .int .i64 gy]] w fun r w' => GivesCv P A B N gx gy r ∧ Below w.heap.size w w' := by
 have Hno : Hid (¬ CvOk P A B N gx gy → GivesCv P A B N gx gy (.returned (.bool false))) := givesCv_no
 go_enter Tryz.func117, Tryz.ntmps117
 go_wp2_with fail
 refine (l1In_int _ _ _ _).mono ?_
 rintro r w' ⟨rfl, hw⟩
 subst hw
 by_cases c1 : 5 ≤ P ∧ P ≤ 1048576
 rotate_left
 ·rw [show (decide (5 ≤ P) && decide (P ≤ 1048576)) = false by simp; omega]
  go_wp2
  go_ret
  exact ⟨Hno.out fun k => c1 ⟨k.p5, k.pM⟩, (Below.refl _ _).alloc (Nat.le_refl _) _⟩
 rw [show (decide (5 ≤ P) && decide (P ≤ 1048576)) = true by simp; omega]
 obtain ⟨p5, pM⟩ := c1
 obtain ⟨p, rfl⟩ := Int.eq_ofNat_of_zero_le (show 0 ≤ P by omega)
 by_cases c2 : (p : Int) % 4 = 3
 rotate_left
 ·have hb : ((p : Int) % 4 != 3) = true := by simpa using c2
  go_wp2
  go_ret
  exact ⟨Hno.out fun k => c2 k.p4, (Below.refl _ _).alloc (Nat.le_refl _) _⟩
 have hb : ((p : Int) % 4 != 3) = false := by simpa using c2
 have Hc2 := hide c2
 clear c2
 go_wp2_with fail
 refine (specPrimeInt_any _ _ (by omega)).mono ?_
 rintro r w' ⟨⟨ok, rfl, h3⟩, hw⟩
 subst hw
 clear hb
 cases ok
 ·have c3 : ¬ Prime ((p : Int)).toNat := fun k => by simpa using h3.2 ⟨by omega, by omega, k⟩
  have Hc := hide c3
  clear h3 c3
  go_wp2
  go_ret
  exact ⟨Hno.out fun k => Hc.out k.pp, (Below.refl _ _).alloc (Nat.le_refl _) _⟩
 have Hc3 := hide (h3.1 rfl).2.2
 clear h3
 go_wp2_with fail
 refine (l1In_int _ _ _ _).mono ?_
 rintro r w' ⟨rfl, hw⟩
 subst hw
 by_cases c4 : 0 ≤ A ∧ A ≤ p - 1
 rotate_left
 ·rw [show (decide (0 ≤ A) && decide (A ≤ p - 1)) = false by simp; omega]
  go_wp2
  go_ret
  exact ⟨Hno.out fun k => c4 ⟨k.a0, by have := k.a1; omega⟩, (Below.refl _ _).alloc (Nat.le_refl _) _⟩
 rw [show (decide (0 ≤ A) && decide (A ≤ p - 1)) = true by simp; omega]
 obtain ⟨a0, a1⟩ := c4
 go_wp2_with fail
 refine (l1In_int _ _ _ _).mono ?_
 rintro r w' ⟨rfl, hw⟩
 subst hw
 by_cases c5 : 0 ≤ B ∧ B ≤ p - 1
 rotate_left
 ·rw [show (decide (0 ≤ B) && decide (B ≤ p - 1)) = false by simp; omega]
  go_wp2
  go_ret
  exact ⟨Hno.out fun k => c5 ⟨k.b0, by have := k.b1; omega⟩, (Below.refl _ _).alloc (Nat.le_refl _) _⟩
 rw [show (decide (0 ≤ B) && decide (B ≤ p - 1)) = true by simp; omega]
 obtain ⟨b0, b1⟩ := c5
 go_wp2_with fail
 refine (l1In_int _ _ _ _).mono ?_
 rintro r w' ⟨rfl, hw⟩
 subst hw
 by_cases c6 : 5 ≤ N ∧ N ≤ 2097152
 rotate_left
 ·rw [show (decide (5 ≤ N) && decide (N ≤ 2097152)) = false by simp; omega]
  go_wp2
  go_ret
  exact ⟨Hno.out fun k => c6 ⟨k.n5, k.nM⟩, (Below.refl _ _).alloc (Nat.le_refl _) _⟩
 rw [show (decide (5 ≤ N) && decide (N ≤ 2097152)) = true by simp; omega]
 obtain ⟨n5, nM⟩ := c6
 go_wp2_with fail
 refine (specPrimeInt_any _ _ (by omega)).mono ?_
 rintro r w' ⟨⟨ok, rfl, h3⟩, hw⟩
 subst hw
 cases ok
 ·have c3 : ¬ Prime N.toNat := fun k => by simpa using h3.2 ⟨by omega, by omega, k⟩
  have Hc := hide c3
  clear h3 c3
  go_wp2
  go_ret
  exact ⟨Hno.out fun k => Hc.out k.np, (Below.refl _ _).alloc (Nat.le_refl _) _⟩
 have Hc7 := hide (h3.1 rfl).2.2
 clear h3
 obtain ⟨n, rfl⟩ := Int.eq_ofNat_of_zero_le (show 0 ≤ N by omega)
 have pp : (0 : Int) < p := by omega
 have u0 := Int.emod_nonneg (A * A) (show (p : Int) ≠ 0 by omega)
 have u1 := Int.emod_lt_of_pos (A * A) pp
 have v0 := Int.emod_nonneg (B * B) (show (p : Int) ≠ 0 by omega)
 have v1 := Int.emod_lt_of_pos (B * B) pp
 obtain ⟨s0, s1⟩ := mulBd a0 (show A ≤ 1048576 by omega) a0 (show A ≤ 1048576 by omega)
 obtain ⟨t0, t1⟩ := mulBd b0 (show B ≤ 1048576 by omega) b0 (show B ≤ 1048576 by omega)
 obtain ⟨q0, q1⟩ := mulBd (x := 4 * (A * A % p)) (y := A) (p := 4194304) (q := 1048576) (by omega) (by omega) a0 (by omega)
 by_cases c8 : (4 * (A * A % (p : Int)) * A + 27 * (B * B % (p : Int))) % (p : Int) = 0
 ·have hb : ((4 * (A * A % (p : Int)) * A + 27 * (B * B % (p : Int))) % (p : Int) == 0) = true := by simpa using c8
  have Hc := hide (disc_model.1 c8)
  clear c8
  go_wp2
  go_quiet (fail)
  go_wp2
  go_ret
  exact ⟨Hno.out fun k => k.disc Hc.out, below_drewN ((Below.refl _ _).alloc (Nat.le_refl _) _) _⟩
 have hb : ((4 * (A * A % (p : Int)) * A + 27 * (B * B % (p : Int))) % (p : Int) == 0) = false := by simpa using c8
 have Hc8 := hide (fun h => c8 (disc_model.2 h))
 clear c8
 go_wp2
 go_quiet (fail)
 clear hb u0 u1 v0 v1 s0 s1 t0 t1 q0 q1
 go_wp2_with fail
 refine (l3On_any _ A B _ gx gy gx gy false _ (by omega) (by omega) (by omega) (by omega) (by omega) (by omega)).mono ?_
 rintro r w1 ⟨⟨ok, rfl, h9, -⟩, hw1⟩
 replace h9 := h9 a0
 rw [Int.toNat_natCast] at h9
 have Hw1 : Hid (Below w.heap.size w w1) := by
  refine Below.trans ?_ (hw1.mono (by simp <;> omega))
  repeat (first | exact Below.refl _ _ | refine Below.setCell ?_ (by simp <;> omega) _ | refine Below.alloc ?_ (by simp <;> omega) _ | refine below_drewN ?_ _)
 have K1 : CvAt w1 w.heap.size p A B n gx gy := CvAt.below ⟨by simp [go_sem], by simp [go_sem], by simp [go_sem], by simp [go_sem], by simp [go_sem], by simp [go_sem]⟩ hw1 (by simp <;> omega)
 have P1 : PtAt w1 (w.heap.size + 1) ⟨gx, gy, false⟩ := PtAt.below ⟨by simp [go_sem], by simp [go_sem], by simp [go_sem], by simp [go_sem], by simp [go_sem], by simp [go_sem]⟩ hw1 (by simp)
 have hz : w.heap.size + 2 ≤ w1.heap.size := by have := hw1.size; simp at this; omega
 clear hw1
 obtain ⟨k0, k1, k2, k3, k4, k5⟩ := K1
 obtain ⟨g0, g1, g2, _, _, _⟩ := P1
 cases ok
 ·have Hc : Hid (¬ On p A B ⟨gx, gy, false⟩) := fun k => by simpa using h9.2 k
  clear h9
  go_wp2
  go_ret
  exact ⟨Hno.out fun k => Hc.out k.g, Hw1.out⟩
 have Hg := hide (h9.1 rfl)
 clear h9
 go_wp2_with fail
 have hin := on_inR (by omega) Hg.out
 refine (l3Mul_any p A B n gx gy n ⟨gx, gy, false⟩ _ Hc3.out (by omega) (by omega) (by omega) (by omega) hin (by omega)).mono ?_
 rintro r w2 ⟨rfl, hw2⟩
 have HF : Hid (GivesCv (p : Int) A B (n : Int) gx gy (.returned (.bool (mulF p A n ⟨gx, gy, false⟩).far))) := by
  refine ⟨_, rfl, ⟨fun h => ⟨p5, pM, Hc2.out, Hc3.out, a0, by omega, b0, by omega, n5, nM, Hc7.out, Hc8.out, ?_, ?_⟩, fun k => ?_⟩⟩
  ·exact Hg.out
  ·exact h
  ·exact k.far
 have Hw2 : Hid (Below w.heap.size w w2) := Hw1.out.trans (hw2.mono (by omega))
 generalize mulF p A n ⟨gx, gy, false⟩ = G at *
 obtain ⟨G0, G1, G2⟩ := G
 simp only [ptV]
 clear hw2 hin
 have hfd : ∀ w : World, (Instr.field 47 (.agg #[.int .i64 G0, .int .i64 G1, .bool G2]) 2).run Tryz.prog w = .ok (.bool G2) w := fun _ => by kernel_rfl
 go_wp2
 go_ret
 exact ⟨HF.out, Hw2.out⟩
theorem CvAt.alloc (w : World) (p A B N gx gy : Int) (t : TypeId) : CvAt (w.alloc (.cells #[.int .i64 p, .int .i64 A, .int .i64 B, .int .i64 N, .int .i64 gx, .int .i64 gy] t)) w.heap.size p A B N gx gy :=
 ⟨by simp [go_sem], by simp [go_sem], by simp [go_sem], by simp [go_sem], by simp [go_sem], by simp [go_sem]⟩
theorem PtAt.alloc (w : World) (a : Pt) (t : TypeId) : PtAt (w.alloc (.cells #[.int .i64 a.x, .int .i64 a.y, .bool a.far] t)) w.heap.size a :=
 ⟨by simp [go_sem], by simp [go_sem], by simp [go_sem], by simp [go_sem], by simp [go_sem], by simp [go_sem]⟩
def GivesOk (P A B N gx gy : Int) (a : Pt) (r : Ending) : Prop := ∃ ok : Bool, r = .returned (.bool ok) ∧ (ok = true ↔ CvOk P A B N gx gy ∧ On P.toNat A B a)
set_option maxHeartbeats 800000 in
theorem specPointOk_any (P A B N gx gy : Int) (a : Pt) (w : World) (hP1 : P ≤ 9223372036854775807) (hN1 : N ≤ 9223372036854775807) :
  Calls Tryz.prog 96 #[.agg #[.int .i64 P, .int .i64 A, .int .i64 B, .int .i64 N, .int .i64 gx, .int .i64 gy], .agg #[.int .i64 a.x, .int .i64 a.y, .bool a.far]] w fun r w' => GivesOk P A B N gx gy a r ∧ Below w.heap.size w w' := by
 go_enter Tryz.func96, Tryz.ntmps96
 go_wp2_with fail
 refine (specCurveOk_any P A B N gx gy _ hP1 hN1).mono ?_
 rintro r w1 ⟨⟨ok, rfl, h1⟩, hw1⟩
 have Hw1 : Hid (Below w.heap.size w w1) := by
  refine Below.trans ?_ (hw1.mono (by simp <;> omega))
  repeat (first | exact Below.refl _ _ | refine Below.alloc ?_ (by simp <;> omega) _)
 have K1 : CvAt w1 w.heap.size P A B N gx gy := ((CvAt.alloc w P A B N gx gy _).below ((Below.refl _ _).alloc (Nat.le_refl _) _) (by simp)).below hw1 (by simp <;> omega)
 have P1 : PtAt w1 (w.heap.size + 1) a := by
  have := (PtAt.alloc (w.alloc (.cells #[.int .i64 P, .int .i64 A, .int .i64 B, .int .i64 N, .int .i64 gx, .int .i64 gy] 46)) a 47).below hw1 (by simp)
  simpa using this
 have hz : w.heap.size + 2 ≤ w1.heap.size := by have := hw1.size; simp at this; omega
 clear hw1
 obtain ⟨k0, k1, k2, k3, k4, k5⟩ := K1
 obtain ⟨g0, g1, g2, -, -, -⟩ := P1
 cases ok
 ·have HF : Hid (GivesOk P A B N gx gy a (.returned (.bool false))) := ⟨false, rfl, ⟨fun h => by simp at h, fun h => h1.2 h.1⟩⟩
  clear h1
  go_wp2
  go_ret
  exact ⟨HF.out, Hw1.out⟩
 have Hc := hide (h1.1 rfl)
 clear h1
 go_wp2_with fail
 have hc := Hc.out
 refine (l3On_any P A B N gx gy a.x a.y a.far _ (by have := hc.p5; omega) (by have := hc.pM; omega) (by have := hc.a0; omega) (by have := hc.a1; have := hc.pM; omega) hc.b0 (by have := hc.b1; have := hc.pM; omega)).mono ?_
 rintro r w2 ⟨⟨ok, rfl, h2, -⟩, hw2⟩
 have HF : Hid (GivesOk P A B N gx gy a (.returned (.bool ok))) := ⟨ok, rfl, by rw [h2 hc.a0]; exact ⟨fun h => ⟨hc, h⟩, fun h => h.2⟩⟩
 have Hw2 : Hid (Below w.heap.size w w2) := Hw1.out.trans (hw2.mono (by omega))
 clear hc h2 hw2
 go_wp2
 go_ret
 exact ⟨HF.out, Hw2.out⟩
def zeroP : Pt := ⟨0, 0, false⟩
def OptPt (Q : Prop) (v c : Pt) (ok : Bool) : Prop := (ok = true ∧ Q ∧ c = v) ∨ (ok = false ∧ ¬ Q ∧ c = zeroP)
def GivesPt (Q : Prop) (v : Pt) (r : Ending) : Prop := ∃ c ok, r = .returned (.tuple #[ptV c, .bool ok]) ∧ OptPt Q v c ok
theorem givesPt_no {Q : Prop} {v : Pt} (h : ¬ Q) : GivesPt Q v (.returned (.tuple #[ptV zeroP, .bool false])) := ⟨zeroP, false, rfl, Or.inr ⟨rfl, h, rfl⟩⟩
theorem givesPt_yes {Q : Prop} {v : Pt} (h : Q) : GivesPt Q v (.returned (.tuple #[ptV v, .bool true])) := ⟨v, true, rfl, Or.inl ⟨rfl, h, rfl⟩⟩
structure Fr3 (w wr : World) (P A B N gx gy : Int) (a b z : Pt) : Prop where
 cv : CvAt wr w.heap.size P A B N gx gy
 pa : PtAt wr (w.heap.size + 1) a
 pb : PtAt wr (w.heap.size + 1 + 1) b
 rs : PtAt wr (w.heap.size + 1 + 1 + 1) z
 below : Below w.heap.size w wr
 big : w.heap.size + 4 ≤ wr.heap.size
theorem Fr3.box (w : World) (P A B N gx gy : Int) (a b z : Pt) (t1 t2 t3 t4 : TypeId) :
  Fr3 w ((((w.alloc (.cells #[.int .i64 P, .int .i64 A, .int .i64 B, .int .i64 N, .int .i64 gx, .int .i64 gy] t1)).alloc (.cells #[.int .i64 a.x, .int .i64 a.y, .bool a.far] t2)).alloc (.cells #[.int .i64 b.x, .int .i64 b.y, .bool b.far] t3)).alloc (.cells #[.int .i64 z.x, .int .i64 z.y, .bool z.far] t4)) P A B N gx gy a b z := by
 refine ⟨⟨?_, ?_, ?_, ?_, ?_, ?_⟩, ⟨?_, ?_, ?_, ?_, ?_, ?_⟩, ⟨?_, ?_, ?_, ?_, ?_, ?_⟩, ⟨?_, ?_, ?_, ?_, ?_, ?_⟩, ?_, ?_⟩
 all_goals first | (simp [go_sem]; done) | skip
 repeat (first | exact Below.refl _ _ | refine Below.alloc ?_ (by simp <;> omega) _)
theorem Fr3.call {w wr w1 : World} {P A B N gx gy : Int} {a b z : Pt} (h : Fr3 w wr P A B N gx gy a b z) (hb : Below wr.heap.size wr w1) : Fr3 w w1 P A B N gx gy a b z :=
 ⟨h.cv.below hb (by have := h.big; omega), h.pa.below hb (by have := h.big; omega), h.pb.below hb (by have := h.big; omega), h.rs.below hb (by have := h.big; omega), h.below.trans (hb.mono (by have := h.big; omega)), Nat.le_trans h.big hb.size⟩
def MulQ (P A B N gx gy n : Int) (a : Pt) : Prop := CvOk P A B N gx gy ∧ On P.toNat A B a ∧ 0 ≤ n ∧ n ≤ 1099511627776
set_option maxHeartbeats 400000 in
theorem farPoint_any (w : World) : Calls Tryz.prog 178 #[] w fun r w' => r = .returned (ptV farP) ∧ Below w.heap.size w w' := by
 go_enter Tryz.func178, Tryz.ntmps178
 go_wp2
 refine bodyPost_ret (v := .agg #[.int .i64 0, .int .i64 0, .bool true]) (by simp [results, Tryz.results178, go_sem]) rfl ⟨rfl, ?_⟩
 repeat (first | exact Below.refl _ _ | refine Below.setCell ?_ (by simp <;> omega) _ | refine Below.alloc ?_ (by simp <;> omega) _)
theorem inField_any (n P : Int) (w : World) : Calls Tryz.prog 188 #[.int .i64 n, .int .i64 P] w fun r w' => r = .returned (.bool (decide (0 ≤ n) && decide (n < P))) ∧ w' = w := by
 by_cases h1 : 0 ≤ n
 ·by_cases h2 : n < P
  ·go_enter Tryz.func188, Tryz.ntmps188
   go_wp2
   go_ret
   exact ⟨ret_bool (by rw [decide_eq_true h1, decide_eq_true h2]; rfl), rfl⟩
  ·go_enter Tryz.func188, Tryz.ntmps188
   go_wp2
   go_ret
   exact ⟨ret_bool (by simp; omega), rfl⟩
 ·go_enter Tryz.func188, Tryz.ntmps188
  go_wp2
  go_ret
  exact ⟨ret_bool (by rw [decide_eq_false (by omega : ¬ 0 ≤ n)]; rfl), rfl⟩
theorem disc_prog {p A B : Int} : (4 * (A * A % p * A) + 27 * B * B) % p = 0 ↔ p ∣ 4 * (A * A * A) + 27 * (B * B) := by
 have h1 := mod_dvd p (A * A)
 generalize A * A % p = u at *
 constructor
 ·intro h
  exact comb2 (Int.dvd_of_emod_eq_zero h) h1 1 (-4 * A) (by grind)
 ·intro h
  exact Int.emod_eq_zero_of_dvd (comb2 h h1 1 (4 * A) (by grind))
set_option maxHeartbeats 400000 in
theorem flat_any (P A B N gx gy : Int) (w : World) (p5 : 5 ≤ P) (pM : P ≤ 1048576) (a0 : 0 ≤ A) (a1 : A < P) (b0 : 0 ≤ B) (b1 : B < P) : Calls Tryz.prog 197 #[.agg #[.int .i64 P, .int .i64 A, .int .i64 B, .int .i64 N, .int .i64 gx, .int .i64 gy]] w fun r w' => (∃ ok : Bool, r = .returned (.bool ok) ∧ (ok = true ↔ P ∣ 4 * (A * A * A) + 27 * (B * B))) ∧ Below w.heap.size w w' := by
 have pp : 0 < P := by omega
 have u0 := Int.emod_nonneg (A * A) (show P ≠ 0 by omega)
 have u1 := Int.emod_lt_of_pos (A * A) pp
 obtain ⟨s0, s1⟩ := mulBd a0 (show A ≤ 1048576 by omega) a0 (show A ≤ 1048576 by omega)
 obtain ⟨t0, t1⟩ := mulBd (x := 27 * B) (y := B) (p := 28311552) (q := 1048576) (by omega) (by omega) b0 (by omega)
 obtain ⟨q0, q1⟩ := mulBd (x := A * A % P) (y := A) (p := 1048576) (q := 1048576) u0 (by omega) a0 (by omega)
 have Hd := hide (disc_prog (p := P) (A := A) (B := B))
 go_enter Tryz.func197, Tryz.ntmps197
 go_wp2
 go_quiet (fail)
 go_wp2
 go_ret
 refine ⟨⟨_, rfl, ?_⟩, below_drewN ((Below.refl _ _).alloc (Nat.le_refl _) _) _⟩
 rw [← Hd.out, beq_iff_eq]
def sqV (p A B x : Int) : Int := (x * x * x + A * x + B) % p
theorem sq_prog {p A B x : Int} : ((x * x + A) % p * x + B) % p = sqV p A B x := by
 have h1 := mod_dvd p (x * x + A)
 generalize (x * x + A) % p = u at *
 exact mod_eq (comb1 h1 x (by grind))
set_option maxHeartbeats 400000 in
theorem square_any (P A B N gx gy x : Int) (w : World) (p5 : 5 ≤ P) (pM : P ≤ 1048576) (a0 : 0 ≤ A) (a1 : A < P) (b0 : 0 ≤ B) (b1 : B < P) (x0 : 0 ≤ x) (x1 : x < P) : Calls Tryz.prog 198 #[.agg #[.int .i64 P, .int .i64 A, .int .i64 B, .int .i64 N, .int .i64 gx, .int .i64 gy], .int .i64 x] w fun r w' => r = .returned (.int .i64 (sqV P A B x)) ∧ Below w.heap.size w w' := by
 have pp : 0 < P := by omega
 obtain ⟨s0, s1⟩ := mulBd x0 (show x ≤ 1048576 by omega) x0 (show x ≤ 1048576 by omega)
 have u0 := Int.emod_nonneg (x * x + A) (show P ≠ 0 by omega)
 have u1 := Int.emod_lt_of_pos (x * x + A) pp
 obtain ⟨q0, q1⟩ := mulBd (x := (x * x + A) % P) (y := x) (p := 1048576) (q := 1048576) u0 (by omega) x0 (by omega)
 have Hd := hide (sq_prog (p := P) (A := A) (B := B) (x := x))
 go_enter Tryz.func198, Tryz.ntmps198
 go_wp2
 go_quiet (fail)
 go_wp2
 go_ret
 exact ⟨ret_int Hd.out, below_drewN ((Below.refl _ _).alloc (Nat.le_refl _) _) _⟩
theorem implInvInt_iv (a : Int) (p : Nat) (w : World) (h0 : -9223372036854775808 ≤ a) (h1 : a ≤ 9223372036854775807) (hp : Prime p) (h3 : 3 ≤ p) (hm : p ≤ 1073741824) :
  Calls Tryz.prog 202 #[.int .i64 a, .int .i64 (p : Int)] w fun r w' => (∃ ok, r = .returned (.tuple #[.int .i64 (iv p a), .bool ok])) ∧ w' = w := by
 refine (implInvInt_any a p w h0 h1).mono ?_
 rintro r w' ⟨⟨v, ok, rfl, hI⟩, hq⟩
 have := hI.2 (by omega) (by omega)
 rw [Int.toNat_natCast] at this
 rw [iv_of_isInv hp h3 this]
 exact ⟨⟨ok, rfl⟩, hq⟩
set_option maxHeartbeats 400000 in
theorem quotient_any (p : Nat) (a b : Int) (w : World) (hpr : Prime p) (p5 : 5 ≤ p) (pM : p ≤ 1048576) (a0 : -9223372036854775808 ≤ a) (a1 : a ≤ 9223372036854775807) (b0 : -9223372036854775808 ≤ b) (b1 : b ≤ 9223372036854775807) : Calls Tryz.prog 192 #[.int .i64 a, .int .i64 b, .int .i64 p] w fun r w' => r = .returned (.int .i64 (a % p * iv p b % p)) ∧ w' = w := by
 have pp : (0 : Int) < p := by omega
 have u0 := Int.emod_nonneg a (show (p : Int) ≠ 0 by omega)
 have u1 := Int.emod_lt_of_pos a pp
 obtain ⟨i0, i1⟩ := iv_range (show 0 < p by omega) b
 obtain ⟨q0, q1⟩ := mulBd (x := a % p) (y := iv p b) (p := 1048576) (q := 1048576) u0 (by omega) i0 (by omega)
 go_enter Tryz.func192, Tryz.ntmps192
 go_wp2_with fail
 refine (implInvInt_iv b p _ b0 b1 hpr (by omega) (by omega)).mono ?_
 rintro r w' ⟨⟨ok, rfl⟩, hw⟩
 subst hw
 go_wp2_with fail
 refine (intRest_any _ _ _ a0 a1 (by omega) (by omega)).mono ?_
 rintro r w' ⟨rfl, rfl⟩
 go_wp2
 go_ret
 exact ⟨rfl, rfl⟩
set_option maxHeartbeats 400000 in
theorem opposite_any (p : Nat) (A B N gx gy : Int) (a : Pt) (w : World) (p5 : 5 ≤ p) (pM : p ≤ 1048576) (y0 : 0 ≤ a.y) (y1 : a.y < p) : Calls Tryz.prog 181 #[.agg #[.int .i64 p, .int .i64 A, .int .i64 B, .int .i64 N, .int .i64 gx, .int .i64 gy], .agg #[.int .i64 a.x, .int .i64 a.y, .bool a.far]] w fun r w' => r = .returned (ptV ⟨a.x, (-a.y) % p, false⟩) ∧ Below w.heap.size w w' := by
 have hwr : IntKind.i64.wrap (-a.y) = -a.y := by rw [IntKind.wrap_i64]; omega
 go_enter Tryz.func181, Tryz.ntmps181
 go_wp2
 go_region_with ((go_at_call 190; refine (intRest_any _ _ _ (by omega) (by omega) (by omega) (by omega)).mono ?_; rintro r w' ⟨rfl, rfl⟩))
 all_goals go_wp2
 all_goals
  refine bodyPost_ret (v := .agg #[.int .i64 a.x, .int .i64 ((-a.y) % p), .bool false]) (by simp [results, Tryz.results181, go_sem]) rfl ⟨rfl, ?_⟩
  repeat (first | exact Below.refl _ _ | refine Below.drew ?_ | refine Below.setCell ?_ (by simp <;> omega) _ | refine Below.alloc ?_ (by simp <;> omega) _)
theorem ptHeld : Tryz.prog.stoodInHeld 47 = false := by kernel_rfl
theorem ptGuard : Tryz.prog.eqGuardType Tryz.prog.depth 47 = false := by kernel_rfl
theorem below_re {B : Nat} {a w : World} (h : Below B a w) (hB : B ≤ w.heap.size) (d : Nat) (os : Array Obj) : Below B a (Sort.grow (redrawn w d) os) := h.trans ((below_regrown w d os).mono hB)
set_option maxHeartbeats 800000 in
set_option maxRecDepth 100000 in
theorem has_far (P A B N gx gy x y : Int) (w : World) : Calls Tryz.prog 179 #[.agg #[.int .i64 P, .int .i64 A, .int .i64 B, .int .i64 N, .int .i64 gx, .int .i64 gy], .agg #[.int .i64 x, .int .i64 y, .bool true]] w fun r w' => (∃ ok : Bool, r = .returned (.bool ok) ∧ (ok = true ↔ x = 0 ∧ y = 0)) ∧ Below w.heap.size w w' := by
 have F := PtAt.alloc (w.alloc (.cells #[.int .i64 P, .int .i64 A, .int .i64 B, .int .i64 N, .int .i64 gx, .int .i64 gy] 46)) ⟨x, y, true⟩ 47
 rw [World.size_alloc] at F
 obtain ⟨c0, c1, c2, -, -, -⟩ := F
 have k0 := cell_regrown c0
 have k1 := cell_regrown c1
 have k2 := cell_regrown c2
 simp only at k0 k1 k2
 clear c0 c1 c2
 have Hf : Hid (∀ (W : World) d os, Calls Tryz.prog 178 #[] (Sort.grow (redrawn W d) os) fun e w'' => e = .returned (.agg #[.int .i64 0, .int .i64 0, .bool true]) ∧ ∃ p : Regrown, w'' = Sort.grow (redrawn W p.d) p.os) := fun W d os => Calls.regrown_of (farPoint_any _)
 have u2 := ptHeld
 have u3 := ptGuard
 by_cases hx : x = 0
 ·have hx' : (x == 0) = true := by simpa using hx
  by_cases hy : y = 0
  ·have hy' : (y == 0) = true := by simpa using hy
   have Hk : Hid (x = 0 ∧ y = 0) := ⟨hx, hy⟩
   clear hx hy
   go_enter Tryz.func179, Tryz.ntmps179
   go_wp2
   refine wp_region_quiet_below (by kernel_rfl) (by kernel_rfl) ?_
   repeat (first | go_big_quiet_step (exact Hf.out _ _ _) | quiet_step (exact Hf.out _ _ _))
   refine wpQuiet_nil ?_
   intro _ hw'
   obtain ⟨⟨dq, osq⟩, hw''⟩ := hw'
   subst hw''
   go_wp2
   go_ret
   exact ⟨⟨true, rfl, ⟨fun _ => Hk.out, fun _ => rfl⟩⟩, below_re (((Below.refl _ _).alloc (Nat.le_refl _) _).alloc (by simp) _) (by simp <;> omega) _ _⟩
  ·have hy' : (y == 0) = false := by simpa using hy
   have Hk : Hid (false = true ↔ x = 0 ∧ y = 0) := ⟨fun h => by simp at h, fun h => absurd h.2 hy⟩
   clear hx hy
   go_enter Tryz.func179, Tryz.ntmps179
   go_wp2
   refine wp_region_quiet_below (by kernel_rfl) (by kernel_rfl) ?_
   repeat (first | go_big_quiet_step (exact Hf.out _ _ _) | quiet_step (exact Hf.out _ _ _))
   refine wpQuiet_nil ?_
   intro _ hw'
   obtain ⟨⟨dq, osq⟩, hw''⟩ := hw'
   subst hw''
   go_wp2
   go_ret
   exact ⟨⟨false, rfl, Hk.out⟩, below_re (((Below.refl _ _).alloc (Nat.le_refl _) _).alloc (by simp) _) (by simp <;> omega) _ _⟩
 ·have hx' : (x == 0) = false := by simpa using hx
  have Hk : Hid (false = true ↔ x = 0 ∧ y = 0) := ⟨fun h => by simp at h, fun h => absurd h.1 hx⟩
  clear hx
  go_enter Tryz.func179, Tryz.ntmps179
  go_wp2
  refine wp_region_quiet_below (by kernel_rfl) (by kernel_rfl) ?_
  repeat (first | go_big_quiet_step (exact Hf.out _ _ _) | quiet_step (exact Hf.out _ _ _))
  refine wpQuiet_nil ?_
  intro _ hw'
  obtain ⟨⟨dq, osq⟩, hw''⟩ := hw'
  subst hw''
  go_wp2
  go_ret
  exact ⟨⟨false, rfl, Hk.out⟩, below_re (((Below.refl _ _).alloc (Nat.le_refl _) _).alloc (by simp) _) (by simp <;> omega) _ _⟩
set_option maxHeartbeats 800000 in
set_option maxRecDepth 100000 in
theorem has_fin (P A B N gx gy x y : Int) (w : World) (p5 : 5 ≤ P) (pM : P ≤ 1048576) (a0 : 0 ≤ A) (a1 : A < P) (b0 : 0 ≤ B) (b1 : B < P) : Calls Tryz.prog 179 #[.agg #[.int .i64 P, .int .i64 A, .int .i64 B, .int .i64 N, .int .i64 gx, .int .i64 gy], .agg #[.int .i64 x, .int .i64 y, .bool false]] w fun r w' => (∃ ok : Bool, r = .returned (.bool ok) ∧ (ok = true ↔ On P.toNat A B ⟨x, y, false⟩)) ∧ Below w.heap.size w w' := by
 have K := (CvAt.alloc w P A B N gx gy 46).below (w' := (w.alloc (.cells #[.int .i64 P, .int .i64 A, .int .i64 B, .int .i64 N, .int .i64 gx, .int .i64 gy] 46)).alloc (.cells #[.int .i64 x, .int .i64 y, .bool false] 47)) ((Below.refl _ _).alloc (Nat.le_refl _) _) (by simp)
 have F := PtAt.alloc (w.alloc (.cells #[.int .i64 P, .int .i64 A, .int .i64 B, .int .i64 N, .int .i64 gx, .int .i64 gy] 46)) ⟨x, y, false⟩ 47
 rw [World.size_alloc] at F
 obtain ⟨c0, c1, c2, -, -, -⟩ := F
 obtain ⟨d0, d1, d2, d3, d4, d5⟩ := K
 have k0 := cell_regrown c0
 have k1 := cell_regrown c1
 have k2 := cell_regrown c2
 have g0 := cell_regrown d0
 have g1 := cell_regrown d1
 have g2 := cell_regrown d2
 have g3 := cell_regrown d3
 have g4 := cell_regrown d4
 have g5 := cell_regrown d5
 simp only at k0 k1 k2
 clear c0 c1 c2 d0 d1 d2 d3 d4 d5
 by_cases cx : 0 ≤ x ∧ x < P
 ·have Hx : Hid (∀ (W : World) d os, Calls Tryz.prog 188 #[.int .i64 x, .int .i64 P] (Sort.grow (redrawn W d) os) fun e w'' => e = .returned (.bool true) ∧ ∃ p : Regrown, w'' = Sort.grow (redrawn W p.d) p.os) := fun W d os => Calls.regrown_of ((inField_any x P _).mono fun _ _ h => ⟨by rw [h.1, show (decide (0 ≤ x) && decide (x < P)) = true by simp; omega], h.2 ▸ Below.refl _ _⟩)
  by_cases cy : 0 ≤ y ∧ y < P
  ·have Hy : Hid (∀ (W : World) d os, Calls Tryz.prog 188 #[.int .i64 y, .int .i64 P] (Sort.grow (redrawn W d) os) fun e w'' => e = .returned (.bool true) ∧ ∃ p : Regrown, w'' = Sort.grow (redrawn W p.d) p.os) := fun W d os => Calls.regrown_of ((inField_any y P _).mono fun _ _ h => ⟨by rw [h.1, show (decide (0 ≤ y) && decide (y < P)) = true by simp; omega], h.2 ▸ Below.refl _ _⟩)
   obtain ⟨x0, x1⟩ := cx
   obtain ⟨y0, y1⟩ := cy
   have Hs : Hid (∀ (W : World) d os, Calls Tryz.prog 198 #[.agg #[.int .i64 P, .int .i64 A, .int .i64 B, .int .i64 N, .int .i64 gx, .int .i64 gy], .int .i64 x] (Sort.grow (redrawn W d) os) fun e w'' => e = .returned (.int .i64 (sqV P A B x)) ∧ ∃ p : Regrown, w'' = Sort.grow (redrawn W p.d) p.os) := fun W d os => Calls.regrown_of (square_any P A B N gx gy x _ p5 pM a0 a1 b0 b1 x0 x1)
   have Hk : Hid ((y * y % P == sqV P A B x) = true ↔ On P.toNat A B ⟨x, y, false⟩) := by
    have e : ((P.toNat : Nat) : Int) = P := by omega
    rw [beq_iff_eq]
    constructor
    ·intro h
     refine Or.inr ⟨rfl, ⟨x0, by simp only; omega, y0, by simp only; omega, ?_⟩⟩
     rw [e]
     exact Int.dvd_of_emod_eq_zero (Int.emod_eq_emod_iff_emod_sub_eq_zero.1 h)
    ·intro h
     have := (h.aff rfl).on
     rw [e] at this
     exact mod_eq this
   obtain ⟨m0, m1⟩ := mulBd y0 (show y ≤ 1048576 by omega) y0 (show y ≤ 1048576 by omega)
   have pp : 0 < P := by omega
   generalize sqV P A B x = S at *
   go_enter Tryz.func179, Tryz.ntmps179
   go_wp2
   refine wp_region_quiet_below (by kernel_rfl) (by kernel_rfl) ?_
   repeat (first | go_big_quiet_step (first | (go_at_call_of 188 (x); exact Hx.out _ _ _) | (go_at_call_of 188 (y); exact Hy.out _ _ _) | (go_at_call 198; exact Hs.out _ _ _)) | quiet_step (first | (go_at_call_of 188 (x); exact Hx.out _ _ _) | (go_at_call_of 188 (y); exact Hy.out _ _ _) | (go_at_call 198; exact Hs.out _ _ _)))
   refine wpQuiet_nil ?_
   intro _ hw'
   obtain ⟨⟨dq, osq⟩, hw''⟩ := hw'
   subst hw''
   go_wp2
   go_ret
   exact ⟨⟨_, rfl, Hk.out⟩, below_re (((Below.refl _ _).alloc (Nat.le_refl _) _).alloc (by simp) _) (by simp <;> omega) _ _⟩
  ·have Hy : Hid (∀ (W : World) d os, Calls Tryz.prog 188 #[.int .i64 y, .int .i64 P] (Sort.grow (redrawn W d) os) fun e w'' => e = .returned (.bool false) ∧ ∃ p : Regrown, w'' = Sort.grow (redrawn W p.d) p.os) := fun W d os => Calls.regrown_of ((inField_any y P _).mono fun _ _ h => ⟨by rw [h.1, show (decide (0 ≤ y) && decide (y < P)) = false by simp; omega], h.2 ▸ Below.refl _ _⟩)
   have Hk : Hid (false = true ↔ On P.toNat A B ⟨x, y, false⟩) := ⟨fun h => by simp at h, fun h => by
    have k := h.aff rfl
    have k1 := k.y0; have k2 := k.y1
    simp only at k1 k2
    exact absurd ⟨k1, by omega⟩ cy⟩
   clear cx cy
   go_enter Tryz.func179, Tryz.ntmps179
   go_wp2
   refine wp_region_quiet_below (by kernel_rfl) (by kernel_rfl) ?_
   repeat (first | go_big_quiet_step (first | (go_at_call_of 188 (x); exact Hx.out _ _ _) | (go_at_call_of 188 (y); exact Hy.out _ _ _)) | quiet_step (first | (go_at_call_of 188 (x); exact Hx.out _ _ _) | (go_at_call_of 188 (y); exact Hy.out _ _ _)))
   refine wpQuiet_nil ?_
   intro _ hw'
   obtain ⟨⟨dq, osq⟩, hw''⟩ := hw'
   subst hw''
   go_wp2
   go_ret
   exact ⟨⟨_, rfl, Hk.out⟩, below_re (((Below.refl _ _).alloc (Nat.le_refl _) _).alloc (by simp) _) (by simp <;> omega) _ _⟩
 ·have Hx : Hid (∀ (W : World) d os, Calls Tryz.prog 188 #[.int .i64 x, .int .i64 P] (Sort.grow (redrawn W d) os) fun e w'' => e = .returned (.bool false) ∧ ∃ p : Regrown, w'' = Sort.grow (redrawn W p.d) p.os) := fun W d os => Calls.regrown_of ((inField_any x P _).mono fun _ _ h => ⟨by rw [h.1, show (decide (0 ≤ x) && decide (x < P)) = false by simp; omega], h.2 ▸ Below.refl _ _⟩)
  have Hk : Hid (false = true ↔ On P.toNat A B ⟨x, y, false⟩) := ⟨fun h => by simp at h, fun h => by
   have k := h.aff rfl
   have k1 := k.x0; have k2 := k.x1
   simp only at k1 k2
   exact absurd ⟨k1, by omega⟩ cx⟩
  clear cx
  go_enter Tryz.func179, Tryz.ntmps179
  go_wp2
  refine wp_region_quiet_below (by kernel_rfl) (by kernel_rfl) ?_
  repeat (first | go_big_quiet_step ((go_at_call 188; exact Hx.out _ _ _)) | quiet_step ((go_at_call 188; exact Hx.out _ _ _)))
  refine wpQuiet_nil ?_
  intro _ hw'
  obtain ⟨⟨dq, osq⟩, hw''⟩ := hw'
  subst hw''
  go_wp2
  go_ret
  exact ⟨⟨_, rfl, Hk.out⟩, below_re (((Below.refl _ _).alloc (Nat.le_refl _) _).alloc (by simp) _) (by simp <;> omega) _ _⟩
theorem has_any (P A B N gx gy : Int) (a : Pt) (w : World) (p5 : 5 ≤ P) (pM : P ≤ 1048576) (a0 : 0 ≤ A) (a1 : A < P) (b0 : 0 ≤ B) (b1 : B < P) : Calls Tryz.prog 179 #[.agg #[.int .i64 P, .int .i64 A, .int .i64 B, .int .i64 N, .int .i64 gx, .int .i64 gy], .agg #[.int .i64 a.x, .int .i64 a.y, .bool a.far]] w fun r w' => (∃ ok : Bool, r = .returned (.bool ok) ∧ (ok = true ↔ On P.toNat A B a)) ∧ Below w.heap.size w w' := by
 obtain ⟨x, y, f⟩ := a
 cases f
 ·exact has_fin P A B N gx gy x y w p5 pM a0 a1 b0 b1
 ·refine (has_far P A B N gx gy x y w).mono ?_
  rintro r w' ⟨⟨ok, rfl, h⟩, hw⟩
  refine ⟨⟨ok, rfl, ?_⟩, hw⟩
  rw [h]
  constructor
  ·rintro ⟨rfl, rfl⟩; exact Or.inl ⟨rfl, rfl, rfl⟩
  ·rintro (⟨_, h1, h2⟩ | ⟨h, _⟩)
   ·exact ⟨h1, h2⟩
   ·simp at h
theorem run_eqPt (x1 y1 x2 y2 : Int) (f1 f2 : Bool) (w : World) : (binOp .eql 47 (.agg #[.int .i64 x1, .int .i64 y1, .bool f1]) (.agg #[.int .i64 x2, .int .i64 y2, .bool f2])).run Tryz.prog w = .ok (.bool (x1 == x2 && (y1 == y2 && f1 == f2))) w := by
 have u2 := ptHeld
 cases hx : (x1 == x2)
 ·simp [go_sem, u2, hx]
 ·cases hy : (y1 == y2)
  ·simp [go_sem, u2, hx, hy]
  ·cases hf : (f1 == f2)
   ·simp [go_sem, u2, hx, hy, hf]
   ·simp [go_sem, u2, hx, hy, hf]
theorem slopeF_tan {p : Nat} {A x y : Int} {f f' : Bool} : (3 * x * x + A) % p * iv p (2 * y) % p = slopeF p A ⟨x, y, f⟩ ⟨x, y, f'⟩ := by
 unfold slopeF
 simp only [if_pos]
 rw [Int.mul_emod, Int.emod_emod, ← Int.mul_emod]
theorem slopeF_cho {p : Nat} {A x1 y1 x2 y2 : Int} {f f' : Bool} (h : x1 ≠ x2) : (y2 - y1) % p * iv p (x2 - x1) % p = slopeF p A ⟨x1, y1, f⟩ ⟨x2, y2, f'⟩ := by
 unfold slopeF
 simp only [if_neg h]
 rw [Int.mul_emod, Int.emod_emod, ← Int.mul_emod]
theorem quotient_bel (p : Nat) (a b : Int) (w : World) (hpr : Prime p) (p5 : 5 ≤ p) (pM : p ≤ 1048576) (a0 : -9223372036854775808 ≤ a) (a1 : a ≤ 9223372036854775807) (b0 : -9223372036854775808 ≤ b) (b1 : b ≤ 9223372036854775807) : Calls Tryz.prog 192 #[.int .i64 a, .int .i64 b, .int .i64 p] w fun r w' => r = .returned (.int .i64 (a % p * iv p b % p)) ∧ Below w.heap.size w w' :=
 (quotient_any p a b w hpr p5 pM a0 a1 b0 b1).mono fun _ _ h => ⟨h.1, h.2 ▸ Below.refl _ _⟩
set_option maxHeartbeats 800000 in
theorem slope_any (p : Nat) (A B N gx gy x1 y1 x2 y2 : Int) (w : World) (hpr : Prime p) (p5 : 5 ≤ p) (pM : p ≤ 1048576) (A0 : 0 ≤ A) (A1 : A < p) (a0 : 0 ≤ x1) (a1 : x1 < p) (a2 : 0 ≤ y1) (a3 : y1 < p) (b0 : 0 ≤ x2) (b1 : x2 < p) (b2 : 0 ≤ y2) (b3 : y2 < p) (hs : x1 = x2 → y1 = y2) :
  Calls Tryz.prog 199 #[.agg #[.int .i64 p, .int .i64 A, .int .i64 B, .int .i64 N, .int .i64 gx, .int .i64 gy], .agg #[.int .i64 x1, .int .i64 y1, .bool false], .agg #[.int .i64 x2, .int .i64 y2, .bool false]] w fun r w' => r = .returned (.int .i64 (slopeF p A ⟨x1, y1, false⟩ ⟨x2, y2, false⟩)) ∧ Below w.heap.size w w' := by
 have hEq := run_eqPt
 have u3 := ptGuard
 by_cases hx : x1 = x2
 ·obtain rfl := hs hx
  subst hx
  have HV := hide (slopeF_tan (p := p) (A := A) (x := x1) (y := y1) (f := false) (f' := false))
  obtain ⟨m0, m1⟩ := mulBd (x := 3 * x1) (y := x1) (p := 3145728) (q := 1048576) (by omega) (by omega) a0 (by omega)
  go_enter Tryz.func199, Tryz.ntmps199
  go_wp2_with fail
  refine (quotient_bel p _ _ _ hpr p5 pM (by omega) (by omega) (by omega) (by omega)).mono ?_
  rintro r w1 ⟨rfl, hw1⟩
  rw [HV.out]
  go_wp2
  go_ret
  refine ⟨rfl, Below.trans ?_ (hw1.mono (by simp <;> omega))⟩
  repeat (first | exact Below.refl _ _ | refine Below.alloc ?_ (by simp <;> omega) _)
 ·have hx' : (x1 == x2) = false := by simpa using hx
  have HV := hide (slopeF_cho (p := p) (A := A) (x1 := x1) (y1 := y1) (x2 := x2) (y2 := y2) (f := false) (f' := false) hx)
  clear hx hs
  go_enter Tryz.func199, Tryz.ntmps199
  go_wp2_with fail
  refine (quotient_bel p _ _ _ hpr p5 pM (by omega) (by omega) (by omega) (by omega)).mono ?_
  rintro r w1 ⟨rfl, hw1⟩
  rw [HV.out]
  go_wp2
  go_ret
  refine ⟨rfl, Below.trans ?_ (hw1.mono (by simp <;> omega))⟩
  repeat (first | exact Below.refl _ _ | refine Below.alloc ?_ (by simp <;> omega) _)
theorem neg_mod_iff {p : Nat} {y1 y2 : Int} (hp : 0 < p) (a2 : 0 ≤ y1) (a3 : y1 < p) : y1 = (-y2) % p ↔ (p : Int) ∣ y1 + y2 := by
 have h := neg_dvd p y2
 constructor
 ·intro e; rw [e]; exact h
 ·intro hd
  refine eq_of_dvd a2 a3 (Int.emod_nonneg _ (by omega)) (Int.emod_lt_of_pos _ (by omega)) ?_
  generalize (-y2) % (p : Int) = z at *
  exact comb2 hd h 1 (-1) (by grind)
theorem slopeF_range {p : Nat} (hp : 0 < p) (A : Int) (a b : Pt) : 0 ≤ slopeF p A a b ∧ slopeF p A a b < p := ⟨Int.emod_nonneg _ (by omega), Int.emod_lt_of_pos _ (by omega)⟩
theorem opposite_re (p : Nat) (A B N gx gy : Int) (x y : Int) (p5 : 5 ≤ p) (pM : p ≤ 1048576) (y0 : 0 ≤ y) (y1 : y < p) (W : World) (d : Nat) (os : Array Obj) : Calls Tryz.prog 181 #[.agg #[.int .i64 p, .int .i64 A, .int .i64 B, .int .i64 N, .int .i64 gx, .int .i64 gy], .agg #[.int .i64 x, .int .i64 y, .bool false]] (Sort.grow (redrawn W d) os) fun r w'' => r = .returned (.agg #[.int .i64 x, .int .i64 ((-y) % p), .bool false]) ∧ ∃ p : Regrown, w'' = Sort.grow (redrawn W p.d) p.os :=
 Calls.regrown_of (opposite_any p A B N gx gy ⟨x, y, false⟩ _ p5 pM y0 y1)
set_option maxHeartbeats 1600000 in
set_option maxRecDepth 100000 in
theorem add_farA (p : Nat) (A B N gx gy x2 y2 : Int) (f2 : Bool) (w : World) (hpr : Prime p) (p5 : 5 ≤ p) (pM : p ≤ 1048576) (A0 : 0 ≤ A) (A1 : A < p) :
  Calls Tryz.prog 180 #[.agg #[.int .i64 p, .int .i64 A, .int .i64 B, .int .i64 N, .int .i64 gx, .int .i64 gy], .agg #[.int .i64 0, .int .i64 0, .bool true], .agg #[.int .i64 x2, .int .i64 y2, .bool f2]] w fun r w' => r = .returned (ptV (addF p A farP ⟨x2, y2, f2⟩)) ∧ Below w.heap.size w w' := by
 have hEq := run_eqPt
 have u3 := ptGuard
 go_enter Tryz.func180, Tryz.ntmps180
 go_wp2_with fail
 refine (farPoint_any _).mono ?_
 rintro r w1 ⟨rfl, hw1⟩
 have F1 := (Fr3.box w p A B N gx gy farP ⟨x2, y2, f2⟩ zeroP 46 47 47 47).call hw1
 have F2 := F1.call ((Below.refl _ _).alloc (Nat.le_refl _) (.cells #[.int .i64 0, .int .i64 0, .bool true] 47))
 have T2 := PtAt.alloc w1 farP 47
 have HF2 := hide F2
 have HT2 := hide T2
 clear hw1 F1
 obtain ⟨⟨k0, k1, k2, k3, k4, k5⟩, ⟨a0, a1, a2, -, -, -⟩, ⟨b0, b1, b2, -, -, -⟩, ⟨r0, r1, r2, q0, q1, q2⟩, -, hbig⟩ := F2
 obtain ⟨t0, t1, t2, -, -, -⟩ := T2
 simp only [ptV, farP]
 go_wp2
 refine bodyPost_ret (v := .agg #[.int .i64 x2, .int .i64 y2, .bool f2]) (by simp [results, Tryz.results180, go_sem, r0, r1, r2]) rfl ⟨rfl, ?_⟩
 exact below_put HF2.out.below (C := w.heap.size + 1 + 1 + 1) (by omega) ⟨x2, y2, f2⟩
set_option maxHeartbeats 1600000 in
set_option maxRecDepth 100000 in
theorem add_farB (p : Nat) (A B N gx gy x1 y1 : Int) (w : World) (hpr : Prime p) (p5 : 5 ≤ p) (pM : p ≤ 1048576) (A0 : 0 ≤ A) (A1 : A < p) :
  Calls Tryz.prog 180 #[.agg #[.int .i64 p, .int .i64 A, .int .i64 B, .int .i64 N, .int .i64 gx, .int .i64 gy], .agg #[.int .i64 x1, .int .i64 y1, .bool false], .agg #[.int .i64 0, .int .i64 0, .bool true]] w fun r w' => r = .returned (ptV (addF p A ⟨x1, y1, false⟩ farP)) ∧ Below w.heap.size w w' := by
 have hEq := run_eqPt
 have u3 := ptGuard
 go_enter Tryz.func180, Tryz.ntmps180
 go_wp2_with fail
 refine (farPoint_any _).mono ?_
 rintro r w1 ⟨rfl, hw1⟩
 have F1 := (Fr3.box w p A B N gx gy ⟨x1, y1, false⟩ farP zeroP 46 47 47 47).call hw1
 have F2 := F1.call ((Below.refl _ _).alloc (Nat.le_refl _) (.cells #[.int .i64 0, .int .i64 0, .bool true] 47))
 have T2 := PtAt.alloc w1 farP 47
 have HF2 := hide F2
 have HT2 := hide T2
 clear hw1 F1
 obtain ⟨⟨k0, k1, k2, k3, k4, k5⟩, ⟨a0, a1, a2, -, -, -⟩, ⟨b0, b1, b2, -, -, -⟩, ⟨r0, r1, r2, q0, q1, q2⟩, -, hbig⟩ := F2
 obtain ⟨t0, t1, t2, -, -, -⟩ := T2
 simp only [ptV, farP]
 go_wp2
 refine bodyPost_ret (v := .agg #[.int .i64 x1, .int .i64 y1, .bool false]) (by simp [results, Tryz.results180, go_sem, r0, r1, r2]) rfl ⟨rfl, ?_⟩
 exact below_put HF2.out.below (C := w.heap.size + 1 + 1 + 1) (by omega) ⟨x1, y1, false⟩
set_option maxHeartbeats 1600000 in
set_option maxRecDepth 100000 in
theorem add_opp (p : Nat) (A B N gx gy x1 y1 x2 y2 : Int) (w : World) (hpr : Prime p) (p5 : 5 ≤ p) (pM : p ≤ 1048576) (A0 : 0 ≤ A) (A1 : A < p) (a0 : 0 ≤ x1) (a1 : x1 < p) (a2 : 0 ≤ y1) (a3 : y1 < p) (b0 : 0 ≤ x2) (b1 : x2 < p) (b2 : 0 ≤ y2) (b3 : y2 < p) (hx : x1 = x2) (hy : y1 = (-y2) % p) :
  Calls Tryz.prog 180 #[.agg #[.int .i64 p, .int .i64 A, .int .i64 B, .int .i64 N, .int .i64 gx, .int .i64 gy], .agg #[.int .i64 x1, .int .i64 y1, .bool false], .agg #[.int .i64 x2, .int .i64 y2, .bool false]] w fun r w' => r = .returned (ptV (addF p A ⟨x1, y1, false⟩ ⟨x2, y2, false⟩)) ∧ Below w.heap.size w w' := by
 have hEq := run_eqPt
 have u3 := ptGuard
 have HV : Hid (addF p A ⟨x1, y1, false⟩ ⟨x2, y2, false⟩ = farP) := addF_opp rfl rfl ⟨hx, (neg_mod_iff (by omega) a2 a3).1 hy⟩
 have hx' : (x1 == x2) = true := by simpa using hx
 have hy' : (y1 == (-y2) % (p : Int)) = true := by simpa using hy
 have Ho : Hid (∀ (W : World) d os, Calls Tryz.prog 181 #[.agg #[.int .i64 p, .int .i64 A, .int .i64 B, .int .i64 N, .int .i64 gx, .int .i64 gy], .agg #[.int .i64 x2, .int .i64 y2, .bool false]] (Sort.grow (redrawn W d) os) fun r w'' => r = .returned (.agg #[.int .i64 x2, .int .i64 ((-y2) % p), .bool false]) ∧ ∃ p : Regrown, w'' = Sort.grow (redrawn W p.d) p.os) := fun W d os => opposite_re p A B N gx gy x2 y2 p5 pM b2 b3 W d os
 clear hx hy
 generalize (-y2) % (p : Int) = z at *
 go_enter Tryz.func180, Tryz.ntmps180
 go_wp2_with fail
 refine (farPoint_any _).mono ?_
 rintro r w1 ⟨rfl, hw1⟩
 have F1 := (Fr3.box w p A B N gx gy ⟨x1, y1, false⟩ ⟨x2, y2, false⟩ zeroP 46 47 47 47).call hw1
 have F2 := F1.call ((Below.refl _ _).alloc (Nat.le_refl _) (.cells #[.int .i64 0, .int .i64 0, .bool true] 47))
 have T2 := PtAt.alloc w1 farP 47
 have HF2 := hide F2
 have HT2 := hide T2
 clear hw1 F1
 obtain ⟨⟨k0, k1, k2, k3, k4, k5⟩, ⟨g0, g1, g2, -, -, -⟩, ⟨h0, h1, h2, -, -, -⟩, ⟨r0, r1, r2, q0, q1, q2⟩, -, hbig⟩ := F2
 obtain ⟨t0, t1, t2, -, -, -⟩ := T2
 simp only [ptV, farP]
 have e0 := cell_regrown k0
 have e1 := cell_regrown k1
 have e2 := cell_regrown k2
 have e3 := cell_regrown k3
 have e4 := cell_regrown k4
 have e5 := cell_regrown k5
 have e6 := cell_regrown g0
 have e7 := cell_regrown g1
 have e8 := cell_regrown g2
 have e9 := cell_regrown h0
 have e10 := cell_regrown h1
 have e11 := cell_regrown h2
 simp only at e6 e7 e8 e9 e10 e11
 go_wp2
 clear k0 k1 k2 k3 k4 k5 g0 g1 g2 h0 h1 h2 r0 r1 r2 q0 q1 q2 t0 t1 t2
 refine wp_region_quiet_below (by kernel_rfl) (by kernel_rfl) ?_
 repeat (first | go_big_quiet_step (exact Ho.out _ _ _) | quiet_step (exact Ho.out _ _ _))
 refine wpQuiet_nil ?_
 intro w2 hw'
 obtain ⟨⟨dq, osq⟩, hw''⟩ := hw'
 have hw2 : Below (w1.alloc (.cells #[.int .i64 0, .int .i64 0, .bool true] 47)).heap.size (w1.alloc (.cells #[.int .i64 0, .int .i64 0, .bool true] 47)) w2 := by rw [hw'']; exact below_regrown _ _ _
 have F3 := HF2.out.call hw2
 have T3 := HT2.out.below hw2 (by simp)
 have HF3 := hide F3
 clear hw'' hw2 HF2 HT2 e0 e1 e2 e3 e4 e5 e6 e7 e8 e9 e10 e11
 obtain ⟨⟨k0, k1, k2, k3, k4, k5⟩, ⟨g0, g1, g2, -, -, -⟩, ⟨h0, h1, h2, -, -, -⟩, ⟨r0, r1, r2, q0, q1, q2⟩, -, -⟩ := F3
 obtain ⟨t0, t1, t2, -, -, -⟩ := T3
 simp only [farP] at t0 t1 t2
 simp only at g0 g1 g2 h0 h1 h2
 go_wp2
 refine bodyPost_ret (v := .agg #[.int .i64 0, .int .i64 0, .bool true]) (by simp [results, Tryz.results180, go_sem, r0, r1, r2]) rfl ⟨by rw [HV.out]; rfl, ?_⟩
 exact below_put HF3.out.below (C := w.heap.size + 1 + 1 + 1) (by omega) farP
end
end Go.Proofs.YtfhiiakoilkbkaaGreatDoor
