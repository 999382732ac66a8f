/- Walks: the numbers of a curve of the program. -/
import Derived.Test.YtdaneanloknkpacGreatDoorCurveL2
namespace Go.Proofs.YtdaneanloknkpacGreatDoor
set_option linter.unusedVariables false
open Go.RowKit

/-- A curve's numbers are as the document wants them. -/
structure CvNum (P A B N : Int) : Prop where
  p5 : 5 ≤ P
  pM : P ≤ 1048576
  p4 : P % 4 = 3
  pp : Prime P.toNat
  a0 : 0 ≤ A
  a1 : A < P
  b0 : 0 ≤ B
  b1 : B < P
  n5 : 5 ≤ N
  nM : N ≤ 2097152
  np : Prime N.toNat
  disc : ¬ P ∣ 4 * (A * A * A) + 27 * (B * B)

theorem CvOk.num {P A B N gx gy : Int} (h : CvOk P A B N gx gy) : CvNum P A B N := ⟨h.p5, h.pM, h.p4, h.pp, h.a0, h.a1, h.b0, h.b1, h.n5, h.nM, h.np, h.disc⟩

theorem CvNum.cv {P A B N : Int} (h : CvNum P A B N) : Cv P.toNat A B :=
  ⟨h.pp, by have := h.p5; omega, by rw [show ((P.toNat : Nat) : Int) = P by have := h.p5; omega]; exact h.disc⟩

def GivesNum (P A B N : Int) (r : Ending) : Prop := ∃ ok : Bool, r = .returned (.bool ok) ∧ (ok = true ↔ CvNum P A B N)

theorem givesNum_no {P A B N : Int} (h : ¬ CvNum P A B N) : GivesNum P A B N (.returned (.bool false)) := ⟨false, rfl, ⟨fun k => by simp at k, fun k => absurd k h⟩⟩

theorem inField_at (n P : Int) (ok : Bool) (h : (decide (0 ≤ n) && decide (n < P)) = ok) (w : World) : Calls Tryz.prog 221 #[.int .i64 n, .int .i64 P] w fun r w' => r = .returned (.bool ok) ∧ w' = w :=
  (inField_any n P w).mono fun _ _ k => ⟨by rw [k.1, h], k.2⟩

def GivesIff (Q : Prop) (r : Ending) : Prop := ∃ ok : Bool, r = .returned (.bool ok) ∧ (ok = true ↔ Q)

theorem primeUpTo_any (p lim : Int) (w : World) (hp : p ≤ 9223372036854775807) (hl : lim ≤ 1099511627776) : Calls Tryz.prog 219 #[.int .i64 p, .int .i64 lim] w fun r w' => GivesIff (p ≤ lim ∧ 2 ≤ p ∧ Prime p.toNat) r ∧ w' = w := by
  by_cases c : p ≤ lim
  · go_enter Tryz.func219, Tryz.ntmps219
    go_wp2_with fail
    refine (implPrimeInt_any p _ hp).mono ?_
    rintro r w' ⟨⟨ok, rfl, h⟩, hw⟩
    subst hw
    have H : Hid (∀ v : Bool, v = ok → (v = true ↔ p ≤ lim ∧ 2 ≤ p ∧ Prime p.toNat)) := fun v e => by
      rw [e, h]
      exact ⟨fun k => ⟨c, k.1, k.2.2⟩, fun k => ⟨k.2.1, by omega, k.2.2⟩⟩
    clear h
    go_wp2
    go_ret
    exact ⟨⟨_, rfl, H.out _ (by simp)⟩, rfl⟩
  · have H : Hid (false = true ↔ p ≤ lim ∧ 2 ≤ p ∧ Prime p.toNat) := ⟨fun k => by simp at k, fun k => absurd k.1 c⟩
    go_enter Tryz.func219, Tryz.ntmps219
    go_wp2
    go_ret
    exact ⟨⟨_, rfl, H.out⟩, rfl⟩

theorem orderOk_any (n : Int) (w : World) (hp : n ≤ 9223372036854775807) : Calls Tryz.prog 220 #[.int .i64 n] w fun r w' => GivesIff (5 ≤ n ∧ n ≤ 2097152 ∧ Prime n.toNat) r ∧ w' = w := by
  by_cases c : 5 ≤ n
  · go_enter Tryz.func220, Tryz.ntmps220
    go_wp2_with fail
    refine (primeUpTo_any n 2097152 _ hp (by omega)).mono ?_
    rintro r w' ⟨⟨ok, rfl, h⟩, hw⟩
    subst hw
    have H : Hid (∀ v : Bool, v = ok → (v = true ↔ 5 ≤ n ∧ n ≤ 2097152 ∧ Prime n.toNat)) := fun v e => by
      rw [e, h]
      exact ⟨fun k => ⟨c, k.1, k.2.2⟩, fun k => ⟨k.2.1, by omega, k.2.2⟩⟩
    clear h
    go_wp2
    go_ret
    exact ⟨⟨_, rfl, H.out _ (by simp)⟩, rfl⟩
  · have H : Hid (false = true ↔ 5 ≤ n ∧ n ≤ 2097152 ∧ Prime n.toNat) := ⟨fun k => by simp at k, fun k => absurd k.1 c⟩
    go_enter Tryz.func220, Tryz.ntmps220
    go_wp2
    go_ret
    exact ⟨⟨_, rfl, H.out⟩, rfl⟩

set_option maxHeartbeats 1600000 in
theorem numbersOk_any (P A B N gx gy : Int) (w : World) (hP1 : P ≤ 9223372036854775807) (hN1 : N ≤ 9223372036854775807) : Calls Tryz.prog 212 #[.agg #[.int .i64 P, .int .i64 A, .int .i64 B, .int .i64 N, .int .i64 gx, .int .i64 gy]] w fun r w' => GivesNum P A B N r ∧ Below w.heap.size w w' := by
  have Hno : Hid (¬ CvNum P A B N → GivesNum P A B N (.returned (.bool false))) := givesNum_no
  by_cases c1 : P < 5
  · go_enter Tryz.func212, Tryz.ntmps212
    go_wp2
    go_ret
    exact ⟨Hno.out fun k => by have := k.p5; omega, (Below.refl _ _).alloc (Nat.le_refl _) _⟩
  by_cases c3 : P % 4 = 3
  rotate_left
  · have hb : (P % 4 == 3) = false := by simpa using c3
    have Hc := hide c3
    clear c3
    go_enter Tryz.func212, Tryz.ntmps212
    go_wp2
    go_ret
    exact ⟨Hno.out fun k => Hc.out k.p4, (Below.refl _ _).alloc (Nat.le_refl _) _⟩
  have hb : (P % 4 == 3) = true := by simpa using c3
  have Hc3 := hide c3
  clear c3
  go_enter Tryz.func212, Tryz.ntmps212
  go_wp2_with fail
  clear hb
  refine (primeUpTo_any P 1048576 _ hP1 (by omega)).mono ?_
  rintro r w' ⟨⟨ok, rfl, h9⟩, hw⟩
  subst hw
  cases ok
  · have Hc : Hid (¬ (P ≤ 1048576 ∧ Prime P.toNat)) := fun k => by simpa using h9.2 ⟨k.1, by omega, k.2⟩
    clear h9
    go_wp2
    go_ret
    exact ⟨Hno.out fun k => Hc.out ⟨k.pM, k.pp⟩, (Below.refl _ _).alloc (Nat.le_refl _) _⟩
  obtain ⟨c2, -, c9⟩ := h9.1 rfl
  have Hc9 := hide c9
  clear h9 c9
  go_wp2_with fail
  refine (orderOk_any N _ hN1).mono ?_
  rintro r w' ⟨⟨ok, rfl, h9⟩, hw⟩
  subst hw
  cases ok
  · have Hc : Hid (¬ (5 ≤ N ∧ N ≤ 2097152 ∧ Prime N.toNat)) := fun k => by simpa using h9.2 k
    clear h9
    go_wp2
    go_ret
    exact ⟨Hno.out fun k => Hc.out ⟨k.n5, k.nM, k.np⟩, (Below.refl _ _).alloc (Nat.le_refl _) _⟩
  have HcN := hide (h9.1 rfl)
  clear h9
  go_wp2_with fail
  by_cases c6 : 0 ≤ A ∧ A < P
  rotate_left
  · refine (inField_at A P false (by simp; omega) _).mono ?_
    rintro r w1 ⟨rfl, rfl⟩
    have Hc := hide c6
    clear c6
    go_wp2
    go_ret
    exact ⟨Hno.out fun k => Hc.out ⟨k.a0, k.a1⟩, (Below.refl _ _).alloc (Nat.le_refl _) _⟩
  refine (inField_at A P true (by simp; omega) _).mono ?_
  rintro r w1 ⟨rfl, rfl⟩
  obtain ⟨a0, a1⟩ := c6
  go_wp2_with fail
  by_cases c7 : 0 ≤ B ∧ B < P
  rotate_left
  · refine (inField_at B P false (by simp; omega) _).mono ?_
    rintro r w2 ⟨rfl, rfl⟩
    have Hc := hide c7
    clear c7
    go_wp2
    go_ret
    exact ⟨Hno.out fun k => Hc.out ⟨k.b0, k.b1⟩, (Below.refl _ _).alloc (Nat.le_refl _) _⟩
  refine (inField_at B P true (by simp; omega) _).mono ?_
  rintro r w2 ⟨rfl, rfl⟩
  obtain ⟨b0, b1⟩ := c7
  go_wp2_with fail
  refine (flat_any P A B N gx gy _ (by omega) (by omega) a0 a1 b0 b1).mono ?_
  rintro r w3 ⟨⟨ok, rfl, h8⟩, hw3⟩
  have Hw3 : Hid (Below w.heap.size w w3) := ((Below.refl _ _).alloc (Nat.le_refl _) _).trans (hw3.mono (by simp))
  have HF : Hid (∀ v : Bool, v = !ok → GivesNum P A B N (.returned (.bool v))) := fun v e => ⟨v, rfl, by
    subst e
    constructor
    · intro k
      refine ⟨by omega, by omega, Hc3.out, Hc9.out, a0, a1, b0, b1, HcN.out.1, HcN.out.2.1, HcN.out.2.2, fun h => ?_⟩
      rw [h8.2 h] at k
      simp at k
    · intro k
      cases ok
      · rfl
      · exact absurd (h8.1 rfl) k.disc⟩
  clear h8 hw3
  go_wp2
  go_ret
  exact ⟨HF.out _ (by simp), Hw3.out⟩

theorem has_at (P A B N gx gy : Int) (a : Pt) (h : CvNum P A B N) (ok : Bool) (hk : ok = true ↔ On P.toNat A B a) (w : World) : Calls Tryz.prog 213 #[.agg #[.int .i64 P, .int .i64 A, .int .i64 B, .int .i64 N, .int .i64 gx, .int .i64 gy], .agg #[.int .i64 a.x, .int .i64 a.y, .bool a.far]] w fun r w' => r = .returned (.bool ok) ∧ Below w.heap.size w w' := by
  refine (has_any P A B N gx gy a w h.p5 h.pM h.a0 h.a1 h.b0 h.b1).mono ?_
  rintro r w' ⟨⟨k, rfl, hk'⟩, hw⟩
  refine ⟨?_, hw⟩
  have : k = ok := by rw [Bool.eq_iff_iff, hk', hk]
  rw [this]

theorem add_at (P A B N gx gy : Int) (a b : Pt) (h : CvNum P A B N) (ha : On P.toNat A B a) (hb : On P.toNat A B b) (w : World) : Calls Tryz.prog 214 #[.agg #[.int .i64 P, .int .i64 A, .int .i64 B, .int .i64 N, .int .i64 gx, .int .i64 gy], .agg #[.int .i64 a.x, .int .i64 a.y, .bool a.far], .agg #[.int .i64 b.x, .int .i64 b.y, .bool b.far]] w fun r w' => r = .returned (ptV (addF P.toNat A a b)) ∧ Below w.heap.size w w' := by
  have e : ((P.toNat : Nat) : Int) = P := by have := h.p5; omega
  have h5 := h.p5; have hM := h.pM; have h0 := h.a0; have h1 := h.a1
  have := add_any P.toNat A B N gx gy a b w h.cv (by omega) h0 (by omega) ha hb
  rwa [e] at this

theorem mulF_ok {P A B N : Int} (h : CvNum P A B N) {a : Pt} (ha : On P.toNat A B a) {n : Int} (n0 : 0 ≤ n) (n1 : n ≤ 9223372036854775807) : On P.toNat A B (mulF P.toNat A n.toNat a) := mulF_on h.cv (by omega) ha

end Go.Proofs.YtdaneanloknkpacGreatDoor
