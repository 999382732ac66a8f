/- Walks: the numbers of a curve of the program. -/
import Derived.Test.YtejlgcnhfomadacDoorCurveL2
namespace Go.Proofs.YtejlgcnhfomadacDoor
set_option linter.unusedVariables false
open Go.RowKit

/-- A curve's numbers are as the document wants them. -/
structure CvNum (P A B N : Int) : Prop where
  p5 : 5 ≤ P
  pM : P ≤ 1048576
  p4 : P % 4 = 3
  pp : Prime P.toNat
  a0 : 0 ≤ A
  a1 : A < P
  b0 : 0 ≤ B
  b1 : B < P
  n5 : 5 ≤ N
  nM : N ≤ 2097152
  np : Prime N.toNat
  disc : ¬ P ∣ 4 * (A * A * A) + 27 * (B * B)

theorem CvOk.num {P A B N gx gy : Int} (h : CvOk P A B N gx gy) : CvNum P A B N := ⟨h.p5, h.pM, h.p4, h.pp, h.a0, h.a1, h.b0, h.b1, h.n5, h.nM, h.np, h.disc⟩

theorem CvNum.cv {P A B N : Int} (h : CvNum P A B N) : Cv P.toNat A B :=
  ⟨h.pp, by have := h.p5; omega, by rw [show ((P.toNat : Nat) : Int) = P by have := h.p5; omega]; exact h.disc⟩

def GivesNum (P A B N : Int) (r : Ending) : Prop := ∃ ok : Bool, r = .returned (.bool ok) ∧ (ok = true ↔ CvNum P A B N)

theorem givesNum_no {P A B N : Int} (h : ¬ CvNum P A B N) : GivesNum P A B N (.returned (.bool false)) := ⟨false, rfl, ⟨fun k => by simp at k, fun k => absurd k h⟩⟩

theorem inField_at (n P : Int) (ok : Bool) (h : (decide (0 ≤ n) && decide (n < P)) = ok) (w : World) : Calls Tryd.prog 65 #[.int .i64 n, .int .i64 P] w fun r w' => r = .returned (.bool ok) ∧ w' = w :=
  (inField_any n P w).mono fun _ _ k => ⟨by rw [k.1, h], k.2⟩

def GivesIff (Q : Prop) (r : Ending) : Prop := ∃ ok : Bool, r = .returned (.bool ok) ∧ (ok = true ↔ Q)

theorem primeUpTo_any (p lim : Int) (w : World) (hp : p ≤ 9223372036854775807) (hl : lim ≤ 1099511627776) : Calls Tryd.prog 63 #[.int .i64 p, .int .i64 lim] w fun r w' => GivesIff (p ≤ lim ∧ 2 ≤ p ∧ Prime p.toNat) r ∧ w' = w := by
  by_cases c : p ≤ lim
  · go_enter Tryd.func63, Tryd.ntmps63
    go_wp2_with fail
    refine (implPrimeInt_any p _ hp).mono ?_
    rintro r w' ⟨⟨ok, rfl, h⟩, hw⟩
    subst hw
    have H : Hid (∀ v : Bool, v = ok → (v = true ↔ p ≤ lim ∧ 2 ≤ p ∧ Prime p.toNat)) := fun v e => by
      rw [e, h]
      exact ⟨fun k => ⟨c, k.1, k.2.2⟩, fun k => ⟨k.2.1, by omega, k.2.2⟩⟩
    clear h
    go_wp2
    go_ret
    exact ⟨⟨_, rfl, H.out _ (by simp)⟩, rfl⟩
  · have H : Hid (false = true ↔ p ≤ lim ∧ 2 ≤ p ∧ Prime p.toNat) := ⟨fun k => by simp at k, fun k => absurd k.1 c⟩
    go_enter Tryd.func63, Tryd.ntmps63
    go_wp2
    go_ret
    exact ⟨⟨_, rfl, H.out⟩, rfl⟩

theorem orderOk_any (n : Int) (w : World) (hp : n ≤ 9223372036854775807) : Calls Tryd.prog 64 #[.int .i64 n] w fun r w' => GivesIff (5 ≤ n ∧ n ≤ 2097152 ∧ Prime n.toNat) r ∧ w' = w := by
  by_cases c : 5 ≤ n
  · go_enter Tryd.func64, Tryd.ntmps64
    go_wp2_with fail
    refine (primeUpTo_any n 2097152 _ hp (by omega)).mono ?_
    rintro r w' ⟨⟨ok, rfl, h⟩, hw⟩
    subst hw
    have H : Hid (∀ v : Bool, v = ok → (v = true ↔ 5 ≤ n ∧ n ≤ 2097152 ∧ Prime n.toNat)) := fun v e => by
      rw [e, h]
      exact ⟨fun k => ⟨c, k.1, k.2.2⟩, fun k => ⟨k.2.1, by omega, k.2.2⟩⟩
    clear h
    go_wp2
    go_ret
    exact ⟨⟨_, rfl, H.out _ (by simp)⟩, rfl⟩
  · have H : Hid (false = true ↔ 5 ≤ n ∧ n ≤ 2097152 ∧ Prime n.toNat) := ⟨fun k => by simp at k, fun k => absurd k.1 c⟩
    go_enter Tryd.func64, Tryd.ntmps64
    go_wp2
    go_ret
    exact ⟨⟨_, rfl, H.out⟩, rfl⟩

theorem mulF_ok {P A B N : Int} (h : CvNum P A B N) {a : Pt} (ha : On P.toNat A B a) {n : Int} (n0 : 0 ≤ n) (n1 : n ≤ 9223372036854775807) : On P.toNat A B (mulF P.toNat A n.toNat a) := mulF_on h.cv (by omega) ha

end Go.Proofs.YtejlgcnhfomadacDoor
