/- What the model answers over twisted curves: EdOk, PairOk, EdAdd, EdMul, EdCofactor. Walks: RootInt of the program: isSquare, leastNoSquare, someRoot (the rule of Tonelli and Shanks), RootInt. -/
import Derived.Test.YtfhiiakoilkbkaaGreatDoorCv21
import Derived.Shelf.Spec.TrailingZeros
namespace Go.Proofs.YtfhiiakoilkbkaaGreatDoor
set_option linter.unusedVariables false
set_option linter.unusedSimpArgs false
section
open Go.RowKit
theorem specEdOk_at (P D L bx cy : Int) (hP1 : P ≤ 9223372036854775807) (hL1 : L ≤ 9223372036854775807) (ok : Bool) (hk : ok = true ↔ EvOk P D L bx cy) (w : World) : Calls Tryz.prog 120 #[.agg #[.int .i64 P, .int .i64 D, .int .i64 L, .int .i64 bx, .int .i64 cy]] w fun r w' => r = .returned (.bool ok) ∧ Ext w w' := by
 have no : ¬ EvOk P D L bx cy → (∀ w : World, Calls Tryz.prog 120 #[.agg #[.int .i64 P, .int .i64 D, .int .i64 L, .int .i64 bx, .int .i64 cy]] w fun r w' => r = .returned (.bool false) ∧ Ext w w') → Calls Tryz.prog 120 #[.agg #[.int .i64 P, .int .i64 D, .int .i64 L, .int .i64 bx, .int .i64 cy]] w fun r w' => r = .returned (.bool ok) ∧ Ext w w' := fun h c => by
  have e : ok = false := by cases ok; rfl; exact absurd (hk.1 rfl) h
  rw [e]; exact c w
 by_cases c0 : 13 ≤ P ∧ P ≤ 1048576
 rotate_left
 ·exact no (fun h => c0 ⟨h.p13, h.pM⟩) (specEdOk_no0 P D L bx cy hP1 hL1 c0)
 obtain ⟨p, rfl⟩ := Int.eq_ofNat_of_zero_le (show 0 ≤ P by omega)
 have a1 : (p : Int) ≤ 9223372036854775807 := by omega
 have a2 : 0 ≤ (p : Int) := by omega
 by_cases c1 : (p : Int) % 8 = 5
 rotate_left
 ·exact no (fun h => c1 h.p8) (specEdOk_no1 p D L bx cy a1 a2 hL1 c0 c1)
 by_cases c2 : Prime p
 rotate_left
 ·exact no (fun h => c2 (by simpa using h.pp)) (specEdOk_no2 p D L bx cy a1 a2 hL1 c0 c1 c2)
 by_cases c3 : 2 ≤ D ∧ D ≤ (p : Int) - 1
 rotate_left
 ·exact no (fun h => c3 ⟨h.d2, h.d1⟩) (specEdOk_no3 p D L bx cy a1 a2 hL1 c0 c1 c2 c3)
 by_cases c4 : D.toNat ^ ((p - 1) / 2) % p = p - 1
 rotate_left
 ·exact no (fun h => c4 (by simpa using h.pw)) (specEdOk_no4 p D L bx cy a1 a2 hL1 c0 c1 c2 c3 c4)
 by_cases c5 : 5 ≤ L ∧ L ≤ 2097152
 rotate_left
 ·exact no (fun h => c5 ⟨h.l5, h.lM⟩) (specEdOk_no5 p D L bx cy a1 a2 hL1 c0 c1 c2 c3 c4 c5)
 by_cases c6 : Prime L.toNat
 rotate_left
 ·exact no (fun h => c6 h.lp) (specEdOk_no6 p D L bx cy a1 a2 hL1 c0 c1 c2 c3 c4 c5 c6)
 by_cases ho : OnE p D ⟨bx, cy⟩
 rotate_left
 ·exact no (fun h => ho (by simpa using h.on)) (specEdOk_off p D L bx cy a1 a2 hL1 c0 c1 c2 c3 c4 c5 c6 ho)
 by_cases hn : bx = 0 ∧ cy = 1
 ·exact no (fun h => h.ne hn) (specEdOk_unit p D L bx cy a1 a2 hL1 c0 c1 c2 c3 c4 c5 c6 ho hn)
 by_cases hm : mulE p D L.toNat ⟨bx, cy⟩ = oneE
 rotate_left
 ·exact no (fun h => hm (by simpa using h.fold)) (specEdOk_other p D L bx cy a1 a2 hL1 c0 c1 c2 c3 c4 c5 c6 ho hn hm)
 have e : ok = true := hk.2 ⟨c0.1, c0.2, c1, by simpa using c2, c3.1, c3.2, by simpa using c4, c5.1, c5.2, c6, by simpa using ho, hn, by simpa using hm⟩
 rw [e]
 exact specEdOk_yes p D L bx cy a1 a2 hL1 c0 c1 c2 c3 c4 c5 c6 ho hn hm w
theorem l4On_ok {P D L bx cy : Int} (h : EvOk P D L bx cy) (a : Pr) (ok : Bool) (hk : ok = true ↔ OnE P.toNat D a) (w : World) : Calls Tryz.prog 121 #[.agg #[.int .i64 P, .int .i64 D, .int .i64 L, .int .i64 bx, .int .i64 cy], .agg #[.int .i64 a.x, .int .i64 a.y]] w fun r w' => r = .returned (.bool ok) ∧ Ext w w' := by
 have h13 := h.p13; have hM := h.pM; have h2 := h.d2; have h1 := h.d1
 have := l4On_at P.toNat D L bx cy a ok hk (by omega) (by omega) (by omega) (by omega) w
 rwa [h.nat] at this
theorem specPairOk_at (P D L bx cy : Int) (a : Pr) (hP1 : P ≤ 9223372036854775807) (hL1 : L ≤ 9223372036854775807) (ok : Bool) (hk : ok = true ↔ EvOk P D L bx cy ∧ OnE P.toNat D a) (w : World) : Calls Tryz.prog 98 #[.agg #[.int .i64 P, .int .i64 D, .int .i64 L, .int .i64 bx, .int .i64 cy], .agg #[.int .i64 a.x, .int .i64 a.y]] w fun r w' => r = .returned (.bool ok) ∧ Ext w w' := by
 by_cases h : EvOk P D L bx cy
 ·have hE := specEdOk_at P D L bx cy hP1 hL1 true ⟨fun _ => h, fun _ => rfl⟩
  by_cases ha : OnE P.toNat D a
  ·rw [hk.2 ⟨h, ha⟩]
   exact sPairOk_yes P D L bx cy a hE (l4On_ok h a true ⟨fun _ => ha, fun _ => rfl⟩) w
  ·have e : ok = false := by cases ok; rfl; exact absurd (hk.1 rfl).2 ha
   rw [e]
   exact sPairOk_no2 P D L bx cy a hE (l4On_ok h a false ⟨fun k => by simp at k, fun k => absurd k ha⟩) w
 ·have e : ok = false := by cases ok; rfl; exact absurd (hk.1 rfl).1 h
  rw [e]
  exact sPairOk_no1 P D L bx cy a (specEdOk_at P D L bx cy hP1 hL1 false ⟨fun k => by simp at k, fun k => absurd k h⟩) w
set_option maxHeartbeats 400000 in
theorem isSquare_any (a p : Nat) (w : World) (ha : a < p) (hp : 3 ≤ p) (hm : p ≤ 1048576) :
  Calls Tryz.prog 189 #[.int .i64 (a : Int), .int .i64 (p : Int)] w fun r w' => r = .returned (.bool (decide (a ^ ((p - 1) / 2) % p = 1))) ∧ w' = w := by
 have hd : ((p : Int) - 1) / 2 = (((p - 1) / 2 : Nat) : Int) := by omega
 have Hc := hide (intPower_any a ((p - 1) / 2) p w ha (by omega) (by omega) (by omega))
 have hp1 : 0 ≤ (p : Int) - 1 := by omega
 have hkb : (p - 1) / 2 ≤ 1048576 := by omega
 generalize (p - 1) / 2 = k at *
 generalize a ^ k % p = v at *
 have Hv := hide (show ((v : Int) == 1) = decide (v = 1) by
  by_cases e : v = 1
  ·subst e; rfl
  ·rw [decide_eq_false e]; simp; omega)
 generalize decide (v = 1) = ok at *
 go_enter Tryz.func189, Tryz.ntmps189
 go_wp2_with fail
 refine Hc.out.mono ?_
 rintro r w' ⟨rfl, hw⟩
 obtain rfl := hw.symm
 clear Hc
 have hv := Hv.out
 generalize (v : Int) = vi at *
 go_wp2
 go_ret
 exact ⟨rfl, rfl⟩
end
end Go.Proofs.YtfhiiakoilkbkaaGreatDoor
