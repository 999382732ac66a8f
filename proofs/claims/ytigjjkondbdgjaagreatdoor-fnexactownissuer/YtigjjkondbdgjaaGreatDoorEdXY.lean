/- Walks: the model's PairOk, EdAdd, EdMul, EdCofactor. What the model answers over twisted curves: EdOk, PairOk, EdAdd, EdMul, EdCofactor. -/
import Derived.Test.YtigjjkondbdgjaaGreatDoorEdW
namespace Go.Proofs.YtigjjkondbdgjaaGreatDoor

section
set_option linter.unusedVariables false
open Go.RowKit

set_option maxHeartbeats 1600000 in
theorem sPairOk_yes (P D L bx cy : Int) (a : Pr) (hE' : Hid (∀ W : World, Calls Tryz.prog 90 #[.agg #[.int .i64 P, .int .i64 D, .int .i64 L, .int .i64 bx, .int .i64 cy]] W fun e w' => e = .returned (.bool true) ∧ Ext W w')) (hO : Hid (∀ W : World, Calls Tryz.prog 91 #[.agg #[.int .i64 P, .int .i64 D, .int .i64 L, .int .i64 bx, .int .i64 cy], .agg #[.int .i64 a.x, .int .i64 a.y]] W fun e w' => e = .returned (.bool true) ∧ Ext W w')) (w : World) :
    Calls Tryz.prog 55 #[.agg #[.int .i64 P, .int .i64 D, .int .i64 L, .int .i64 bx, .int .i64 cy], .agg #[.int .i64 a.x, .int .i64 a.y]] w fun e w' => e = .returned (.bool true) ∧ Ext w w' := by
  go_enter Tryz.func55, Tryz.ntmps55
  go_wp2_with fail
  refine (hE'.out _).mono ?_
  rintro r w1 ⟨rfl, hw1⟩
  obtain ⟨B0, B1, hE, hz⟩ := box2 w [.int .i64 P, .int .i64 D, .int .i64 L, .int .i64 bx, .int .i64 cy] [.int .i64 a.x, .int .i64 a.y] 44 45 hw1
  clear hw1
  have k0 := (B0 0 _ rfl).1
  have k1 := (B0 1 _ rfl).1
  have k2 := (B0 2 _ rfl).1
  have k3 := (B0 3 _ rfl).1
  have k4 := (B0 4 _ rfl).1
  have f0 := (B1 0 _ rfl).1
  have f1 := (B1 1 _ rfl).1
  go_wp2_with fail
  refine (hO.out _).mono ?_
  rintro r w2 ⟨rfl, hw2⟩
  replace hE := hE.trans hw2
  clear hw2
  go_wp2
  go_ret
  exact ⟨rfl, hE⟩

set_option maxHeartbeats 1600000 in
theorem sPairOk_no1 (P D L bx cy : Int) (a : Pr) (hE' : Hid (∀ W : World, Calls Tryz.prog 90 #[.agg #[.int .i64 P, .int .i64 D, .int .i64 L, .int .i64 bx, .int .i64 cy]] W fun e w' => e = .returned (.bool false) ∧ Ext W w')) (w : World) :
    Calls Tryz.prog 55 #[.agg #[.int .i64 P, .int .i64 D, .int .i64 L, .int .i64 bx, .int .i64 cy], .agg #[.int .i64 a.x, .int .i64 a.y]] w fun e w' => e = .returned (.bool false) ∧ Ext w w' := by
  go_enter Tryz.func55, Tryz.ntmps55
  go_wp2_with fail
  refine (hE'.out _).mono ?_
  rintro r w1 ⟨rfl, hw1⟩
  obtain ⟨B0, B1, hE, hz⟩ := box2 w [.int .i64 P, .int .i64 D, .int .i64 L, .int .i64 bx, .int .i64 cy] [.int .i64 a.x, .int .i64 a.y] 44 45 hw1
  clear hw1
  have k0 := (B0 0 _ rfl).1
  have k1 := (B0 1 _ rfl).1
  have k2 := (B0 2 _ rfl).1
  have k3 := (B0 3 _ rfl).1
  have k4 := (B0 4 _ rfl).1
  have f0 := (B1 0 _ rfl).1
  have f1 := (B1 1 _ rfl).1
  go_wp2
  go_ret
  exact ⟨rfl, hE⟩

set_option maxHeartbeats 1600000 in
theorem sPairOk_no2 (P D L bx cy : Int) (a : Pr) (hE' : Hid (∀ W : World, Calls Tryz.prog 90 #[.agg #[.int .i64 P, .int .i64 D, .int .i64 L, .int .i64 bx, .int .i64 cy]] W fun e w' => e = .returned (.bool true) ∧ Ext W w')) (hO : Hid (∀ W : World, Calls Tryz.prog 91 #[.agg #[.int .i64 P, .int .i64 D, .int .i64 L, .int .i64 bx, .int .i64 cy], .agg #[.int .i64 a.x, .int .i64 a.y]] W fun e w' => e = .returned (.bool false) ∧ Ext W w')) (w : World) :
    Calls Tryz.prog 55 #[.agg #[.int .i64 P, .int .i64 D, .int .i64 L, .int .i64 bx, .int .i64 cy], .agg #[.int .i64 a.x, .int .i64 a.y]] w fun e w' => e = .returned (.bool false) ∧ Ext w w' := by
  go_enter Tryz.func55, Tryz.ntmps55
  go_wp2_with fail
  refine (hE'.out _).mono ?_
  rintro r w1 ⟨rfl, hw1⟩
  obtain ⟨B0, B1, hE, hz⟩ := box2 w [.int .i64 P, .int .i64 D, .int .i64 L, .int .i64 bx, .int .i64 cy] [.int .i64 a.x, .int .i64 a.y] 44 45 hw1
  clear hw1
  have k0 := (B0 0 _ rfl).1
  have k1 := (B0 1 _ rfl).1
  have k2 := (B0 2 _ rfl).1
  have k3 := (B0 3 _ rfl).1
  have k4 := (B0 4 _ rfl).1
  have f0 := (B1 0 _ rfl).1
  have f1 := (B1 1 _ rfl).1
  go_wp2_with fail
  refine (hO.out _).mono ?_
  rintro r w2 ⟨rfl, hw2⟩
  replace hE := hE.trans hw2
  clear hw2
  go_wp2
  go_ret
  exact ⟨rfl, hE⟩
end

section
set_option linter.unusedVariables false
open Go.RowKit

theorem specEdOk_at (P D L bx cy : Int) (hP1 : P ≤ 9223372036854775807) (hL1 : L ≤ 9223372036854775807) (ok : Bool) (hk : ok = true ↔ EvOk P D L bx cy) (w : World) : Calls Tryz.prog 90 #[.agg #[.int .i64 P, .int .i64 D, .int .i64 L, .int .i64 bx, .int .i64 cy]] w fun r w' => r = .returned (.bool ok) ∧ Ext w w' := by
  have no : ¬ EvOk P D L bx cy → (∀ w : World, Calls Tryz.prog 90 #[.agg #[.int .i64 P, .int .i64 D, .int .i64 L, .int .i64 bx, .int .i64 cy]] w fun r w' => r = .returned (.bool false) ∧ Ext w w') → Calls Tryz.prog 90 #[.agg #[.int .i64 P, .int .i64 D, .int .i64 L, .int .i64 bx, .int .i64 cy]] w fun r w' => r = .returned (.bool ok) ∧ Ext w w' := fun h c => by
    have e : ok = false := by cases ok; rfl; exact absurd (hk.1 rfl) h
    rw [e]; exact c w
  by_cases c0 : 13 ≤ P ∧ P ≤ 1048576
  rotate_left
  · exact no (fun h => c0 ⟨h.p13, h.pM⟩) (specEdOk_no0 P D L bx cy hP1 hL1 c0)
  obtain ⟨p, rfl⟩ := Int.eq_ofNat_of_zero_le (show 0 ≤ P by omega)
  have a1 : (p : Int) ≤ 9223372036854775807 := by omega
  have a2 : 0 ≤ (p : Int) := by omega
  by_cases c1 : (p : Int) % 8 = 5
  rotate_left
  · exact no (fun h => c1 h.p8) (specEdOk_no1 p D L bx cy a1 a2 hL1 c0 c1)
  by_cases c2 : Prime p
  rotate_left
  · exact no (fun h => c2 (by simpa using h.pp)) (specEdOk_no2 p D L bx cy a1 a2 hL1 c0 c1 c2)
  by_cases c3 : 2 ≤ D ∧ D ≤ (p : Int) - 1
  rotate_left
  · exact no (fun h => c3 ⟨h.d2, h.d1⟩) (specEdOk_no3 p D L bx cy a1 a2 hL1 c0 c1 c2 c3)
  by_cases c4 : D.toNat ^ ((p - 1) / 2) % p = p - 1
  rotate_left
  · exact no (fun h => c4 (by simpa using h.pw)) (specEdOk_no4 p D L bx cy a1 a2 hL1 c0 c1 c2 c3 c4)
  by_cases c5 : 5 ≤ L ∧ L ≤ 2097152
  rotate_left
  · exact no (fun h => c5 ⟨h.l5, h.lM⟩) (specEdOk_no5 p D L bx cy a1 a2 hL1 c0 c1 c2 c3 c4 c5)
  by_cases c6 : Prime L.toNat
  rotate_left
  · exact no (fun h => c6 h.lp) (specEdOk_no6 p D L bx cy a1 a2 hL1 c0 c1 c2 c3 c4 c5 c6)
  by_cases ho : OnE p D ⟨bx, cy⟩
  rotate_left
  · exact no (fun h => ho (by simpa using h.on)) (specEdOk_off p D L bx cy a1 a2 hL1 c0 c1 c2 c3 c4 c5 c6 ho)
  by_cases hn : bx = 0 ∧ cy = 1
  · exact no (fun h => h.ne hn) (specEdOk_unit p D L bx cy a1 a2 hL1 c0 c1 c2 c3 c4 c5 c6 ho hn)
  by_cases hm : mulE p D L.toNat ⟨bx, cy⟩ = oneE
  rotate_left
  · exact no (fun h => hm (by simpa using h.fold)) (specEdOk_other p D L bx cy a1 a2 hL1 c0 c1 c2 c3 c4 c5 c6 ho hn hm)
  have e : ok = true := hk.2 ⟨c0.1, c0.2, c1, by simpa using c2, c3.1, c3.2, by simpa using c4, c5.1, c5.2, c6, by simpa using ho, hn, by simpa using hm⟩
  rw [e]
  exact specEdOk_yes p D L bx cy a1 a2 hL1 c0 c1 c2 c3 c4 c5 c6 ho hn hm w

theorem l4On_ok {P D L bx cy : Int} (h : EvOk P D L bx cy) (a : Pr) (ok : Bool) (hk : ok = true ↔ OnE P.toNat D a) (w : World) : Calls Tryz.prog 91 #[.agg #[.int .i64 P, .int .i64 D, .int .i64 L, .int .i64 bx, .int .i64 cy], .agg #[.int .i64 a.x, .int .i64 a.y]] w fun r w' => r = .returned (.bool ok) ∧ Ext w w' := by
  have h13 := h.p13; have hM := h.pM; have h2 := h.d2; have h1 := h.d1
  have := l4On_at P.toNat D L bx cy a ok hk (by omega) (by omega) (by omega) (by omega) w
  rwa [h.nat] at this

theorem specPairOk_at (P D L bx cy : Int) (a : Pr) (hP1 : P ≤ 9223372036854775807) (hL1 : L ≤ 9223372036854775807) (ok : Bool) (hk : ok = true ↔ EvOk P D L bx cy ∧ OnE P.toNat D a) (w : World) : Calls Tryz.prog 55 #[.agg #[.int .i64 P, .int .i64 D, .int .i64 L, .int .i64 bx, .int .i64 cy], .agg #[.int .i64 a.x, .int .i64 a.y]] w fun r w' => r = .returned (.bool ok) ∧ Ext w w' := by
  by_cases h : EvOk P D L bx cy
  · have hE := specEdOk_at P D L bx cy hP1 hL1 true ⟨fun _ => h, fun _ => rfl⟩
    by_cases ha : OnE P.toNat D a
    · rw [hk.2 ⟨h, ha⟩]
      exact sPairOk_yes P D L bx cy a hE (l4On_ok h a true ⟨fun _ => ha, fun _ => rfl⟩) w
    · have e : ok = false := by cases ok; rfl; exact absurd (hk.1 rfl).2 ha
      rw [e]
      exact sPairOk_no2 P D L bx cy a hE (l4On_ok h a false ⟨fun k => by simp at k, fun k => absurd k ha⟩) w
  · have e : ok = false := by cases ok; rfl; exact absurd (hk.1 rfl).1 h
    rw [e]
    exact sPairOk_no1 P D L bx cy a (specEdOk_at P D L bx cy hP1 hL1 false ⟨fun k => by simp at k, fun k => absurd k h⟩) w

theorem l4Mul_ok {P D L bx cy : Int} (h : EvOk P D L bx cy) {a : Pr} (ha : OnE P.toNat D a) {n : Int} (n0 : 0 ≤ n) (n1 : n ≤ 1099511627776) (w : World) : Calls Tryz.prog 121 #[.agg #[.int .i64 P, .int .i64 D, .int .i64 L, .int .i64 bx, .int .i64 cy], .int .i64 n, .agg #[.int .i64 a.x, .int .i64 a.y]] w fun r w' => r = .returned (.agg #[.int .i64 (mulE P.toNat D n.toNat a).x, .int .i64 (mulE P.toNat D n.toNat a).y]) ∧ Ext w w' := by
  have h13 := h.p13; have hM := h.pM; have h2 := h.d2; have h1 := h.d1
  have := l4Mul_any P.toNat D L bx cy n.toNat a w h.pp (by omega) (by omega) (by omega) (by omega) ha.inE (by omega)
  rwa [h.nat, show ((n.toNat : Nat) : Int) = n by omega] at this

theorem l4Add_ok {P D L bx cy : Int} (h : EvOk P D L bx cy) {a b : Pr} (ha : OnE P.toNat D a) (hb : OnE P.toNat D b) (w : World) : Calls Tryz.prog 153 #[.agg #[.int .i64 P, .int .i64 D, .int .i64 L, .int .i64 bx, .int .i64 cy], .agg #[.int .i64 a.x, .int .i64 a.y], .agg #[.int .i64 b.x, .int .i64 b.y]] w fun r w' => r = .returned (.agg #[.int .i64 (addE P.toNat D a b).x, .int .i64 (addE P.toNat D a b).y]) ∧ Ext w w' := by
  have h13 := h.p13; have hM := h.pM; have h2 := h.d2; have h1 := h.d1
  have := l4Add_any P.toNat D L bx cy a b w h.pp (by omega) (by omega) (by omega) (by omega) ha.inE hb.inE
  rwa [h.nat] at this

def AddE (P D L bx cy : Int) (a b : Pr) : Prop := EvOk P D L bx cy ∧ OnE P.toNat D a ∧ OnE P.toNat D b

def MulEQ (P D L bx cy n : Int) (a : Pr) : Prop := (EvOk P D L bx cy ∧ OnE P.toNat D a) ∧ 0 ≤ n ∧ n ≤ 1099511627776
end

end Go.Proofs.YtigjjkondbdgjaaGreatDoor
