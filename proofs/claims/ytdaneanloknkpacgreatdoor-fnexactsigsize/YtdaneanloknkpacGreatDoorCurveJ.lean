/- Walks: curves of the program: has. -/
import Derived.Test.YtdaneanloknkpacGreatDoorCurveI
namespace Go.Proofs.YtdaneanloknkpacGreatDoor
set_option linter.unusedVariables false
open Go.RowKit

theorem ptHeld : Tryz.prog.stoodInHeld 36 = false := by kernel_rfl
theorem ptGuard : Tryz.prog.eqGuardType Tryz.prog.depth 36 = false := by kernel_rfl

/-- Behind a region whose callees lay blocks: what was there has not turned. -/
theorem below_re {B : Nat} {a w : World} (h : Below B a w) (hB : B ≤ w.heap.size) (d : Nat) (os : Array Obj) : Below B a (Sort.grow (redrawn w d) os) := h.trans ((below_regrown w d os).mono hB)

set_option maxHeartbeats 800000 in
set_option maxRecDepth 100000 in
theorem has_far (P A B N gx gy x y : Int) (w : World) : Calls Tryz.prog 213 #[.agg #[.int .i64 P, .int .i64 A, .int .i64 B, .int .i64 N, .int .i64 gx, .int .i64 gy], .agg #[.int .i64 x, .int .i64 y, .bool true]] w fun r w' => (∃ ok : Bool, r = .returned (.bool ok) ∧ (ok = true ↔ x = 0 ∧ y = 0)) ∧ Below w.heap.size w w' := by
  have F := PtAt.alloc (w.alloc (.cells #[.int .i64 P, .int .i64 A, .int .i64 B, .int .i64 N, .int .i64 gx, .int .i64 gy] 35)) ⟨x, y, true⟩ 36
  rw [World.size_alloc] at F
  obtain ⟨c0, c1, c2, -, -, -⟩ := F
  have k0 := cell_regrown c0
  have k1 := cell_regrown c1
  have k2 := cell_regrown c2
  simp only at k0 k1 k2
  clear c0 c1 c2
  have Hf : Hid (∀ (W : World) d os, Calls Tryz.prog 199 #[] (Sort.grow (redrawn W d) os) fun e w'' => e = .returned (.agg #[.int .i64 0, .int .i64 0, .bool true]) ∧ ∃ p : Regrown, w'' = Sort.grow (redrawn W p.d) p.os) := fun W d os => Calls.regrown_of (farPoint_any _)
  have u2 := ptHeld
  have u3 := ptGuard
  by_cases hx : x = 0
  · have hx' : (x == 0) = true := by simpa using hx
    by_cases hy : y = 0
    · have hy' : (y == 0) = true := by simpa using hy
      have Hk : Hid (x = 0 ∧ y = 0) := ⟨hx, hy⟩
      clear hx hy
      go_enter Tryz.func213, Tryz.ntmps213
      go_wp2
      refine wp_region_quiet_below (by kernel_rfl) (by kernel_rfl) ?_
      repeat (first | go_big_quiet_step (exact Hf.out _ _ _) | quiet_step (exact Hf.out _ _ _))
      refine wpQuiet_nil ?_
      intro _ hw'
      obtain ⟨⟨dq, osq⟩, hw''⟩ := hw'
      subst hw''
      go_wp2
      go_ret
      exact ⟨⟨true, rfl, ⟨fun _ => Hk.out, fun _ => rfl⟩⟩, below_re (((Below.refl _ _).alloc (Nat.le_refl _) _).alloc (by simp) _) (by simp <;> omega) _ _⟩
    · have hy' : (y == 0) = false := by simpa using hy
      have Hk : Hid (false = true ↔ x = 0 ∧ y = 0) := ⟨fun h => by simp at h, fun h => absurd h.2 hy⟩
      clear hx hy
      go_enter Tryz.func213, Tryz.ntmps213
      go_wp2
      refine wp_region_quiet_below (by kernel_rfl) (by kernel_rfl) ?_
      repeat (first | go_big_quiet_step (exact Hf.out _ _ _) | quiet_step (exact Hf.out _ _ _))
      refine wpQuiet_nil ?_
      intro _ hw'
      obtain ⟨⟨dq, osq⟩, hw''⟩ := hw'
      subst hw''
      go_wp2
      go_ret
      exact ⟨⟨false, rfl, Hk.out⟩, below_re (((Below.refl _ _).alloc (Nat.le_refl _) _).alloc (by simp) _) (by simp <;> omega) _ _⟩
  · have hx' : (x == 0) = false := by simpa using hx
    have Hk : Hid (false = true ↔ x = 0 ∧ y = 0) := ⟨fun h => by simp at h, fun h => absurd h.1 hx⟩
    clear hx
    go_enter Tryz.func213, Tryz.ntmps213
    go_wp2
    refine wp_region_quiet_below (by kernel_rfl) (by kernel_rfl) ?_
    repeat (first | go_big_quiet_step (exact Hf.out _ _ _) | quiet_step (exact Hf.out _ _ _))
    refine wpQuiet_nil ?_
    intro _ hw'
    obtain ⟨⟨dq, osq⟩, hw''⟩ := hw'
    subst hw''
    go_wp2
    go_ret
    exact ⟨⟨false, rfl, Hk.out⟩, below_re (((Below.refl _ _).alloc (Nat.le_refl _) _).alloc (by simp) _) (by simp <;> omega) _ _⟩

set_option maxHeartbeats 800000 in
set_option maxRecDepth 100000 in
theorem has_fin (P A B N gx gy x y : Int) (w : World) (p5 : 5 ≤ P) (pM : P ≤ 1048576) (a0 : 0 ≤ A) (a1 : A < P) (b0 : 0 ≤ B) (b1 : B < P) : Calls Tryz.prog 213 #[.agg #[.int .i64 P, .int .i64 A, .int .i64 B, .int .i64 N, .int .i64 gx, .int .i64 gy], .agg #[.int .i64 x, .int .i64 y, .bool false]] w fun r w' => (∃ ok : Bool, r = .returned (.bool ok) ∧ (ok = true ↔ On P.toNat A B ⟨x, y, false⟩)) ∧ Below w.heap.size w w' := by
  have K := (CvAt.alloc w P A B N gx gy 35).below (w' := (w.alloc (.cells #[.int .i64 P, .int .i64 A, .int .i64 B, .int .i64 N, .int .i64 gx, .int .i64 gy] 35)).alloc (.cells #[.int .i64 x, .int .i64 y, .bool false] 36)) ((Below.refl _ _).alloc (Nat.le_refl _) _) (by simp)
  have F := PtAt.alloc (w.alloc (.cells #[.int .i64 P, .int .i64 A, .int .i64 B, .int .i64 N, .int .i64 gx, .int .i64 gy] 35)) ⟨x, y, false⟩ 36
  rw [World.size_alloc] at F
  obtain ⟨c0, c1, c2, -, -, -⟩ := F
  obtain ⟨d0, d1, d2, d3, d4, d5⟩ := K
  have k0 := cell_regrown c0
  have k1 := cell_regrown c1
  have k2 := cell_regrown c2
  have g0 := cell_regrown d0
  have g1 := cell_regrown d1
  have g2 := cell_regrown d2
  have g3 := cell_regrown d3
  have g4 := cell_regrown d4
  have g5 := cell_regrown d5
  simp only at k0 k1 k2
  clear c0 c1 c2 d0 d1 d2 d3 d4 d5
  by_cases cx : 0 ≤ x ∧ x < P
  · have Hx : Hid (∀ (W : World) d os, Calls Tryz.prog 221 #[.int .i64 x, .int .i64 P] (Sort.grow (redrawn W d) os) fun e w'' => e = .returned (.bool true) ∧ ∃ p : Regrown, w'' = Sort.grow (redrawn W p.d) p.os) := fun W d os => Calls.regrown_of ((inField_any x P _).mono fun _ _ h => ⟨by rw [h.1, show (decide (0 ≤ x) && decide (x < P)) = true by simp; omega], h.2 ▸ Below.refl _ _⟩)
    by_cases cy : 0 ≤ y ∧ y < P
    · have Hy : Hid (∀ (W : World) d os, Calls Tryz.prog 221 #[.int .i64 y, .int .i64 P] (Sort.grow (redrawn W d) os) fun e w'' => e = .returned (.bool true) ∧ ∃ p : Regrown, w'' = Sort.grow (redrawn W p.d) p.os) := fun W d os => Calls.regrown_of ((inField_any y P _).mono fun _ _ h => ⟨by rw [h.1, show (decide (0 ≤ y) && decide (y < P)) = true by simp; omega], h.2 ▸ Below.refl _ _⟩)
      obtain ⟨x0, x1⟩ := cx
      obtain ⟨y0, y1⟩ := cy
      have Hs : Hid (∀ (W : World) d os, Calls Tryz.prog 262 #[.agg #[.int .i64 P, .int .i64 A, .int .i64 B, .int .i64 N, .int .i64 gx, .int .i64 gy], .int .i64 x] (Sort.grow (redrawn W d) os) fun e w'' => e = .returned (.int .i64 (sqV P A B x)) ∧ ∃ p : Regrown, w'' = Sort.grow (redrawn W p.d) p.os) := fun W d os => Calls.regrown_of (square_any P A B N gx gy x _ p5 pM a0 a1 b0 b1 x0 x1)
      have Hk : Hid ((y * y % P == sqV P A B x) = true ↔ On P.toNat A B ⟨x, y, false⟩) := by
        have e : ((P.toNat : Nat) : Int) = P := by omega
        rw [beq_iff_eq]
        constructor
        · intro h
          refine Or.inr ⟨rfl, ⟨x0, by simp only; omega, y0, by simp only; omega, ?_⟩⟩
          rw [e]
          exact Int.dvd_of_emod_eq_zero (Int.emod_eq_emod_iff_emod_sub_eq_zero.1 h)
        · intro h
          have := (h.aff rfl).on
          rw [e] at this
          exact mod_eq this
      obtain ⟨m0, m1⟩ := mulBd y0 (show y ≤ 1048576 by omega) y0 (show y ≤ 1048576 by omega)
      have pp : 0 < P := by omega
      generalize sqV P A B x = S at *
      go_enter Tryz.func213, Tryz.ntmps213
      go_wp2
      refine wp_region_quiet_below (by kernel_rfl) (by kernel_rfl) ?_
      repeat (first | go_big_quiet_step (first | (go_at_call_of 221 (x); exact Hx.out _ _ _) | (go_at_call_of 221 (y); exact Hy.out _ _ _) | (go_at_call 262; exact Hs.out _ _ _)) | quiet_step (first | (go_at_call_of 221 (x); exact Hx.out _ _ _) | (go_at_call_of 221 (y); exact Hy.out _ _ _) | (go_at_call 262; exact Hs.out _ _ _)))
      refine wpQuiet_nil ?_
      intro _ hw'
      obtain ⟨⟨dq, osq⟩, hw''⟩ := hw'
      subst hw''
      go_wp2
      go_ret
      exact ⟨⟨_, rfl, Hk.out⟩, below_re (((Below.refl _ _).alloc (Nat.le_refl _) _).alloc (by simp) _) (by simp <;> omega) _ _⟩
    · have Hy : Hid (∀ (W : World) d os, Calls Tryz.prog 221 #[.int .i64 y, .int .i64 P] (Sort.grow (redrawn W d) os) fun e w'' => e = .returned (.bool false) ∧ ∃ p : Regrown, w'' = Sort.grow (redrawn W p.d) p.os) := fun W d os => Calls.regrown_of ((inField_any y P _).mono fun _ _ h => ⟨by rw [h.1, show (decide (0 ≤ y) && decide (y < P)) = false by simp; omega], h.2 ▸ Below.refl _ _⟩)
      have Hk : Hid (false = true ↔ On P.toNat A B ⟨x, y, false⟩) := ⟨fun h => by simp at h, fun h => by
        have k := h.aff rfl
        have k1 := k.y0; have k2 := k.y1
        simp only at k1 k2
        exact absurd ⟨k1, by omega⟩ cy⟩
      clear cx cy
      go_enter Tryz.func213, Tryz.ntmps213
      go_wp2
      refine wp_region_quiet_below (by kernel_rfl) (by kernel_rfl) ?_
      repeat (first | go_big_quiet_step (first | (go_at_call_of 221 (x); exact Hx.out _ _ _) | (go_at_call_of 221 (y); exact Hy.out _ _ _)) | quiet_step (first | (go_at_call_of 221 (x); exact Hx.out _ _ _) | (go_at_call_of 221 (y); exact Hy.out _ _ _)))
      refine wpQuiet_nil ?_
      intro _ hw'
      obtain ⟨⟨dq, osq⟩, hw''⟩ := hw'
      subst hw''
      go_wp2
      go_ret
      exact ⟨⟨_, rfl, Hk.out⟩, below_re (((Below.refl _ _).alloc (Nat.le_refl _) _).alloc (by simp) _) (by simp <;> omega) _ _⟩
  · have Hx : Hid (∀ (W : World) d os, Calls Tryz.prog 221 #[.int .i64 x, .int .i64 P] (Sort.grow (redrawn W d) os) fun e w'' => e = .returned (.bool false) ∧ ∃ p : Regrown, w'' = Sort.grow (redrawn W p.d) p.os) := fun W d os => Calls.regrown_of ((inField_any x P _).mono fun _ _ h => ⟨by rw [h.1, show (decide (0 ≤ x) && decide (x < P)) = false by simp; omega], h.2 ▸ Below.refl _ _⟩)
    have Hk : Hid (false = true ↔ On P.toNat A B ⟨x, y, false⟩) := ⟨fun h => by simp at h, fun h => by
      have k := h.aff rfl
      have k1 := k.x0; have k2 := k.x1
      simp only at k1 k2
      exact absurd ⟨k1, by omega⟩ cx⟩
    clear cx
    go_enter Tryz.func213, Tryz.ntmps213
    go_wp2
    refine wp_region_quiet_below (by kernel_rfl) (by kernel_rfl) ?_
    repeat (first | go_big_quiet_step ((go_at_call 221; exact Hx.out _ _ _)) | quiet_step ((go_at_call 221; exact Hx.out _ _ _)))
    refine wpQuiet_nil ?_
    intro _ hw'
    obtain ⟨⟨dq, osq⟩, hw''⟩ := hw'
    subst hw''
    go_wp2
    go_ret
    exact ⟨⟨_, rfl, Hk.out⟩, below_re (((Below.refl _ _).alloc (Nat.le_refl _) _).alloc (by simp) _) (by simp <;> omega) _ _⟩

/-- A call's answer is whether a is a point of the curve. -/
theorem has_any (P A B N gx gy : Int) (a : Pt) (w : World) (p5 : 5 ≤ P) (pM : P ≤ 1048576) (a0 : 0 ≤ A) (a1 : A < P) (b0 : 0 ≤ B) (b1 : B < P) : Calls Tryz.prog 213 #[.agg #[.int .i64 P, .int .i64 A, .int .i64 B, .int .i64 N, .int .i64 gx, .int .i64 gy], .agg #[.int .i64 a.x, .int .i64 a.y, .bool a.far]] w fun r w' => (∃ ok : Bool, r = .returned (.bool ok) ∧ (ok = true ↔ On P.toNat A B a)) ∧ Below w.heap.size w w' := by
  obtain ⟨x, y, f⟩ := a
  cases f
  · exact has_fin P A B N gx gy x y w p5 pM a0 a1 b0 b1
  · refine (has_far P A B N gx gy x y w).mono ?_
    rintro r w' ⟨⟨ok, rfl, h⟩, hw⟩
    refine ⟨⟨ok, rfl, ?_⟩, hw⟩
    rw [h]
    constructor
    · rintro ⟨rfl, rfl⟩; exact Or.inl ⟨rfl, rfl, rfl⟩
    · rintro (⟨_, h1, h2⟩ | ⟨h, _⟩)
      · exact ⟨h1, h2⟩
      · simp at h

end Go.Proofs.YtdaneanloknkpacGreatDoor
