/- Twisted curves: a pair's bytes, and the pair that bytes tell. Nothing of the program. Twisted curves: when one is right; the three of the model's draws are. Nothing of the program. -/
import Derived.Test.YtollgoadgjlccaaGreatDoorCz17
namespace Go.Proofs.YtollgoadgjlccaaGreatDoor

section
set_option linter.unusedVariables false

/-- The pair that these bytes tell. -/
structure ReadsE (p : Nat) (D : Int) (n : Nat) (f : Nat → Int) (c : Pr) : Prop where
  len : n = 3
  y : c.y = f 0 + f 1 * 256 + f 2 % 128 * 65536
  odd : c.x % 2 = f 2 / 128
  on : OnE p D c

section

variable {p : Nat} {D : Int}

theorem EdC.den (h : EdC p D) (y : Int) : ¬ (p : Int) ∣ 1 + D * (y * y) := by
  intro k
  obtain ⟨i, hi⟩ := h.i
  have k1 := h.ns i y (comb2 hi k 1 (-1) (by grind))
  exact h.unit (comb2 k k1 1 (-(D * y)) (by grind))

theorem EdC.odd (h : EdC p D) : p % 2 = 1 := by
  have h3 := h.three
  rcases Nat.mod_two_eq_zero_or_one p with k | k
  · exact absurd (Nat.dvd_of_mod_eq_zero k) (h.prime.no_div (by omega) (by omega))
  · exact k

theorem sq_two (hp : Prime p) {x z : Int} (x0 : 0 ≤ x) (x1 : x < p) (z0 : 0 ≤ z) (z1 : z < p) (h : (p : Int) ∣ x * x - z * z) : x = z ∨ x + z = p ∨ (x = 0 ∧ z = 0) := by
  have k : (p : Int) ∣ (x - z) * (x + z) := comb1 h 1 (by grind)
  rcases hp.dvd_mul_int k with k | k
  · exact Or.inl (eq_of_dvd x0 x1 z0 z1 k)
  · rcases Classical.em (x + z = 0) with e | e
    · exact Or.inr (Or.inr (by omega))
    · have h1 := Int.le_of_dvd (by omega) k
      obtain ⟨c, hc⟩ := k
      have : c = 1 := by
        have c1 : (p : Int) * c < p * 2 := by omega
        have c2 := Int.lt_of_mul_lt_mul_left c1 (by omega)
        have c3 : 0 < c := by
          rcases Int.lt_or_le 0 c with q | q
          · exact q
          · have := Int.mul_nonpos_of_nonneg_of_nonpos (show 0 ≤ (p : Int) by omega) q
            omega
        omega
      subst this
      exact Or.inr (Or.inl (by omega))

/-- Two pairs with one y: the xs are each other's other side. -/
theorem OnE.sq (h : EdC p D) {x z y : Int} (ha : OnE p D ⟨x, y⟩) (hb : OnE p D ⟨z, y⟩) : (p : Int) ∣ x * x - z * z := by
  have h1 := ha.on
  have h2 := hb.on
  simp only at h1 h2
  have k : (p : Int) ∣ (x * x - z * z) * (1 + D * (y * y)) := comb2 h1 h2 (-1) 1 (by grind)
  exact (h.prime.dvd_mul_int k).resolve_right (h.den y)

theorem OnE.same_x (h : EdC p D) {x z y : Int} (ha : OnE p D ⟨x, y⟩) (hb : OnE p D ⟨z, y⟩) (e : x % 2 = z % 2) : x = z := by
  have ho := h.odd
  have a0 := ha.x0; have a1 := ha.x1; have b0 := hb.x0; have b1 := hb.x1
  simp only at a0 a1 b0 b1
  rcases sq_two h.prime a0 a1 b0 b1 (OnE.sq h ha hb) with k | k | k <;> omega

theorem ReadsE.unique (h : EdC p D) {n : Nat} {f : Nat → Int} {c d : Pr} (hc : ReadsE p D n f c) (hd : ReadsE p D n f d) : c = d := by
  obtain ⟨x, y⟩ := c
  obtain ⟨z, y'⟩ := d
  have e : y = y' := hc.y.trans hd.y.symm
  subst e
  exact Pr.ext' (OnE.same_x h hc.on hd.on (hc.odd.trans hd.odd.symm)) rfl

end
end

section
set_option linter.unusedVariables false

/-- The twisted curve is as the document wants it. -/
structure EvOk (P D L bx cy : Int) : Prop where
  p13 : 13 ≤ P
  pM : P ≤ 1048576
  p8 : P % 8 = 5
  pp : Prime P.toNat
  d2 : 2 ≤ D
  d1 : D ≤ P - 1
  pw : D.toNat ^ ((P.toNat - 1) / 2) % P.toNat = P.toNat - 1
  l5 : 5 ≤ L
  lM : L ≤ 2097152
  lp : Prime L.toNat
  on : OnE P.toNat D ⟨bx, cy⟩
  ne : ¬ (bx = 0 ∧ cy = 1)
  fold : mulE P.toNat D L.toNat ⟨bx, cy⟩ = oneE

section

variable {P D L bx cy : Int}

theorem EvOk.edc (h : EvOk P D L bx cy) : EdC P.toNat D := by
  have h1 := h.p8; have h2 := h.p13; have h3 := h.d2
  have := edC_of h.pp (show P.toNat % 8 = 5 by omega) h.pw
  rwa [show ((D.toNat : Nat) : Int) = D by omega] at this

theorem EvOk.nat (h : EvOk P D L bx cy) : ((P.toNat : Nat) : Int) = P := by have := h.p13; omega

/-- A pair's other side, as the law writes it. -/
theorem EvOk.other (h : EvOk P D L bx cy) {x y : Int} (ha : OnE P.toNat D ⟨x, y⟩) : OnE P.toNat D ⟨Int.tmod (P - x) P, y⟩ ∧ addE P.toNat D ⟨x, y⟩ ⟨Int.tmod (P - x) P, y⟩ = oneE := by
  have e := h.nat
  have x0 := ha.x0; have x1 := ha.x1
  simp only at x0 x1
  rw [e] at x1
  have hx : Int.tmod (P - x) P = (-x) % P := by
    rw [Int.tmod_eq_emod_of_nonneg (by omega), Int.sub_eq_add_neg, Int.add_emod_left]
  have hn : negE P.toNat ⟨x, y⟩ = ⟨Int.tmod (P - x) P, y⟩ := by unfold negE; rw [e, hx]
  rw [← hn]
  exact ⟨negE_on h.edc ha, add_negE h.edc ha⟩

end

instance : DecidableEq Pr := fun a b => if hx : a.x = b.x then (if hy : a.y = b.y then isTrue (Pr.ext' hx hy) else isFalse (fun e => hy (by rw [e]))) else isFalse (fun e => hx (by rw [e]))
end

end Go.Proofs.YtollgoadgjlccaaGreatDoor
