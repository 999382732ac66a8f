/- Twisted curves: a pair's bytes, and the pair that bytes tell. Nothing of the program. -/
import Derived.Test.YtdaneanloknkpacGreatDoorEdS
namespace Go.Proofs.YtdaneanloknkpacGreatDoor
set_option linter.unusedVariables false

/-- A pair's bytes. -/
def prByte (a : Pr) (i : Nat) : Int := if i = 0 then a.y % 256 else if i = 1 then a.y / 256 % 256 else a.y / 65536 + 128 * (a.x % 2)

/-- The pair that these bytes tell. -/
structure ReadsE (p : Nat) (D : Int) (n : Nat) (f : Nat → Int) (c : Pr) : Prop where
  len : n = 3
  y : c.y = f 0 + f 1 * 256 + f 2 % 128 * 65536
  odd : c.x % 2 = f 2 / 128
  on : OnE p D c

section
variable {p : Nat} {D : Int}

theorem EdC.den (h : EdC p D) (y : Int) : ¬ (p : Int) ∣ 1 + D * (y * y) := by
  intro k
  obtain ⟨i, hi⟩ := h.i
  have k1 := h.ns i y (comb2 hi k 1 (-1) (by grind))
  exact h.unit (comb2 k k1 1 (-(D * y)) (by grind))

theorem EdC.odd (h : EdC p D) : p % 2 = 1 := by
  have h3 := h.three
  rcases Nat.mod_two_eq_zero_or_one p with k | k
  · exact absurd (Nat.dvd_of_mod_eq_zero k) (h.prime.no_div (by omega) (by omega))
  · exact k

theorem sq_two (hp : Prime p) {x z : Int} (x0 : 0 ≤ x) (x1 : x < p) (z0 : 0 ≤ z) (z1 : z < p) (h : (p : Int) ∣ x * x - z * z) : x = z ∨ x + z = p ∨ (x = 0 ∧ z = 0) := by
  have k : (p : Int) ∣ (x - z) * (x + z) := comb1 h 1 (by grind)
  rcases hp.dvd_mul_int k with k | k
  · exact Or.inl (eq_of_dvd x0 x1 z0 z1 k)
  · rcases Classical.em (x + z = 0) with e | e
    · exact Or.inr (Or.inr (by omega))
    · have h1 := Int.le_of_dvd (by omega) k
      obtain ⟨c, hc⟩ := k
      have : c = 1 := by
        have c1 : (p : Int) * c < p * 2 := by omega
        have c2 := Int.lt_of_mul_lt_mul_left c1 (by omega)
        have c3 : 0 < c := by
          rcases Int.lt_or_le 0 c with q | q
          · exact q
          · have := Int.mul_nonpos_of_nonneg_of_nonpos (show 0 ≤ (p : Int) by omega) q
            omega
        omega
      subst this
      exact Or.inr (Or.inl (by omega))

/-- Two pairs with one y: the xs are each other's other side. -/
theorem OnE.sq (h : EdC p D) {x z y : Int} (ha : OnE p D ⟨x, y⟩) (hb : OnE p D ⟨z, y⟩) : (p : Int) ∣ x * x - z * z := by
  have h1 := ha.on
  have h2 := hb.on
  simp only at h1 h2
  have k : (p : Int) ∣ (x * x - z * z) * (1 + D * (y * y)) := comb2 h1 h2 (-1) 1 (by grind)
  exact (h.prime.dvd_mul_int k).resolve_right (h.den y)

theorem OnE.same_x (h : EdC p D) {x z y : Int} (ha : OnE p D ⟨x, y⟩) (hb : OnE p D ⟨z, y⟩) (e : x % 2 = z % 2) : x = z := by
  have ho := h.odd
  have a0 := ha.x0; have a1 := ha.x1; have b0 := hb.x0; have b1 := hb.x1
  simp only at a0 a1 b0 b1
  rcases sq_two h.prime a0 a1 b0 b1 (OnE.sq h ha hb) with k | k | k <;> omega

theorem ReadsE.unique (h : EdC p D) {n : Nat} {f : Nat → Int} {c d : Pr} (hc : ReadsE p D n f c) (hd : ReadsE p D n f d) : c = d := by
  obtain ⟨x, y⟩ := c
  obtain ⟨z, y'⟩ := d
  have e : y = y' := hc.y.trans hd.y.symm
  subst e
  exact Pr.ext' (OnE.same_x h hc.on hd.on (hc.odd.trans hd.odd.symm)) rfl

/-- Being of the curve, by the square of x. -/
theorem onE_root (h : EdC p D) {x y : Int} (x0 : 0 ≤ x) (x1 : x < p) (y0 : 0 ≤ y) (y1 : y < p) {w : Int} (hw : (p : Int) ∣ w * (1 + D * (y * y)) - (y * y - 1)) : OnE p D ⟨x, y⟩ ↔ (p : Int) ∣ x * x - w := by
  constructor
  · intro k
    have h1 := k.on
    simp only at h1
    have q : (p : Int) ∣ (x * x - w) * (1 + D * (y * y)) := comb2 h1 hw (-1) (-1) (by grind)
    exact (h.prime.dvd_mul_int q).resolve_right (h.den y)
  · intro k
    exact ⟨x0, x1, y0, y1, comb2 k hw (-(1 + D * (y * y))) (-1) (by simp only; grind)⟩

/-- A pair's bytes tell it. -/
theorem readsE_back {a : Pr} (ha : OnE p D a) (hp : p ≤ 1048576) : ReadsE p D 3 (prByte a) a := by
  have y0 := ha.y0; have y1 := ha.y1
  refine ⟨rfl, ?_, ?_, ha⟩
  · simp [prByte]; omega
  · simp [prByte]; omega

theorem prByte_range {a : Pr} (ha : OnE p D a) (hp : p ≤ 1048576) (i : Nat) : 0 ≤ prByte a i ∧ prByte a i ≤ 255 := by
  have y0 := ha.y0; have y1 := ha.y1
  unfold prByte
  repeat' split
  all_goals omega

/-- What is read of bytes is written as these. -/
theorem ReadsE.wrote {n : Nat} {f : Nat → Int} {c : Pr} (h : ReadsE p D n f c) (hr : ∀ i, i < n → 0 ≤ f i ∧ f i ≤ 255) : ∀ i, i < n → prByte c i = f i := by
  obtain ⟨rfl, hy, ho, hon⟩ := h
  have r0 := hr 0 (by omega); have r1 := hr 1 (by omega); have r2 := hr 2 (by omega)
  intro i hi
  have : i = 0 ∨ i = 1 ∨ i = 2 := by omega
  rcases this with rfl | rfl | rfl
  · simp [prByte]; omega
  · simp [prByte]; omega
  · simp [prByte]; omega

/-- The number of which x is a root, as the model reckons it. -/
def wE (p : Nat) (D y : Int) : Int := (y * y % p - 1) % p * iv p (1 + D * (y * y % p)) % p

theorem wE_spec (h : EdC p D) (y : Int) : (p : Int) ∣ wE p D y * (1 + D * (y * y)) - (y * y - 1) := by
  have h1 := mod_dvd (p : Int) (y * y)
  have hn : ¬ (p : Int) ∣ 1 + D * (y * y % p) := by
    intro k
    apply h.den y
    generalize y * y % (p : Int) = q at *
    exact comb2 k h1 1 (-D) (by grind)
  have h2 := iv_div (u := (y * y % p - 1) % p) h.prime hn
  have h3 := mod_dvd (p : Int) (y * y % p - 1)
  unfold wE
  generalize (y * y % p - 1) % (p : Int) * iv p (1 + D * (y * y % p)) % p = z at *
  generalize (y * y % p - 1) % (p : Int) = t at *
  generalize y * y % (p : Int) = q at *
  exact comb3 h2 h3 h1 1 1 (1 - D * z) (by grind)

/-- The x that the model tries. -/
def xE (p : Nat) (D y odd : Int) : Int := if (root5 p (wE p D y).toNat : Int) % 2 = odd then (root5 p (wE p D y).toNat : Int) else (-(root5 p (wE p D y).toNat : Int)) % p

theorem root5_lt {w : Nat} (hp : 0 < p) : root5 p w < p := by
  unfold root5
  split <;> exact Nat.mod_lt _ hp

/-- If any pair is told, it is the one that the model tries. -/
theorem model_readE (h : EdC p D) (h8 : p % 8 = 5) {n : Nat} {f : Nat → Int} {c : Pr} (hc : ReadsE p D n f c) : c.x = xE p D c.y (f 2 / 128) := by
  have hp := h.pos
  have ho := h.odd
  obtain ⟨x, y⟩ := c
  have on := hc.on
  have odd := hc.odd
  have x0 := on.x0; have x1 := on.x1; have y0 := on.y0; have y1 := on.y1
  simp only at x0 x1 y0 y1 odd ⊢
  clear hc
  have hw := wE_spec h y
  have w0 : 0 ≤ wE p D y := Int.emod_nonneg _ (by omega)
  have w1 : wE p D y < p := Int.emod_lt_of_pos _ (by omega)
  have k1 := (onE_root h x0 x1 y0 y1 hw).1 on
  obtain ⟨i, hi⟩ := h.i
  -- a root of -1 as a natural number
  have i0 := Int.emod_nonneg i (show (p : Int) ≠ 0 by omega)
  have i1 := mod_dvd (p : Int) i
  obtain ⟨j, hj⟩ := Int.eq_ofNat_of_zero_le i0
  rw [hj] at i1
  have hj2 : (p : Int) ∣ (j : Int) * j + 1 := comb2 hi i1 1 ((j : Int) + i) (by grind)
  have two := h.prime.two_less h8 hj2
  obtain ⟨X, rfl⟩ := Int.eq_ofNat_of_zero_le x0
  obtain ⟨W, hW⟩ := Int.eq_ofNat_of_zero_le w0
  have kW : X * X % p = W % p := cong_nat hp (by rw [Int.natCast_mul]; rw [hW] at k1; exact k1)
  have r := h.prime.root5 h8 two kW
  have r2 := nat_cong r
  rw [Int.natCast_mul] at r2
  have hlt := root5_lt (p := p) (w := W) hp
  unfold xE
  rw [hW, Int.toNat_natCast]
  generalize root5 p W = R at *
  have k2 : (p : Int) ∣ (X : Int) * X - (R : Int) * R := by
    rw [hW] at k1
    exact comb2 k1 r2 1 (-1) (by grind)
  have R1 : (R : Int) < p := by omega
  rcases sq_two h.prime x0 x1 (show (0 : Int) ≤ R by omega) R1 k2 with e | e | e
  · rw [if_pos (by omega)]; exact e
  · have hne : ¬ (R : Int) % 2 = f 2 / 128 := by omega
    rw [if_neg hne]
    have h1 : (-(R : Int)) % p = (p - R) % p := by rw [Int.sub_eq_add_neg, Int.add_emod_left]
    rw [h1, Int.emod_eq_of_lt (by omega) (by omega)]
    omega
  · rw [if_pos (by omega)]; omega

end

end Go.Proofs.YtdaneanloknkpacGreatDoor
