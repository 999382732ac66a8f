/- Points told by bytes: what is read of them. Nothing of the program. -/
import Derived.Test.YtnhemiaklkkilaaDoorCurveK
import Derived.Test.YtnhemiaklkkilaaDoorCurveQ
namespace Go.Proofs.YtnhemiaklkkilaaDoor
set_option linter.unusedVariables false

/-- Three bytes, the highest first. -/
def rd3 (f : Nat → Int) (o : Nat) : Int := f o * 65536 + f (o + 1) * 256 + f (o + 2)

/-- The point that these bytes tell. -/
def Reads (p : Nat) (A B : Int) (n : Nat) (f : Nat → Int) (c : Pt) : Prop :=
  (n = 1 ∧ f 0 = 0 ∧ c = farP) ∨ (n = 7 ∧ f 0 = 4 ∧ c = ⟨rd3 f 1, rd3 f 4, false⟩ ∧ On p A B c) ∨
  (n = 4 ∧ (f 0 = 2 ∨ f 0 = 3) ∧ c.far = false ∧ c.x = rd3 f 1 ∧ c.y % 2 = f 0 - 2 ∧ On p A B c)

theorem Aff.sq {P A B x y : Int} (hp : 0 < P) (h : Aff P.toNat A B x y) : y * y % P = (x * x * x + A * x + B) % P := by
  have e := h.on
  have : ((P.toNat : Nat) : Int) = P := by omega
  rw [this] at e
  exact mod_eq e

theorem Aff.of_sq {P A B x y : Int} (hp : 0 < P) (x0 : 0 ≤ x) (x1 : x < P) (y0 : 0 ≤ y) (y1 : y < P) (e : y * y % P = (x * x * x + A * x + B) % P) : Aff P.toNat A B x y := by
  refine ⟨x0, by omega, y0, by omega, ?_⟩
  have h : ((P.toNat : Nat) : Int) = P := by omega
  rw [h]
  exact Int.dvd_of_emod_eq_zero (Int.emod_eq_emod_iff_emod_sub_eq_zero.1 e)

/-- Two roots by an odd prime number. -/
theorem two_roots_int {P y z : Int} (hp : Prime P.toNat) (hP : 0 < P) (y0 : 0 ≤ y) (y1 : y < P) (z0 : 0 ≤ z) (z1 : z < P) (e : y * y % P = z * z % P) : y = z ∨ y + z = P ∨ (y = 0 ∧ z = 0) := by
  obtain ⟨p, rfl⟩ := Int.eq_ofNat_of_zero_le (show 0 ≤ P by omega)
  obtain ⟨a, rfl⟩ := Int.eq_ofNat_of_zero_le y0
  obtain ⟨b, rfl⟩ := Int.eq_ofNat_of_zero_le z0
  rw [Int.toNat_natCast] at hp
  have := hp.two_roots (x := a) (y := b) (by omega) (by omega) (by exact_mod_cast e)
  omega

theorem same_y {P A B x y z : Int} (hp : Prime P.toNat) (h4 : P % 4 = 3) (hP : 5 ≤ P) (h : Aff P.toNat A B x y) (k : Aff P.toNat A B x z) (e : y % 2 = z % 2) : y = z := by
  have hh := h.y1; have hk := k.y1; have h0 := h.y0; have k0 := k.y0
  rcases two_roots_int hp (by omega) h.y0 (by omega) k.y0 (by omega) ((h.sq (by omega)).trans (k.sq (by omega)).symm) with h | h | h <;> omega

theorem Reads.unique {P A B : Int} {n : Nat} {f : Nat → Int} {c d : Pt} (hp : Prime P.toNat) (h4 : P % 4 = 3) (hP : 5 ≤ P) (h : Reads P.toNat A B n f c) (k : Reads P.toNat A B n f d) : c = d := by
  rcases h with ⟨n1, f1, rfl⟩ | ⟨n1, f1, rfl, o1⟩ | ⟨n1, f1, c1, x1, y1, o1⟩ <;> rcases k with ⟨n2, f2, rfl⟩ | ⟨n2, f2, rfl, o2⟩ | ⟨n2, f2, c2, x2, y2, o2⟩
  any_goals rfl
  any_goals omega
  have a1 := o1.aff c1
  have a2 := o2.aff c2
  rw [x1] at a1
  rw [x2] at a2
  exact Pt.ext' (x1.trans x2.symm) (same_y hp h4 hP a1 a2 (y1.trans y2.symm)) (c1.trans c2.symm)

/-- What a reading call answers. -/
def OptRd (P A B N gx gy : Int) (n : Nat) (f : Nat → Int) (c : Pt) (ok : Bool) : Prop :=
  (ok = true ∧ CvOk P A B N gx gy ∧ Reads P.toNat A B n f c) ∨ (ok = false ∧ (∀ c, CvOk P A B N gx gy → ¬ Reads P.toNat A B n f c) ∧ c = zeroP)

theorem OptRd.unique {P A B N gx gy : Int} {n : Nat} {f : Nat → Int} {c d : Pt} {ok ok' : Bool} (h : OptRd P A B N gx gy n f c ok) (k : OptRd P A B N gx gy n f d ok') : c = d ∧ ok = ok' := by
  rcases h with ⟨rfl, v, h⟩ | ⟨rfl, h, rfl⟩ <;> rcases k with ⟨rfl, v', k⟩ | ⟨rfl, k, rfl⟩
  · exact ⟨Reads.unique v.pp v.p4 v.p5 h k, rfl⟩
  · exact absurd h (k _ v)
  · exact absurd k (h _ v')
  · exact ⟨rfl, rfl⟩

theorem optRd_some (P A B N gx gy : Int) (n : Nat) (f : Nat → Int) : ∃ c ok, OptRd P A B N gx gy n f c ok := by
  by_cases h : CvOk P A B N gx gy ∧ ∃ c, Reads P.toNat A B n f c
  · obtain ⟨v, c, hc⟩ := h
    exact ⟨c, true, Or.inl ⟨rfl, v, hc⟩⟩
  · exact ⟨zeroP, false, Or.inr ⟨rfl, fun c v hc => h ⟨v, c, hc⟩, rfl⟩⟩

def GivesRd (P A B N gx gy : Int) (n : Nat) (f : Nat → Int) (r : Ending) : Prop := ∃ c ok, r = .returned (.tuple #[.agg #[.int .i64 c.x, .int .i64 c.y, .bool c.far], .bool ok]) ∧ OptRd P A B N gx gy n f c ok

/-- The power that is a root. -/
theorem root_pow {p s z : Nat} (hp : Prime p) (h4 : p % 4 = 3) (h5 : 5 ≤ p) (e : z * z % p = s % p) : (s ^ ((p + 1) / 4) % p) * (s ^ ((p + 1) / 4) % p) % p = s % p := by
  rw [← Nat.mul_mod, ← Nat.pow_add]
  have hk : (p + 1) / 4 + (p + 1) / 4 = (p - 1) / 2 + 1 := by omega
  rw [hk]
  by_cases hd : p ∣ s
  · obtain ⟨t, rfl⟩ := hd
    rw [Nat.pow_succ, Nat.mul_mod, Nat.mul_mod_right, Nat.mul_zero]
    simp
  · rw [Nat.pow_succ, Nat.mul_mod, hp.euler_square (by omega) hd e, Nat.one_mul, Nat.mod_mod]

theorem rd3_range {f : Nat → Int} {o : Nat} (h0 : 0 ≤ f o ∧ f o ≤ 255) (h1 : 0 ≤ f (o + 1) ∧ f (o + 1) ≤ 255) (h2 : 0 ≤ f (o + 2) ∧ f (o + 2) ≤ 255) : 0 ≤ rd3 f o ∧ rd3 f o ≤ 16777215 := by
  unfold rd3; omega

/-- The model's way: the power, or what is left of P. -/
theorem model_root {P A B x t y : Int} (hp : Prime P.toNat) (h4 : P % 4 = 3) (h5 : 5 ≤ P) (x0 : 0 ≤ x) (x1 : x < P) (ht : t = 0 ∨ t = 1) {s : Nat} (hs : (s : Int) = (x * x * x + A * x + B) % P)
    (hy : y = if ((s ^ ((P.toNat + 1) / 4) % P.toNat : Nat) : Int) % 2 = t then ((s ^ ((P.toNat + 1) / 4) % P.toNat : Nat) : Int) else P - ((s ^ ((P.toNat + 1) / 4) % P.toNat : Nat) : Int)) :
    (Aff P.toNat A B x y ∧ y % 2 = t) ∨ ∀ z, z % 2 = t → ¬ Aff P.toNat A B x z := by
  by_cases hz : ∃ z, z % 2 = t ∧ Aff P.toNat A B x z
  · left
    obtain ⟨z, ze, ha⟩ := hz
    obtain ⟨p, hpp⟩ := Int.eq_ofNat_of_zero_le (show 0 ≤ P by omega)
    obtain ⟨zn, hzn⟩ := Int.eq_ofNat_of_zero_le ha.y0
    have hsq := ha.sq (by omega)
    have e1 : zn * zn % P.toNat = s % P.toNat := by
      have : ((zn * zn % P.toNat : Nat) : Int) = ((s % P.toNat : Nat) : Int) := by
        rw [Int.natCast_emod, Int.natCast_mul, Int.natCast_emod, ← hzn, show ((P.toNat : Nat) : Int) = P by omega, hsq, hs, Int.emod_emod]
      exact_mod_cast this
    have e2 := root_pow hp (by omega) (by omega) e1
    generalize hr : s ^ ((P.toNat + 1) / 4) % P.toNat = r at e2 hy
    have hrl : r < P.toNat := by rw [← hr]; exact Nat.mod_lt _ (by omega)
    have e3 : (r : Int) * r % P = z * z % P := by
      have : ((r * r % P.toNat : Nat) : Int) = ((s % P.toNat : Nat) : Int) := by rw [e2]
      rw [Int.natCast_emod, Int.natCast_mul, Int.natCast_emod, show ((P.toNat : Nat) : Int) = P by omega] at this
      rw [this, hsq, hs, Int.emod_emod]
    have hz1 := ha.y1
    have hz0 := ha.y0
    have := two_roots_int hp (by omega) (show 0 ≤ (r : Int) by omega) (by omega) ha.y0 (by omega) e3
    have hyz : y = z := by
      by_cases c : (r : Int) % 2 = t
      · rw [if_pos c] at hy; omega
      · rw [if_neg c] at hy; omega
    rw [hyz]
    exact ⟨ha, ze⟩
  · right
    intro z ze ha
    exact hz ⟨z, ze, ha⟩

end Go.Proofs.YtnhemiaklkkilaaDoor
