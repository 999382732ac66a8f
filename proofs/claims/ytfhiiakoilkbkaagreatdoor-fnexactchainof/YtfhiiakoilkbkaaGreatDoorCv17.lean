/- Twisted curves: pairs are a group with one rule. Nothing of the program. Twisted curves: D is no square just when the model's power says so; roots by a prime number that leaves 5 by 8. Nothing of the program. Twisted curves: what the model's l4On and l4Add reckon. Nothing of the program. Walks: pairs of a twisted curve as the model reckons them: l4On, l4Add. Walks: multiples of pairs in the model: l4Mul. Twisted curves: when one is right; the three of the model's draws are. Nothing of the program. -/
import Derived.Test.YtfhiiakoilkbkaaGreatDoorCv08
import Derived.Deep.RegionHeld3
namespace Go.Proofs.YtfhiiakoilkbkaaGreatDoor
set_option linter.unusedVariables false
set_option linter.unusedSimpArgs false
section
theorem ed_on (x1 y1 x2 y2 D : Int) : (y1 * y2 + x1 * x2) * (y1 * y2 + x1 * x2) * ((1 + D * x1 * x2 * y1 * y2) * (1 + D * x1 * x2 * y1 * y2)) - (x1 * y2 + y1 * x2) * (x1 * y2 + y1 * x2) * ((1 - D * x1 * x2 * y1 * y2) * (1 - D * x1 * x2 * y1 * y2)) - (1 + D * x1 * x2 * y1 * y2) * (1 + D * x1 * x2 * y1 * y2) * ((1 - D * x1 * x2 * y1 * y2) * (1 - D * x1 * x2 * y1 * y2)) - D * ((x1 * y2 + y1 * x2) * (x1 * y2 + y1 * x2)) * ((y1 * y2 + x1 * x2) * (y1 * y2 + x1 * x2)) = (x2 * x2 * x2 * x2 + y2 * y2 * y2 * y2 + (-4) * x2 * x2 * y2 * y2 + (-2) * x2 * x2 * x2 * x2 * y2 * y2 + 2 * x2 * x2 * y2 * y2 * y2 * y2 + (-1) * D * D * x2 * x2 * x2 * x2 * y2 * y2 * y2 * y2 + (-2) * D * x2 * x2 * y2 * y2 + (-2) * D * x2 * x2 * x2 * x2 * y2 * y2 * y2 * y2 + D * x1 * x1 * x2 * x2 * y2 * y2 * y2 * y2 + D * x2 * x2 * x2 * x2 * y1 * y1 * y2 * y2 + D * D * x2 * x2 * x2 * x2 * y1 * y1 * y2 * y2 * y2 * y2 + (-1) * D * x1 * x1 * x2 * x2 * x2 * x2 * y2 * y2 + (-1) * D * x2 * x2 * y1 * y1 * y2 * y2 * y2 * y2 + (-1) * D * D * x1 * x1 * x2 * x2 * x2 * x2 * y2 * y2 * y2 * y2 + D * D * D * x1 * x1 * x2 * x2 * x2 * x2 * y1 * y1 * y2 * y2 * y2 * y2) * (y1 * y1 - x1 * x1 - 1 - D * (x1 * x1) * (y1 * y1)) + (1 + y2 * y2 + (-1) * x2 * x2 + x1 * x1 * y2 * y2 + x2 * x2 * y1 * y1 + (-1) * x1 * x1 * x2 * x2 + (-1) * y1 * y1 * y2 * y2 + 2 * x2 * x2 * y2 * y2 + D * x2 * x2 * y2 * y2 + (-2) * x2 * x2 * y1 * y1 * y2 * y2 + 2 * x1 * x1 * x2 * x2 * y2 * y2 + D * x1 * x1 * x1 * x1 * x2 * x2 * y2 * y2 + D * x2 * x2 * y1 * y1 * y1 * y1 * y2 * y2 + (-2) * D * x2 * x2 * y1 * y1 * y2 * y2 + 2 * D * x1 * x1 * x2 * x2 * y2 * y2) * (y2 * y2 - x2 * x2 - 1 - D * (x2 * x2) * (y2 * y2)) := by grind
theorem ed_pole_pp (x1 y1 x2 y2 D i : Int) : (y1 + i * x1) * (y1 + i * x1) - D * ((x1 * y1 * (y2 - i * x2)) * (x1 * y1 * (y2 - i * x2))) = 1 * (y1 * y1 - x1 * x1 - 1 - D * (x1 * x1) * (y1 * y1)) + ((-1) * D * x1 * x1 * y1 * y1) * (y2 * y2 - x2 * x2 - 1 - D * (x2 * x2) * (y2 * y2)) + (x1 * x1 + (-1) * D * x1 * x1 * x2 * x2 * y1 * y1) * (i * i + 1) + (1 + 2 * i * x1 * y1 + (-1) * D * x1 * x2 * y1 * y2) * (1 + D * x1 * x2 * y1 * y2) := by grind
theorem ed_pole_pm (x1 y1 x2 y2 D i : Int) : (y1 - i * x1) * (y1 - i * x1) - D * ((x1 * y1 * (y2 + i * x2)) * (x1 * y1 * (y2 + i * x2))) = 1 * (y1 * y1 - x1 * x1 - 1 - D * (x1 * x1) * (y1 * y1)) + ((-1) * D * x1 * x1 * y1 * y1) * (y2 * y2 - x2 * x2 - 1 - D * (x2 * x2) * (y2 * y2)) + (x1 * x1 + (-1) * D * x1 * x1 * x2 * x2 * y1 * y1) * (i * i + 1) + (1 + (-2) * i * x1 * y1 + (-1) * D * x1 * x2 * y1 * y2) * (1 + D * x1 * x2 * y1 * y2) := by grind
theorem ed_pole_mp (x1 y1 x2 y2 D i : Int) : (y1 + i * x1) * (y1 + i * x1) - D * ((x1 * y1 * (y2 + i * x2)) * (x1 * y1 * (y2 + i * x2))) = 1 * (y1 * y1 - x1 * x1 - 1 - D * (x1 * x1) * (y1 * y1)) + ((-1) * D * x1 * x1 * y1 * y1) * (y2 * y2 - x2 * x2 - 1 - D * (x2 * x2) * (y2 * y2)) + (x1 * x1 + (-1) * D * x1 * x1 * x2 * x2 * y1 * y1) * (i * i + 1) + (1 + 2 * i * x1 * y1 + D * x1 * x2 * y1 * y2) * (1 - D * x1 * x2 * y1 * y2) := by grind
theorem ed_pole_mm (x1 y1 x2 y2 D i : Int) : (y1 - i * x1) * (y1 - i * x1) - D * ((x1 * y1 * (y2 - i * x2)) * (x1 * y1 * (y2 - i * x2))) = 1 * (y1 * y1 - x1 * x1 - 1 - D * (x1 * x1) * (y1 * y1)) + ((-1) * D * x1 * x1 * y1 * y1) * (y2 * y2 - x2 * x2 - 1 - D * (x2 * x2) * (y2 * y2)) + (x1 * x1 + (-1) * D * x1 * x1 * x2 * x2 * y1 * y1) * (i * i + 1) + (1 + (-2) * i * x1 * y1 + D * x1 * x2 * y1 * y2) * (1 - D * x1 * x2 * y1 * y2) := by grind
structure Pr where
 x : Int
 y : Int
theorem Pr.ext' {a b : Pr} (hx : a.x = b.x) (hy : a.y = b.y) : a = b := by
 cases a; cases b; simp only at hx hy; subst hx hy; rfl
structure OnE (p : Nat) (D : Int) (a : Pr) : Prop where
 x0 : 0 ≤ a.x
 x1 : a.x < p
 y0 : 0 ≤ a.y
 y1 : a.y < p
 on : (p : Int) ∣ a.y * a.y - a.x * a.x - 1 - D * (a.x * a.x) * (a.y * a.y)
structure EdC (p : Nat) (D : Int) : Prop where
 prime : Prime p
 three : 3 ≤ p
 ns : ∀ u v : Int, (p : Int) ∣ u * u - D * (v * v) → (p : Int) ∣ v
 i : ∃ i : Int, (p : Int) ∣ i * i + 1
def mE (D : Int) (a b : Pr) : Int := D * a.x * b.x * a.y * b.y
def addE (p : Nat) (D : Int) (a b : Pr) : Pr := ⟨((a.x * b.y + a.y * b.x) * iv p (1 + mE D a b)) % p, ((a.y * b.y + a.x * b.x) * iv p (1 - mE D a b)) % p⟩
def oneE : Pr := ⟨0, 1⟩
section
variable {p : Nat} {D : Int}
theorem EdC.pos (h : EdC p D) : 0 < p := by have := h.three; omega
theorem EdC.two (h : EdC p D) {y : Int} (hd : (p : Int) ∣ 2 * y) : (p : Int) ∣ y := by
 rcases h.prime.dvd_mul_int hd with k | k
 ·have := Int.le_of_dvd (by omega) k
  have := h.three
  omega
 ·exact k
theorem EdC.unit (h : EdC p D) : ¬ (p : Int) ∣ 1 := fun k => by
 have := Int.le_of_dvd (by omega) k
 have := h.three
 omega
theorem EdC.no_pole (h : EdC p D) {a b : Pr} (ha : OnE p D a) (hb : OnE p D b) : ¬ (p : Int) ∣ 1 + mE D a b ∧ ¬ (p : Int) ∣ 1 - mE D a b := by
 obtain ⟨i, hi⟩ := h.i
 have nxy : ∀ c : Int, (c = 1 ∨ c = -1) → (p : Int) ∣ 1 + c * mE D a b → ¬ (p : Int) ∣ a.x * a.y ∧ ¬ (p : Int) ∣ b.y := by
  intro c hc hd
  constructor
  ·intro k
   refine h.unit (comb2 hd k 1 (-(c * D * b.x * b.y)) ?_)
   unfold mE; grind
  ·intro k
   refine h.unit (comb2 hd k 1 (-(c * D * a.x * a.y * b.x)) ?_)
   unfold mE; grind
 constructor
 ·intro hd
  have hd' : (p : Int) ∣ 1 + D * a.x * b.x * a.y * b.y := hd
  obtain ⟨n1, n2⟩ := nxy 1 (Or.inl rfl) (by rw [Int.one_mul]; exact hd)
  have e1 := h.ns _ _ (comb4 ha.on hb.on hi hd' _ _ _ _ (ed_pole_pp a.x a.y b.x b.y D i))
  have e2 := h.ns _ _ (comb4 ha.on hb.on hi hd' _ _ _ _ (ed_pole_pm a.x a.y b.x b.y D i))
  rcases h.prime.dvd_mul_int e1 with k | k1
  ·exact n1 k
  ·rcases h.prime.dvd_mul_int e2 with k | k2
   ·exact n1 k
   ·exact n2 (h.two (comb2 k1 k2 1 1 (by grind)))
 ·intro hd
  have hd' : (p : Int) ∣ 1 - D * a.x * b.x * a.y * b.y := hd
  obtain ⟨n1, n2⟩ := nxy (-1) (Or.inr rfl) (by rw [show 1 + -1 * mE D a b = 1 - mE D a b by omega]; exact hd)
  have e1 := h.ns _ _ (comb4 ha.on hb.on hi hd' _ _ _ _ (ed_pole_mp a.x a.y b.x b.y D i))
  have e2 := h.ns _ _ (comb4 ha.on hb.on hi hd' _ _ _ _ (ed_pole_mm a.x a.y b.x b.y D i))
  rcases h.prime.dvd_mul_int e1 with k | k1
  ·exact n1 k
  ·rcases h.prime.dvd_mul_int e2 with k | k2
   ·exact n1 k
   ·exact n2 (h.two (comb2 k1 k2 1 1 (by grind)))
structure SumE (p : Nat) (D : Int) (a b s : Pr) : Prop where
 x0 : 0 ≤ s.x
 x1 : s.x < p
 y0 : 0 ≤ s.y
 y1 : s.y < p
 ex : (p : Int) ∣ s.x * (1 + mE D a b) - (a.x * b.y + a.y * b.x)
 ey : (p : Int) ∣ s.y * (1 - mE D a b) - (a.y * b.y + a.x * b.x)
theorem iv_div (hp : Prime p) {u d : Int} (hd : ¬ (p : Int) ∣ d) : (p : Int) ∣ (u * iv p d % p) * d - u := by
 have h1 := iv_spec hp hd
 have h2 := mod_dvd (p : Int) (u * iv p d)
 generalize u * iv p d % p = z at *
 generalize iv p d = v at *
 exact comb2 h1 h2 u d (by grind)
theorem addE_sum (h : EdC p D) {a b : Pr} (ha : OnE p D a) (hb : OnE p D b) : SumE p D a b (addE p D a b) := by
 have hp := h.pos
 obtain ⟨n1, n2⟩ := h.no_pole ha hb
 exact ⟨Int.emod_nonneg _ (by omega), Int.emod_lt_of_pos _ (by omega), Int.emod_nonneg _ (by omega), Int.emod_lt_of_pos _ (by omega), iv_div h.prime n1, iv_div h.prime n2⟩
theorem SumE.on (h : EdC p D) {a b s : Pr} (ha : OnE p D a) (hb : OnE p D b) (hs : SumE p D a b s) : OnE p D s := by
 obtain ⟨n1, n2⟩ := h.no_pole ha hb
 refine ⟨hs.x0, hs.x1, hs.y0, hs.y1, ?_⟩
 have ex : (p : Int) ∣ s.x * (1 + D * a.x * b.x * a.y * b.y) - (a.x * b.y + a.y * b.x) := hs.ex
 have ey : (p : Int) ∣ s.y * (1 - D * a.x * b.x * a.y * b.y) - (a.y * b.y + a.x * b.x) := hs.ey
 have key := ed_on a.x a.y b.x b.y D
 have k0 : (p : Int) ∣ _ := comb2 ha.on hb.on _ _ key
 have n1' : ¬ (p : Int) ∣ 1 + D * a.x * b.x * a.y * b.y := n1
 have n2' : ¬ (p : Int) ∣ 1 - D * a.x * b.x * a.y * b.y := n2
 clear key hs ha hb n1 n2
 generalize D * a.x * b.x * a.y * b.y = m at *
 generalize a.x * b.y + a.y * b.x = A at *
 generalize a.y * b.y + a.x * b.x = B at *
 have k : (p : Int) ∣ (1 + m) * ((1 + m) * ((1 - m) * ((1 - m) * (s.y * s.y - s.x * s.x - 1 - D * (s.x * s.x) * (s.y * s.y))))) := by
  refine comb3 k0 ex ey 1 (-((1 - m) * (1 - m) * (s.x * (1 + m) + A)) - D * B * B * (s.x * (1 + m) + A)) ((1 + m) * (1 + m) * (s.y * (1 - m) + B) - D * (s.x * (1 + m)) * (s.x * (1 + m)) * (s.y * (1 - m) + B)) ?_
  grind
 have k := (h.prime.dvd_mul_int k).resolve_left n1'
 have k := (h.prime.dvd_mul_int k).resolve_left n1'
 have k := (h.prime.dvd_mul_int k).resolve_left n2'
 exact (h.prime.dvd_mul_int k).resolve_left n2'
theorem addE_on (h : EdC p D) {a b : Pr} (ha : OnE p D a) (hb : OnE p D b) : OnE p D (addE p D a b) := (addE_sum h ha hb).on h ha hb
theorem one_on (h : EdC p D) : OnE p D oneE := ⟨by simp [oneE], by have := h.three; simp [oneE]; omega, by simp [oneE], by have := h.three; simp [oneE]; omega, by simp [oneE]⟩
def accE (p : Nat) (D : Int) : Nat → Nat → Pr → Pr → Pr
 | 0, _, o, _ => o
 | f + 1, n, o, a => accE p D f (n / 2) (if n % 2 = 1 then addE p D o a else o) (addE p D a a)
def mulE (p : Nat) (D : Int) (n : Nat) (a : Pr) : Pr := accE p D 64 n oneE a
end
end
section
theorem cong_nat {p x y : Nat} (hp : 0 < p) (h : (p : Int) ∣ (x : Int) - (y : Int)) : x % p = y % p := by
 have := mod_eq h
 omega
theorem less_cong {p x : Nat} (hp : 2 ≤ p) (h : x % p = p - 1) : (p : Int) ∣ (x : Int) + 1 := by
 have h1 := mod_dvd (p : Int) (x : Int)
 rw [← Int.natCast_emod, h] at h1
 have h2 : (p : Int) ∣ (p : Int) := Int.dvd_refl _
 exact comb2 h1 h2 (-1) 1 (by omega)
section
variable {p : Nat}
theorem Prime.minus_one (hp : Prime p) (h8 : p % 8 = 5) {n : Nat} (e : n ^ ((p - 1) / 2) % p = p - 1) : (p : Int) ∣ ((n ^ ((p - 1) / 4) : Nat) : Int) * ((n ^ ((p - 1) / 4) : Nat) : Int) + 1 := by
 have := less_cong hp.1 e
 rw [show (p - 1) / 2 = (p - 1) / 4 + (p - 1) / 4 by omega, Nat.pow_add, Int.natCast_mul] at this
 exact this
theorem Prime.no_square (hp : Prime p) (ho : p % 2 = 1) (h3 : 3 ≤ p) {n : Nat} (e : n ^ ((p - 1) / 2) % p = p - 1) (u v : Int) (h : (p : Int) ∣ u * u - (n : Int) * (v * v)) : (p : Int) ∣ v := by
 rcases Classical.em ((p : Int) ∣ v) with k | hv
 ·exact k
 exfalso
 have hn : ¬ p ∣ n := by
  intro k
  have : n ^ ((p - 1) / 2) % p = 0 := by
   obtain ⟨c, rfl⟩ := k
   rw [Nat.mul_pow, show (p - 1) / 2 = ((p - 1) / 2 - 1) + 1 by omega, Nat.pow_succ, Nat.mul_assoc, Nat.mul_comm (p ^ _) , Nat.mul_assoc, Nat.mul_mod_right]
  omega
 have hi := iv_spec hp hv
 have r0 := Int.emod_nonneg (u * iv p v) (show (p : Int) ≠ 0 by omega)
 have h1 := mod_dvd (p : Int) (u * iv p v)
 obtain ⟨z, hz⟩ := Int.eq_ofNat_of_zero_le r0
 rw [hz] at h1
 have key : (p : Int) ∣ ((z * z : Nat) : Int) - (n : Int) := by
  rw [Int.natCast_mul]
  generalize iv p v = w at *
  exact comb3 h hi h1 (w * w) ((n : Int) * (v * w + 1)) ((z : Int) + u * w) (by grind)
 have := hp.euler_square ho hn (cong_nat (by omega) key)
 omega
theorem edC_of (hp : Prime p) (h8 : p % 8 = 5) {n : Nat} (e : n ^ ((p - 1) / 2) % p = p - 1) : EdC p (n : Int) :=
 ⟨hp, by omega, fun u v h => hp.no_square (by omega) (by omega) e u v h, ⟨_, hp.minus_one h8 e⟩⟩
end
end
section
open Go.RowKit
def prV (a : Pr) : Value := .agg #[.int .i64 a.x, .int .i64 a.y]
def GivesOnE (p D : Int) (a : Pr) (r : Ending) : Prop := ∃ ok : Bool, r = .returned (.bool ok) ∧ (ok = true ↔ OnE p.toNat D a)
theorem givesOnE_no {p D x y : Int} (h : ¬ (0 ≤ x ∧ x ≤ p - 1 ∧ 0 ≤ y ∧ y ≤ p - 1)) (hp : 0 ≤ p) : GivesOnE p D ⟨x, y⟩ (.returned (.bool false)) :=
 ⟨false, rfl, ⟨fun k => by simp at k, fun k => absurd ⟨k.x0, by have := k.x1; simp only at this; omega, k.y0, by have := k.y1; simp only at this; omega⟩ h⟩⟩
theorem onE_model {p D x y : Int} (hp : 0 < p) (hx0 : 0 ≤ x) (hx : x ≤ p - 1) (hy0 : 0 ≤ y) (hy : y ≤ p - 1) : ((y * y % p - x * x % p) % p = (1 + D * (x * x % p) % p * (y * y % p)) % p) ↔ OnE p.toNat D ⟨x, y⟩ := by
 have e : ((p.toNat : Nat) : Int) = p := by omega
 have h1 := mod_dvd p (x * x)
 have h2 := mod_dvd p (y * y)
 have h3 := mod_dvd p (D * (x * x % p))
 generalize D * (x * x % p) % p = d at *
 generalize x * x % p = u at *
 generalize y * y % p = v at *
 constructor
 ·intro h
  refine ⟨hx0, by simp only; omega, hy0, by simp only; omega, ?_⟩
  rw [e]
  have h4 := Int.dvd_of_emod_eq_zero (Int.emod_eq_emod_iff_emod_sub_eq_zero.1 h)
  exact comb4 h4 h1 h2 h3 1 (1 + D * v) (-1 + D * (x * x)) v (by grind)
 ·intro h
  have h4 := h.on
  rw [e] at h4
  exact mod_eq (comb4 h4 h1 h2 h3 1 (-(1 + D * v)) (1 - D * (x * x)) (-v) (by grind))
theorem givesOnE_eq {p D x y : Int} (hp : 0 < p) (hx0 : 0 ≤ x) (hx : x ≤ p - 1) (hy0 : 0 ≤ y) (hy : y ≤ p - 1) {ok : Bool} (h : ok = ((y * y % p - x * x % p) % p == (1 + D * (x * x % p) % p * (y * y % p)) % p)) : GivesOnE p D ⟨x, y⟩ (.returned (.bool ok)) :=
 ⟨ok, rfl, by rw [h, beq_iff_eq]; exact onE_model hp hx0 hx hy0 hy⟩
structure InE (p : Nat) (a : Pr) : Prop where
 x0 : 0 ≤ a.x
 x1 : a.x < p
 y0 : 0 ≤ a.y
 y1 : a.y < p
theorem addE_inE {p : Nat} (hp : 0 < p) (D : Int) (a b : Pr) : InE p (addE p D a b) :=
 ⟨Int.emod_nonneg _ (by omega), Int.emod_lt_of_pos _ (by omega), Int.emod_nonneg _ (by omega), Int.emod_lt_of_pos _ (by omega)⟩
theorem OnE.inE {p : Nat} {D : Int} {a : Pr} (h : OnE p D a) : InE p a := ⟨h.x0, h.x1, h.y0, h.y1⟩
theorem iv_congr {p : Nat} {a b : Int} (h : (p : Int) ∣ a - b) : iv p a = iv p b := by
 unfold iv
 rw [mod_eq h]
theorem mulmod (p a b : Int) : a * b % p = a % p * b % p := by
 have h := mod_dvd p a
 generalize a % p = r at *
 exact mod_eq (comb1 h (-b) (by grind))
theorem addE_model (p : Nat) (D x1 y1 x2 y2 m : Int) (hm : m = D * (x1 * x2 % p) % p * (y1 * y2 % p) % p) :
  addE p D ⟨x1, y1⟩ ⟨x2, y2⟩ = ⟨(x1 * y2 + y1 * x2) % p * iv p (1 + m) % p, (y1 * y2 % p + x1 * x2 % p) % p * iv p (1 - m) % p⟩ := by
 have h1 := mod_dvd (p : Int) (x1 * x2)
 have h2 := mod_dvd (p : Int) (y1 * y2)
 have h3 := mod_dvd (p : Int) (D * (x1 * x2 % p))
 have h4 := mod_dvd (p : Int) (D * (x1 * x2 % p) % p * (y1 * y2 % p))
 rw [← hm] at h4
 have hd : (p : Int) ∣ m - mE D ⟨x1, y1⟩ ⟨x2, y2⟩ := by
  show (p : Int) ∣ m - D * x1 * x2 * y1 * y2
  generalize D * (x1 * x2 % p) % p = d at *
  generalize x1 * x2 % (p : Int) = u at *
  generalize y1 * y2 % (p : Int) = v at *
  exact comb4 h4 h3 h1 h2 1 v (D * v) (D * (x1 * x2)) (by grind)
 have e1 : iv p (1 + mE D ⟨x1, y1⟩ ⟨x2, y2⟩) = iv p (1 + m) := iv_congr (comb1 hd (-1) (by grind))
 have e2 : iv p (1 - mE D ⟨x1, y1⟩ ⟨x2, y2⟩) = iv p (1 - m) := iv_congr (comb1 hd 1 (by grind))
 unfold addE
 rw [e1, e2]
 refine Pr.ext' ?_ ?_
 ·show _ % (p : Int) = _ % (p : Int)
  exact mulmod _ _ _
 ·show _ % (p : Int) = _ % (p : Int)
  have e3 : (y1 * y2 % (p : Int) + x1 * x2 % (p : Int)) % p = (y1 * y2 + x1 * x2) % p := (Int.add_emod _ _ _).symm
  rw [e3]
  exact mulmod _ _ _
set_option maxHeartbeats 1600000 in
set_option maxRecDepth 100000 in
theorem l4On_any (p D L bx b' x y : Int) (w : World) (hp0 : 2 ≤ p) (hp : p ≤ 1048576) (hD0 : 0 ≤ D) (hD : D ≤ 1048576) :
  Calls Tryz.prog 121 #[.agg #[.int .i64 p, .int .i64 D, .int .i64 L, .int .i64 bx, .int .i64 b'], .agg #[.int .i64 x, .int .i64 y]] w fun r w' => GivesOnE p D ⟨x, y⟩ r ∧ Ext w w' := by
 by_cases c1 : 0 ≤ x ∧ x ≤ p - 1
 ·have hin : (decide ((0 : Int) ≤ x) && decide (x ≤ p - 1)) = true := by simp; omega
  by_cases c2 : 0 ≤ y ∧ y ≤ p - 1
  ·have hin2 : (decide ((0 : Int) ≤ y) && decide (y ≤ p - 1)) = true := by simp; omega
   obtain ⟨x0', x1⟩ := c1
   obtain ⟨y0, y1⟩ := c2
   have Hy : Hid (∀ ok : Bool, ok = ((y * y % p - x * x % p) % p == (1 + D * (x * x % p) % p * (y * y % p)) % p) → GivesOnE p D ⟨x, y⟩ (.returned (.bool ok))) := fun ok h => givesOnE_eq (by omega) x0' x1 y0 y1 h
   obtain ⟨a0, a1⟩ := mulBd y0 (show y ≤ 1048576 by omega) y0 (show y ≤ 1048576 by omega)
   obtain ⟨b0, b1⟩ := mulBd x0' (show x ≤ 1048576 by omega) x0' (show x ≤ 1048576 by omega)
   have m0 := Int.emod_nonneg (x * x) (show p ≠ 0 by omega)
   have m1 := Int.emod_lt_of_pos (x * x) (show 0 < p by omega)
   have n0 := Int.emod_nonneg (y * y) (show p ≠ 0 by omega)
   have n1 := Int.emod_lt_of_pos (y * y) (show 0 < p by omega)
   obtain ⟨d0, d1⟩ := mulBd hD0 hD m0 (show x * x % p ≤ 1048576 by omega)
   have r0 := Int.emod_nonneg (D * (x * x % p)) (show p ≠ 0 by omega)
   have r1 := Int.emod_lt_of_pos (D * (x * x % p)) (show 0 < p by omega)
   obtain ⟨s0, s1⟩ := mulBd r0 (show D * (x * x % p) % p ≤ 1048576 by omega) n0 (show y * y % p ≤ 1048576 by omega)
   have HL : Hid (∀ w : World, Calls Tryz.prog 143 #[.int .i64 (y * y % p - x * x % p), .int .i64 p] w fun r w' => r = .returned (.int .i64 ((y * y % p - x * x % p) % p)) ∧ w' = w) := fun w => l2Left_any _ _ w (by omega) (by omega) (by omega) (by omega)
   have e1 : IntKind.i64.wrap (y * y % p - x * x % p) = y * y % p - x * x % p := by rw [IntKind.wrap_i64]; omega
   have pp : ¬ p = 0 := by omega
   go_enter Tryz.func121, Tryz.ntmps121
   go_wp2_with fail
   refine (l1In_int _ _ _ _).mono ?_
   rintro r w' ⟨rfl, hw⟩
   subst hw
   rw [hin]
   go_wp2_with fail
   refine (l1In_int _ _ _ _).mono ?_
   rintro r w' ⟨rfl, hw⟩
   subst hw
   rw [hin2]
   clear hin hin2
   go_wp2
   go_quiet (fail)
   have hVE : Ext ((w.alloc (.cells #[.int .i64 p, .int .i64 D, .int .i64 L, .int .i64 bx, .int .i64 b'] 48)).alloc (.cells #[.int .i64 x, .int .i64 y] 49)) (((w.alloc (.cells #[.int .i64 p, .int .i64 D, .int .i64 L, .int .i64 bx, .int .i64 b'] 48)).alloc (.cells #[.int .i64 x, .int .i64 y] 49)).drewN nq) := below_drewN (Below.refl _ _) _
   obtain ⟨B1, -, hE, hz⟩ := box2 w [.int .i64 p, .int .i64 D, .int .i64 L, .int .i64 bx, .int .i64 b'] [.int .i64 x, .int .i64 y] 48 49 hVE
   clear hVE
   generalize ((w.alloc (.cells #[.int .i64 p, .int .i64 D, .int .i64 L, .int .i64 bx, .int .i64 b'] 48)).alloc (.cells #[.int .i64 x, .int .i64 y] 49)).drewN nq = V at *
   have k0 := (B1 0 _ rfl).1
   have k1 := (B1 1 _ rfl).1
   clear B1
   go_wp2
   go_quiet ((go_at_call 143; exact Calls.quiet_of_same (HL.out _)))
   go_wp2
   go_ret
   exact ⟨Hy.out _ (by rw [Int.sub_emod (y * y) (x * x) p]), below_drewN hE _⟩
  ·have hin2 : (decide ((0 : Int) ≤ y) && decide (y ≤ p - 1)) = false := by simp; omega
   have Hno : Hid (GivesOnE p D ⟨x, y⟩ (.returned (.bool false))) := givesOnE_no (fun h => c2 ⟨h.2.2.1, h.2.2.2⟩) (by omega)
   go_enter Tryz.func121, Tryz.ntmps121
   go_wp2_with fail
   refine (l1In_int _ _ _ _).mono ?_
   rintro r w' ⟨rfl, hw⟩
   subst hw
   rw [hin]
   go_wp2_with fail
   refine (l1In_int _ _ _ _).mono ?_
   rintro r w' ⟨rfl, hw⟩
   subst hw
   rw [hin2]
   clear hin hin2
   go_wp2
   go_ret
   exact ⟨Hno.out, ((Below.refl _ _).alloc (Nat.le_refl _) _).alloc (by simp) _⟩
 ·have hin : (decide ((0 : Int) ≤ x) && decide (x ≤ p - 1)) = false := by simp; omega
  have Hno : Hid (GivesOnE p D ⟨x, y⟩ (.returned (.bool false))) := givesOnE_no (fun h => c1 ⟨h.1, h.2.1⟩) (by omega)
  go_enter Tryz.func121, Tryz.ntmps121
  go_wp2_with fail
  refine (l1In_int _ _ _ _).mono ?_
  rintro r w' ⟨rfl, hw⟩
  subst hw
  rw [hin]
  clear hin
  go_wp2
  go_ret
  exact ⟨Hno.out, ((Below.refl _ _).alloc (Nat.le_refl _) _).alloc (by simp) _⟩
theorem l2Inv_ext (a : Int) (p : Nat) (w : World) (h0 : -9223372036854775808 ≤ a) (h1 : a ≤ 9223372036854775807) (hp : Prime p) (h3 : 3 ≤ p) (hm : p ≤ 1073741824) :
  Calls Tryz.prog 142 #[.int .i64 a, .int .i64 (p : Int)] w fun r w' => r = .returned (.int .i64 (iv p a)) ∧ Ext w w' :=
 (l2Inv_iv a p w h0 h1 hp h3 hm).mono fun r w' k => ⟨k.1, by obtain ⟨q, rfl⟩ := k.2; exact below_drewN (Below.refl _ _) _⟩
set_option maxHeartbeats 1600000 in
set_option maxRecDepth 100000 in
theorem l4Add_any (p : Nat) (D L bx b' : Int) (a b : Pr) (w : World) (hpr : Prime p) (h3 : 3 ≤ p) (hp : p ≤ 1048576) (hD0 : 0 ≤ D) (hD : D ≤ 1048576) (ha : InE p a) (hb : InE p b) :
  Calls Tryz.prog 172 #[.agg #[.int .i64 p, .int .i64 D, .int .i64 L, .int .i64 bx, .int .i64 b'], .agg #[.int .i64 a.x, .int .i64 a.y], .agg #[.int .i64 b.x, .int .i64 b.y]] w fun r w' => r = .returned (prV (addE p D a b)) ∧ Ext w w' := by
 obtain ⟨x1, y1⟩ := a
 obtain ⟨x2, y2⟩ := b
 obtain ⟨a0, a1, a2, a3⟩ := ha
 obtain ⟨b0, b1, b2, b3⟩ := hb
 simp only at a0 a1 a2 a3 b0 b1 b2 b3 ⊢
 have pp : (0 : Int) < p := by omega
 have hM : (p : Int) ≤ 1048576 := by omega
 obtain ⟨m, hm⟩ : ∃ m, m = D * (x1 * x2 % p) % p * (y1 * y2 % p) % p := ⟨_, rfl⟩
 have HV := hide (addE_model p D x1 y1 x2 y2 m hm)
 obtain ⟨q1, q2⟩ := mulBd a0 (show x1 ≤ 1048576 by omega) b0 (show x2 ≤ 1048576 by omega)
 obtain ⟨q3, q4⟩ := mulBd a2 (show y1 ≤ 1048576 by omega) b2 (show y2 ≤ 1048576 by omega)
 obtain ⟨q5, q6⟩ := mulBd a0 (show x1 ≤ 1048576 by omega) b2 (show y2 ≤ 1048576 by omega)
 obtain ⟨q7, q8⟩ := mulBd a2 (show y1 ≤ 1048576 by omega) b0 (show x2 ≤ 1048576 by omega)
 have u0 := Int.emod_nonneg (x1 * x2) (show (p : Int) ≠ 0 by omega)
 have u1 := Int.emod_lt_of_pos (x1 * x2) pp
 have v0 := Int.emod_nonneg (y1 * y2) (show (p : Int) ≠ 0 by omega)
 have v1 := Int.emod_lt_of_pos (y1 * y2) pp
 obtain ⟨d0, d1⟩ := mulBd hD0 hD u0 (show x1 * x2 % (p : Int) ≤ 1048576 by omega)
 have r0 := Int.emod_nonneg (D * (x1 * x2 % p)) (show (p : Int) ≠ 0 by omega)
 have r1 := Int.emod_lt_of_pos (D * (x1 * x2 % p)) pp
 obtain ⟨s0, s1⟩ := mulBd r0 (show D * (x1 * x2 % (p : Int)) % p ≤ 1048576 by omega) v0 (show y1 * y2 % (p : Int) ≤ 1048576 by omega)
 have m0 : 0 ≤ m := by rw [hm]; exact Int.emod_nonneg _ (by omega)
 have m1 : m < p := by rw [hm]; exact Int.emod_lt_of_pos _ pp
 have t0 := Int.emod_nonneg (x1 * y2 + y1 * x2) (show (p : Int) ≠ 0 by omega)
 have t1 := Int.emod_lt_of_pos (x1 * y2 + y1 * x2) pp
 have t2 := Int.emod_nonneg (y1 * y2 % p + x1 * x2 % p) (show (p : Int) ≠ 0 by omega)
 have t3 := Int.emod_lt_of_pos (y1 * y2 % p + x1 * x2 % p) pp
 obtain ⟨i0, i1⟩ := iv_range (show 0 < p by omega) (1 + m)
 obtain ⟨i2, i3⟩ := iv_range (show 0 < p by omega) (1 - m)
 obtain ⟨k0, k1⟩ := mulBd t0 (show (x1 * y2 + y1 * x2) % (p : Int) ≤ 1048576 by omega) i0 (show iv p (1 + m) ≤ 1048576 by omega)
 obtain ⟨k2, k3⟩ := mulBd t2 (show (y1 * y2 % (p : Int) + x1 * x2 % (p : Int)) % (p : Int) ≤ 1048576 by omega) i2 (show iv p (1 - m) ≤ 1048576 by omega)
 replace hm := hm.symm
 obtain ⟨A1, hA1⟩ : ∃ A1, 1 + m = A1 := ⟨_, rfl⟩
 obtain ⟨A2, hA2⟩ : ∃ A2, 1 - m = A2 := ⟨_, rfl⟩
 have e1 : IntKind.i64.wrap (1 - m) = A2 := by rw [IntKind.wrap_i64]; omega
 have e2 : IntKind.i64.wrap (1 + m) = A1 := by rw [IntKind.wrap_i64]; omega
 have e1' : wrap64 (1 - m) = A2 := by unfold wrap64; omega
 have e2' : wrap64 (1 + m) = A1 := by unfold wrap64; omega
 have HI1 : Hid (∀ w : World, Calls Tryz.prog 142 #[.int .i64 A1, .int .i64 (p : Int)] w fun e w' => e = .returned (.int .i64 (iv p A1)) ∧ Ext w w') := fun w => l2Inv_ext A1 p w (by omega) (by omega) hpr (by omega) (by omega)
 have HI2 : Hid (∀ w : World, Calls Tryz.prog 142 #[.int .i64 A2, .int .i64 (p : Int)] w fun e w' => e = .returned (.int .i64 (iv p A2)) ∧ Ext w w') := fun w => l2Inv_ext A2 p w (by omega) (by omega) hpr (by omega) (by omega)
 rw [hA1, hA2] at HV
 rw [hA1] at i0 i1 k0 k1
 rw [hA2] at i2 i3 k2 k3
 rw [← Int.add_emod] at HV t2 t3 k2 k3
 have pp' : ¬ (p : Int) = 0 := by omega
 have pn : ¬ p = 0 := by omega
 have pb : (p == 0) = false := by simpa using pn
 have pc : ((p : Int) == 0) = false := by simpa using pn
 go_enter Tryz.func172, Tryz.ntmps172
 go_wp2
 go_quiet (fail)
 have hVE : Ext ((((w.alloc (.cells #[.int .i64 p, .int .i64 D, .int .i64 L, .int .i64 bx, .int .i64 b'] 48)).alloc (.cells #[.int .i64 x1, .int .i64 y1] 49)).alloc (.cells #[.int .i64 x2, .int .i64 y2] 49)).alloc (.cells #[.int .i64 0, .int .i64 0] 49)) (((((w.alloc (.cells #[.int .i64 p, .int .i64 D, .int .i64 L, .int .i64 bx, .int .i64 b'] 48)).alloc (.cells #[.int .i64 x1, .int .i64 y1] 49)).alloc (.cells #[.int .i64 x2, .int .i64 y2] 49)).alloc (.cells #[.int .i64 0, .int .i64 0] 49)).drewN nq) := below_drewN (Below.refl _ _) _
 obtain ⟨B1, B2, B3, B4, hE, hz⟩ := box4 w [.int .i64 p, .int .i64 D, .int .i64 L, .int .i64 bx, .int .i64 b'] [.int .i64 x1, .int .i64 y1] [.int .i64 x2, .int .i64 y2] [.int .i64 0, .int .i64 0] 48 49 49 49 hVE
 clear hVE
 generalize ((((w.alloc (.cells #[.int .i64 p, .int .i64 D, .int .i64 L, .int .i64 bx, .int .i64 b'] 48)).alloc (.cells #[.int .i64 x1, .int .i64 y1] 49)).alloc (.cells #[.int .i64 x2, .int .i64 y2] 49)).alloc (.cells #[.int .i64 0, .int .i64 0] 49)).drewN nq = w1 at *
 have j0 := (B1 0 _ rfl).1
 have j1 := (B1 1 _ rfl).1
 go_wp2
 go_quiet (fail)
 have h2 : Ext w1 (w1.drewN nq) := below_drewN (Below.refl _ _) _
 generalize w1.drewN nq = w2 at *
 clear j0 j1
 replace B1 := B1.ext h2 (by omega)
 replace B2 := B2.ext h2 (by omega)
 replace B3 := B3.ext h2 (by omega)
 replace B4 := B4.ext h2 (by omega)
 replace hE := hE.trans h2
 replace hz : w.heap.size + 4 ≤ w2.heap.size := Nat.le_trans hz (Below.size h2)
 clear h2
 have j0 := (B1 0 _ rfl).1
 have j1 := (B1 1 _ rfl).1
 have f0 := (B2 0 _ rfl).1
 have f1 := (B2 1 _ rfl).1
 have g0 := (B3 0 _ rfl).1
 have g1 := (B3 1 _ rfl).1
 go_wp2
 simp only [hm]
 clear j0 j1 f0 f1 g0 g1 hm
 have rw0 : IntKind.i64.wrap (((x1 * y2 + y1 * x2) % (p : Int)) * iv p A1) = ((x1 * y2 + y1 * x2) % (p : Int)) * iv p A1 := by rw [IntKind.wrap_i64]; omega
 have ru0 : wrap64 (((x1 * y2 + y1 * x2) % (p : Int)) * iv p A1) = ((x1 * y2 + y1 * x2) % (p : Int)) * iv p A1 := by unfold wrap64; omega
 have rt1 : Int.tmod (((x1 * y2 + y1 * x2) % (p : Int)) * iv p A1) (p : Int) = (((x1 * y2 + y1 * x2) % (p : Int)) * iv p A1) % (p : Int) := Int.tmod_eq_emod_of_nonneg k0
 have rq1 := Int.emod_nonneg (((x1 * y2 + y1 * x2) % (p : Int)) * iv p A1) pp'
 have rs1 := Int.emod_lt_of_pos (((x1 * y2 + y1 * x2) % (p : Int)) * iv p A1) pp
 have rw1 : IntKind.i64.wrap ((((x1 * y2 + y1 * x2) % (p : Int)) * iv p A1) % (p : Int)) = (((x1 * y2 + y1 * x2) % (p : Int)) * iv p A1) % (p : Int) := by rw [IntKind.wrap_i64]; omega
 have ru1 : wrap64 ((((x1 * y2 + y1 * x2) % (p : Int)) * iv p A1) % (p : Int)) = (((x1 * y2 + y1 * x2) % (p : Int)) * iv p A1) % (p : Int) := by unfold wrap64; omega
 have rw2 : IntKind.i64.wrap ((y1 * y2 % (p : Int) + x1 * x2 % (p : Int))) = (y1 * y2 % (p : Int) + x1 * x2 % (p : Int)) := by rw [IntKind.wrap_i64]; omega
 have ru2 : wrap64 ((y1 * y2 % (p : Int) + x1 * x2 % (p : Int))) = (y1 * y2 % (p : Int) + x1 * x2 % (p : Int)) := by unfold wrap64; omega
 have rt3 : Int.tmod ((y1 * y2 % (p : Int) + x1 * x2 % (p : Int))) (p : Int) = ((y1 * y2 % (p : Int) + x1 * x2 % (p : Int))) % (p : Int) := Int.tmod_eq_emod_of_nonneg (by omega)
 have rq3 := Int.emod_nonneg ((y1 * y2 % (p : Int) + x1 * x2 % (p : Int))) pp'
 have rs3 := Int.emod_lt_of_pos ((y1 * y2 % (p : Int) + x1 * x2 % (p : Int))) pp
 have rw3 : IntKind.i64.wrap (((y1 * y2 % (p : Int) + x1 * x2 % (p : Int))) % (p : Int)) = ((y1 * y2 % (p : Int) + x1 * x2 % (p : Int))) % (p : Int) := by rw [IntKind.wrap_i64]; omega
 have ru3 : wrap64 (((y1 * y2 % (p : Int) + x1 * x2 % (p : Int))) % (p : Int)) = ((y1 * y2 % (p : Int) + x1 * x2 % (p : Int))) % (p : Int) := by unfold wrap64; omega
 have rw4 : IntKind.i64.wrap ((y1 * y2 + x1 * x2) % (p : Int) * iv p A2) = (y1 * y2 + x1 * x2) % (p : Int) * iv p A2 := by rw [IntKind.wrap_i64]; omega
 have ru4 : wrap64 ((y1 * y2 + x1 * x2) % (p : Int) * iv p A2) = (y1 * y2 + x1 * x2) % (p : Int) * iv p A2 := by unfold wrap64; omega
 have rt5 : Int.tmod ((y1 * y2 + x1 * x2) % (p : Int) * iv p A2) (p : Int) = ((y1 * y2 + x1 * x2) % (p : Int) * iv p A2) % (p : Int) := Int.tmod_eq_emod_of_nonneg k2
 have rq5 := Int.emod_nonneg ((y1 * y2 + x1 * x2) % (p : Int) * iv p A2) pp'
 have rs5 := Int.emod_lt_of_pos ((y1 * y2 + x1 * x2) % (p : Int) * iv p A2) pp
 have rw5 : IntKind.i64.wrap (((y1 * y2 + x1 * x2) % (p : Int) * iv p A2) % (p : Int)) = ((y1 * y2 + x1 * x2) % (p : Int) * iv p A2) % (p : Int) := by rw [IntKind.wrap_i64]; omega
 have ru5 : wrap64 (((y1 * y2 + x1 * x2) % (p : Int) * iv p A2) % (p : Int)) = ((y1 * y2 + x1 * x2) % (p : Int) * iv p A2) % (p : Int) := by unfold wrap64; omega
 obtain ⟨X, hX⟩ : ∃ X : Nat → Prop, X = fun k => w.heap.size + 3 ≤ k := ⟨_, rfl⟩
 have x0 : ∀ k, k < w.heap.size + 3 → ¬ X k := fun k h => by rw [hX]; simp; omega
 have xC : X (w.heap.size + 1 + 1 + 1) := by rw [hX]; exact Nat.le_refl _
 clear hX
 have c0 := cell_reC (B1 0 _ rfl).1 (x0 _ (by first | omega | (simp only; omega)))
 clear a0 a1 a2 a3 b0 b1 b2 b3 q1 q2 q3 q4 q5 q6 q7 q8 u0 u1 v0 v1 d0 d1 r0 r1 s0 s1 m0 m1 t0 t1 t2 t3 i0 i1 i2 i3 k0 k1 k2 k3 hA1 hA2 B1 B2 B3 hpr h3 hp hD0 hD hM rq1 rq3 rq5 rs1 rs3 rs5
 refine anyK_begin X 27 rfl (by kernel_rfl) ?_
 refine anyK_take 0 26 1 rfl (by decide) (by kernel_rfl) (fun _ _ d _ _ h => by cases d <;> exact h) ?_
 repeat (refine headC_step (fun K hK => ?_); go_simp; first | (refine hK _ ?_; clear hK K) | (apply Exists.intro; refine ⟨fun _ => ?_, hK _ ?_⟩; (first | (go_at_call_of 142 (A1); exact Calls.re_of (HI1.out _)) | (go_at_call_of 142 (A2); exact Calls.re_of (HI2.out _))); clear hK K))
 refine headC_nil ?_
 clear c0
 generalize (x1 * y2 + y1 * x2) % (p : Int) * iv p A1 % p = e1 at *
 generalize (y1 * y2 + x1 * x2) % (p : Int) * iv p A2 % p = e2 at *
 refine anyK_one 26 (by kernel_rfl) ?_
 refine stepK_run rfl ?_
 intro w3 h3 K hK
 have BZ := B4.ext h3 (by omega)
 have v0' := (BZ 0 _ rfl).1
 have v1' := (BZ 1 _ rfl).1
 have z0 := (BZ 0 _ rfl).2
 have z1 := (BZ 1 _ rfl).2
 go_simp
 refine hK _ _ (show Grw X w2 (putL (w.heap.size + 1 + 1 + 1) 0 [.int .i64 e1, .int .i64 e2] w3) from Grw.putL xC _ _ _ (.of_ext h3)) ?_
 clear hK K v0' v1' z0 z1
 refine anyK_done (by kernel_rfl) ?_ 0
 intro w4 h4
 replace h4 : Ext (putL (w.heap.size + 1 + 1 + 1) 0 [.int .i64 e1, .int .i64 e2] w3) w4 := h4
 have BW := (BZ.put [.int .i64 e1, .int .i64 e2] rfl).ext h4 (by rw [size_putL]; have := Below.size h3; omega)
 have hF : Ext w w4 := ((hE.trans h3).putL (by omega) [.int .i64 e1, .int .i64 e2]).trans h4
 clear h3 h4 BZ
 have j0 := (BW 0 _ rfl).1
 have j1 := (BW 1 _ rfl).1
 go_wp2
 refine bodyPost_ret (v := .agg #[.int .i64 e1, .int .i64 e2]) (by simp [results, Tryz.results172, go_sem, j0, j1]) rfl ⟨by rw [HV.out]; rfl, hF⟩
theorem accE_zero (p : Nat) (D : Int) : ∀ (f : Nat) (o a : Pr), accE p D f 0 o a = o := by
 intro f
 induction f with
 | zero => intro o a; rfl
 | succ f ih => intro o a; rw [accE]; simp [ih]
structure MulE (w wr : World) (p D L bx b' : Int) (b o : Pr) : Prop where
 cv : Blk wr w.heap.size [.int .i64 p, .int .i64 D, .int .i64 L, .int .i64 bx, .int .i64 b']
 pt : Blk wr (w.heap.size + 1) [.int .i64 b.x, .int .i64 b.y]
 rs : Blk wr (w.heap.size + 1 + 1) [.int .i64 0, .int .i64 0]
 ot : Blk wr (w.heap.size + 1 + 1 + 1) [.int .i64 o.x, .int .i64 o.y]
 ext : Ext w wr
 big : w.heap.size + 4 ≤ wr.heap.size
theorem MulE.call {w wr w1 : World} {p D L bx b' : Int} {b o : Pr} (h : MulE w wr p D L bx b' b o) (hb : Ext wr w1) : MulE w w1 p D L bx b' b o :=
 ⟨h.cv.ext hb (by have := h.big; omega), h.pt.ext hb (by have := h.big; omega), h.rs.ext hb (by have := h.big; omega), h.ot.ext hb (by have := h.big; omega), h.ext.trans hb, Nat.le_trans h.big (Below.size hb)⟩
theorem MulE.putO {w wr : World} {p D L bx b' : Int} {b o : Pr} (h : MulE w wr p D L bx b' b o) (c : Pr) : MulE w (putL (w.heap.size + 1 + 1 + 1) 0 [.int .i64 c.x, .int .i64 c.y] wr) p D L bx b' b c :=
 ⟨h.cv.put_other _ (by omega), h.pt.put_other _ (by omega), h.rs.put_other _ (by omega), h.ot.put _ rfl, h.ext.putL (by omega) _, by rw [size_putL]; exact h.big⟩
theorem MulE.putB {w wr : World} {p D L bx b' : Int} {b o : Pr} (h : MulE w wr p D L bx b' b o) (c : Pr) : MulE w (putL (w.heap.size + 1) 0 [.int .i64 c.x, .int .i64 c.y] wr) p D L bx b' c o :=
 ⟨h.cv.put_other _ (by omega), h.pt.put _ rfl, h.rs.put_other _ (by omega), h.ot.put_other _ (by omega), h.ext.putL (by omega) _, by rw [size_putL]; exact h.big⟩
set_option maxHeartbeats 3200000 in
set_option maxRecDepth 100000 in
theorem l4Mul_any (p : Nat) (D L bx b' : Int) (n : Nat) (a : Pr) (w : World) (hpr : Prime p) (h3 : 3 ≤ p) (hp : p ≤ 1048576) (hD0 : 0 ≤ D) (hD : D ≤ 1048576) (ha : InE p a) (hn : n ≤ 9223372036854775807) :
  Calls Tryz.prog 145 #[.agg #[.int .i64 p, .int .i64 D, .int .i64 L, .int .i64 bx, .int .i64 b'], .int .i64 n, .agg #[.int .i64 a.x, .int .i64 a.y]] w fun r w' => r = .returned (prV (mulE p D n a)) ∧ Ext w w' := by
 have Hadd : Hid (∀ (a b : Pr) (w : World), InE p a → InE p b → Calls Tryz.prog 172 #[.agg #[.int .i64 p, .int .i64 D, .int .i64 L, .int .i64 bx, .int .i64 b'], .agg #[.int .i64 a.x, .int .i64 a.y], .agg #[.int .i64 b.x, .int .i64 b.y]] w fun r w' => r = .returned (.agg #[.int .i64 (addE p D a b).x, .int .i64 (addE p D a b).y]) ∧ Ext w w') := fun a b w ha hb => l4Add_any p D L bx b' a b w hpr h3 hp hD0 hD ha hb
 have Hin : Hid (∀ a b : Pr, InE p a → InE p b → InE p (addE p D a b)) := fun a b _ _ => addE_inE (by omega) D a b
 have Hs : Hid (accE p D 64 n oneE a = mulE p D n a) := rfl
 have Ha : Hid (InE p a) := ha
 have Hf : Hid (InE p oneE) := ⟨Int.le_refl _, by show (0 : Int) < p; omega, by show (0 : Int) ≤ 1; omega, by show (1 : Int) < p; omega⟩
 generalize mulE p D n a = G at *
 clear hpr h3 hp hD0 hD ha
 go_enter Tryz.func145, Tryz.ntmps145
 obtain ⟨B1, B2, B3, B4, hE, hz⟩ := box4 w [.int .i64 p, .int .i64 D, .int .i64 L, .int .i64 bx, .int .i64 b'] [.int .i64 a.x, .int .i64 a.y] [.int .i64 0, .int .i64 0] [.int .i64 0, .int .i64 1] 48 49 49 49 (Ext.refl _)
 have HF : Hid (MulE w _ p D L bx b' a oneE) := ⟨B1, B2, B3, B4, hE, hz⟩
 clear B1 B2 B3 B4 hE hz
 go_wp2
 go_loopw [1] (fun m wr => ∃ (f X : Nat) (o b : Pr), m = .int .i64 X ∧ X < 2 ^ f ∧ X ≤ 9223372036854775807 ∧ InE p o ∧ InE p b ∧ accE p D f X o b = G ∧ MulE w wr p D L bx b' b o) (fun m _ => (intOf m).toNat)
 case atStart => exact ⟨64, n, oneE, a, rfl, by omega, hn, Hf.out, Ha.out, Hs.out, HF.out⟩
 case round =>
  obtain ⟨f, X, o, b, rfl, hX, hXm, ho, hb, hacc, hM⟩ := hrel
  have HM := hide hM
  have Hacc := hide hacc
  clear Hs Ha Hf hacc HF
  have KC := hM.cv
  have KO := hM.ot
  have KB := hM.pt
  have k0 := (KC 0 _ rfl).1
  have k1 := (KC 1 _ rfl).1
  have k2 := (KC 2 _ rfl).1
  have k3 := (KC 3 _ rfl).1
  have k4 := (KC 4 _ rfl).1
  have o0 := (KO 0 _ rfl).1
  have o1 := (KO 1 _ rfl).1
  have y0 := (KO 0 _ rfl).2
  have y1 := (KO 1 _ rfl).2
  have b0 := (KB 0 _ rfl).1
  have b1 := (KB 1 _ rfl).1
  have x0 := (KB 0 _ rfl).2
  have x1 := (KB 1 _ rfl).2
  clear KC KO KB
  clear hM
  by_cases h0 : X = 0
  ·subst h0
   have e : o = G := by rw [← Hacc.out, accE_zero]
   subst e
   have B3 := HM.out.rs
   have hE := HM.out.ext
   have d0 := (B3 0 _ rfl).1
   have d1 := (B3 1 _ rfl).1
   have z0 := (B3 0 _ rfl).2
   have z1 := (B3 1 _ rfl).2
   go_wp2
   obtain ⟨W, hW⟩ : ∃ W, putL (w.heap.size + 1 + 1) 0 [.int .i64 o.x, .int .i64 o.y] wr = W := ⟨_, rfl⟩
   have BW := Blk.put B3 [.int .i64 o.x, .int .i64 o.y] rfl
   rw [hW] at BW
   have hF : Ext w W := hW ▸ hE.putL (by omega) _
   simp only [putL, Nat.zero_add] at hW
   simp only [hW]
   have q0 := (BW 0 _ rfl).1
   have q1 := (BW 1 _ rfl).1
   refine bodyPost_ret (v := .agg #[.int .i64 o.x, .int .i64 o.y]) (by simp [results, Tryz.results145, go_sem, q0, q1]) rfl ⟨rfl, hF⟩
  ·obtain ⟨f', rfl⟩ : ∃ f', f = f' + 1 := by
    rcases f with _ | f'
    ·simp at hX; omega
    ·exact ⟨f', rfl⟩
   have hX2 : X / 2 < 2 ^ f' := by rw [Nat.pow_succ] at hX; omega
   have hpos : 0 < (X : Int) := by omega
   have Hac : Hid (accE p D f' (X / 2) (if X % 2 = 1 then addE p D o b else o) (addE p D b b) = G) := Hacc.out
   have Hbb := hide (Hin.out b b hb hb)
   clear Hacc hX
   by_cases hodd : X % 2 = 1
   ·have hb1 : (X : Int) % 2 = 1 := by omega
    have Hob := hide (Hin.out o b ho hb)
    have Ha2 : Hid (accE p D f' (X / 2) (addE p D o b) (addE p D b b) = G) := by have := Hac.out; rwa [if_pos hodd] at this
    clear Hac
    go_wp2_with fail
    refine (Hadd.out o b _ ho hb).mono ?_
    rintro e w1 ⟨rfl, hw1⟩
    generalize addE p D o b = c at *
    have M1 := HM.out.call hw1
    have HM1 := hide M1
    clear hw1 HM k0 k1 k2 k3 k4 o0 o1 y0 y1 b0 b1 x0 x1
    have KC := M1.cv
    have KO := M1.ot
    have KB := M1.pt
    have k0 := (KC 0 _ rfl).1
    have k1 := (KC 1 _ rfl).1
    have k2 := (KC 2 _ rfl).1
    have k3 := (KC 3 _ rfl).1
    have k4 := (KC 4 _ rfl).1
    have o0 := (KO 0 _ rfl).1
    have o1 := (KO 1 _ rfl).1
    have y0 := (KO 0 _ rfl).2
    have y1 := (KO 1 _ rfl).2
    have b0 := (KB 0 _ rfl).1
    have b1 := (KB 1 _ rfl).1
    have x0 := (KB 0 _ rfl).2
    have x1 := (KB 1 _ rfl).2
    clear KC KO KB
    clear M1
    go_wp2_with fail
    refine (Hadd.out b b _ hb hb).mono ?_
    rintro e w2 ⟨rfl, hw2⟩
    generalize addE p D b b = d at *
    have M2 := (HM1.out.putO c).call hw2
    have HM2 := hide M2
    clear hw2 HM1 k0 k1 k2 k3 k4 o0 o1 y0 y1 b0 b1 x0 x1
    have KC := M2.cv
    have KO := M2.ot
    have KB := M2.pt
    have k0 := (KC 0 _ rfl).1
    have k1 := (KC 1 _ rfl).1
    have k2 := (KC 2 _ rfl).1
    have k3 := (KC 3 _ rfl).1
    have k4 := (KC 4 _ rfl).1
    have o0 := (KO 0 _ rfl).1
    have o1 := (KO 1 _ rfl).1
    have y0 := (KO 0 _ rfl).2
    have y1 := (KO 1 _ rfl).2
    have b0 := (KB 0 _ rfl).1
    have b1 := (KB 1 _ rfl).1
    have x0 := (KB 0 _ rfl).2
    have x1 := (KB 1 _ rfl).2
    clear KC KO KB
    clear M2
    go_wp2
    go_roundw
    case rel => exact ⟨f', X / 2, c, d, by go_num, hX2, by omega, Hob.out, Hbb.out, Ha2.out, HM2.out.putB d⟩
    case measure => simp [intOf]; omega
   ·have hb1 : (X : Int) % 2 = 0 := by omega
    have Ha2 : Hid (accE p D f' (X / 2) o (addE p D b b) = G) := by have := Hac.out; rwa [if_neg hodd] at this
    clear Hac
    go_wp2_with fail
    refine (Hadd.out b b _ hb hb).mono ?_
    rintro e w2 ⟨rfl, hw2⟩
    generalize addE p D b b = d at *
    have M2 := HM.out.call hw2
    have HM2 := hide M2
    clear hw2 HM k0 k1 k2 k3 k4 o0 o1 y0 y1 b0 b1 x0 x1
    have KC := M2.cv
    have KO := M2.ot
    have KB := M2.pt
    have k0 := (KC 0 _ rfl).1
    have k1 := (KC 1 _ rfl).1
    have k2 := (KC 2 _ rfl).1
    have k3 := (KC 3 _ rfl).1
    have k4 := (KC 4 _ rfl).1
    have o0 := (KO 0 _ rfl).1
    have o1 := (KO 1 _ rfl).1
    have y0 := (KO 0 _ rfl).2
    have y1 := (KO 1 _ rfl).2
    have b0 := (KB 0 _ rfl).1
    have b1 := (KB 1 _ rfl).1
    have x0 := (KB 0 _ rfl).2
    have x1 := (KB 1 _ rfl).2
    clear KC KO KB
    clear M2
    go_wp2
    go_roundw
    case rel => exact ⟨f', X / 2, o, d, by go_num, hX2, by omega, ho, Hbb.out, Ha2.out, HM2.out.putB d⟩
    case measure => simp [intOf]; omega
end
section
structure EvOk (P D L bx cy : Int) : Prop where
 p13 : 13 ≤ P
 pM : P ≤ 1048576
 p8 : P % 8 = 5
 pp : Prime P.toNat
 d2 : 2 ≤ D
 d1 : D ≤ P - 1
 pw : D.toNat ^ ((P.toNat - 1) / 2) % P.toNat = P.toNat - 1
 l5 : 5 ≤ L
 lM : L ≤ 2097152
 lp : Prime L.toNat
 on : OnE P.toNat D ⟨bx, cy⟩
 ne : ¬ (bx = 0 ∧ cy = 1)
 fold : mulE P.toNat D L.toNat ⟨bx, cy⟩ = oneE
section
variable {P D L bx cy : Int}
theorem EvOk.nat (h : EvOk P D L bx cy) : ((P.toNat : Nat) : Int) = P := by have := h.p13; omega
end
instance : DecidableEq Pr := fun a b => if hx : a.x = b.x then (if hy : a.y = b.y then isTrue (Pr.ext' hx hy) else isFalse (fun e => hy (by rw [e]))) else isFalse (fun e => hx (by rw [e]))
end
end Go.Proofs.YtfhiiakoilkbkaaGreatDoor
