/- Twisted curves: when one is right; the three of the model's draws are. Nothing of the program. -/
import Derived.Test.YtdaneanloknkpacGreatDoorEdR
namespace Go.Proofs.YtdaneanloknkpacGreatDoor
set_option linter.unusedVariables false

/-- The twisted curve is as the document wants it. -/
structure EvOk (P D L bx cy : Int) : Prop where
  p13 : 13 ≤ P
  pM : P ≤ 1048576
  p8 : P % 8 = 5
  pp : Prime P.toNat
  d2 : 2 ≤ D
  d1 : D ≤ P - 1
  pw : D.toNat ^ ((P.toNat - 1) / 2) % P.toNat = P.toNat - 1
  l5 : 5 ≤ L
  lM : L ≤ 2097152
  lp : Prime L.toNat
  on : OnE P.toNat D ⟨bx, cy⟩
  ne : ¬ (bx = 0 ∧ cy = 1)
  fold : mulE P.toNat D L.toNat ⟨bx, cy⟩ = oneE

section
variable {P D L bx cy : Int}

theorem EvOk.edc (h : EvOk P D L bx cy) : EdC P.toNat D := by
  have h1 := h.p8; have h2 := h.p13; have h3 := h.d2
  have := edC_of h.pp (show P.toNat % 8 = 5 by omega) h.pw
  rwa [show ((D.toNat : Nat) : Int) = D by omega] at this

theorem EvOk.nat (h : EvOk P D L bx cy) : ((P.toNat : Nat) : Int) = P := by have := h.p13; omega
theorem EvOk.p63 (h : EvOk P D L bx cy) : P ≤ 9223372036854775807 := by have := h.pM; omega
theorem EvOk.l63 (h : EvOk P D L bx cy) : L ≤ 9223372036854775807 := by have := h.lM; omega

theorem EvOk.mul_eq (h : EvOk P D L bx cy) {a : Pr} (ha : OnE P.toNat D a) {n : Nat} (hn : n ≤ 9223372036854775807) : mulE P.toNat D n a = nE P.toNat D n a := mulE_eq h.edc (by omega) ha
theorem EvOk.mul_on (h : EvOk P D L bx cy) {a : Pr} (ha : OnE P.toNat D a) {n : Nat} (hn : n ≤ 9223372036854775807) : OnE P.toNat D (mulE P.toNat D n a) := mulE_on h.edc (by omega) ha

theorem EvOk.mul_succ (h : EvOk P D L bx cy) {a : Pr} (ha : OnE P.toNat D a) {n : Nat} (hn : n ≤ 100000) : addE P.toNat D (mulE P.toNat D n a) a = mulE P.toNat D (n + 1) a := by
  rw [h.mul_eq ha (by omega), h.mul_eq ha (by omega)]; rfl

/-- A pair's other side, as the law writes it. -/
theorem EvOk.other (h : EvOk P D L bx cy) {x y : Int} (ha : OnE P.toNat D ⟨x, y⟩) : OnE P.toNat D ⟨Int.tmod (P - x) P, y⟩ ∧ addE P.toNat D ⟨x, y⟩ ⟨Int.tmod (P - x) P, y⟩ = oneE := by
  have e := h.nat
  have x0 := ha.x0; have x1 := ha.x1
  simp only at x0 x1
  rw [e] at x1
  have hx : Int.tmod (P - x) P = (-x) % P := by
    rw [Int.tmod_eq_emod_of_nonneg (by omega), Int.sub_eq_add_neg, Int.add_emod_left]
  have hn : negE P.toNat ⟨x, y⟩ = ⟨Int.tmod (P - x) P, y⟩ := by unfold negE; rw [e, hx]
  rw [← hn]
  exact ⟨negE_on h.edc ha, add_negE h.edc ha⟩

end

theorem prime_of' {p : Nat} (b : Nat) (h2 : 2 ≤ p) (hb : p < b * b) (h : ∀ d, d < b → 2 ≤ d → ¬ p % d = 0) : Prime p :=
  ⟨h2, fun d hd hdd hdv => h d (by
    rcases Nat.lt_or_ge d b with k | k
    · exact k
    · have := Nat.mul_le_mul k k; omega) hd (Nat.mod_eq_zero_of_dvd hdv)⟩

def eP : Nat → Int
  | 0 => 101
  | 1 => 1021
  | _ => 10037

def eD : Nat → Int
  | 0 => 12
  | 1 => 6
  | _ => 3

def eL : Nat → Int
  | 0 => 11
  | 1 => 263
  | _ => 1279

def eX : Nat → Int
  | 0 => 76
  | 1 => 87
  | _ => 8662

def eY : Nat → Int
  | 0 => 22
  | 1 => 232
  | _ => 1422

instance : DecidableEq Pr := fun a b => if hx : a.x = b.x then (if hy : a.y = b.y then isTrue (Pr.ext' hx hy) else isFalse (fun e => hy (by rw [e]))) else isFalse (fun e => hx (by rw [e]))

theorem ev0 : EvOk 101 12 11 76 22 :=
  ⟨by decide, by decide, by decide, prime_of' 11 (by decide) (by decide) (by decide +kernel), by decide, by decide, by decide +kernel, by decide, by decide, prime_of' 4 (by decide) (by decide) (by decide +kernel), ⟨by decide, by decide, by decide, by decide, by decide +kernel⟩, by decide, by decide +kernel⟩

theorem ev1 : EvOk 1021 6 263 87 232 :=
  ⟨by decide, by decide, by decide, prime_of' 32 (by decide) (by decide) (by decide +kernel), by decide, by decide, by decide +kernel, by decide, by decide, prime_of' 17 (by decide) (by decide) (by decide +kernel), ⟨by decide, by decide, by decide, by decide, by decide +kernel⟩, by decide, by decide +kernel⟩

theorem ev2 : EvOk 10037 3 1279 8662 1422 :=
  ⟨by decide, by decide, by decide, prime_of' 101 (by decide) (by decide) (by decide +kernel), by decide, by decide, by decide +kernel, by decide, by decide, prime_of' 36 (by decide) (by decide) (by decide +kernel), ⟨by decide, by decide, by decide, by decide, by decide +kernel⟩, by decide, by decide +kernel⟩

theorem ev_ok {j : Nat} (h : j < 3) : EvOk (eP j) (eD j) (eL j) (eX j) (eY j) := by
  match j, h with
  | 0, _ => exact ev0
  | 1, _ => exact ev1
  | 2, _ => exact ev2

end Go.Proofs.YtdaneanloknkpacGreatDoor
