/- The three curves of the model's draws are right. Nothing of the program. -/
import Derived.Test.YtcfpmillbdkpcaaDoorCurveK
namespace Go.Proofs.YtcfpmillbdkpcaaDoor
set_option linter.unusedVariables false
open Go.RowKit

def kP : Nat → Int
  | 0 => 103
  | 1 => 1019
  | _ => 10007

def kA : Nat → Int
  | 0 => 2
  | 1 => 11
  | _ => 3

def kB : Nat → Int
  | 0 => 11
  | 1 => 6
  | _ => 6

def kN : Nat → Int
  | 0 => 97
  | 1 => 997
  | _ => 10039

def kX : Nat → Int
  | 0 => 1
  | 1 => 2
  | _ => 0

def kY : Nat → Int
  | 0 => 23
  | 1 => 6
  | _ => 1973

theorem prime_of {p : Nat} (b : Nat) (h2 : 2 ≤ p) (hb : p < b * b) (h : ∀ d, d < b → 2 ≤ d → ¬ p % d = 0) : Prime p :=
  ⟨h2, fun d hd hdd hdv => h d (by
    rcases Nat.lt_or_ge d b with k | k
    · exact k
    · have := Nat.mul_le_mul k k; omega) hd (Nat.mod_eq_zero_of_dvd hdv)⟩

theorem crv0 : CvOk 103 2 11 97 1 23 :=
  ⟨by decide, by decide, by decide, prime_of 11 (by decide) (by decide) (by decide +kernel), by decide, by decide, by decide, by decide, by decide, by decide, prime_of 10 (by decide) (by decide) (by decide +kernel), by decide +kernel, Or.inr ⟨rfl, by decide, by decide, by decide, by decide, by decide +kernel⟩, by decide +kernel⟩

theorem crv1 : CvOk 1019 11 6 997 2 6 :=
  ⟨by decide, by decide, by decide, prime_of 32 (by decide) (by decide) (by decide +kernel), by decide, by decide, by decide, by decide, by decide, by decide, prime_of 32 (by decide) (by decide) (by decide +kernel), by decide +kernel, Or.inr ⟨rfl, by decide, by decide, by decide, by decide, by decide +kernel⟩, by decide +kernel⟩

theorem crv2 : CvOk 10007 3 6 10039 0 1973 :=
  ⟨by decide, by decide, by decide, prime_of 101 (by decide) (by decide) (by decide +kernel), by decide, by decide, by decide, by decide, by decide, by decide, prime_of 101 (by decide) (by decide) (by decide +kernel), by decide +kernel, Or.inr ⟨rfl, by decide, by decide, by decide, by decide, by decide +kernel⟩, by decide +kernel⟩

theorem crv_ok {j : Nat} (h : j < 3) : CvOk (kP j) (kA j) (kB j) (kN j) (kX j) (kY j) := by
  match j, h with
  | 0, _ => exact crv0
  | 1, _ => exact crv1
  | 2, _ => exact crv2

end Go.Proofs.YtcfpmillbdkpcaaDoor
