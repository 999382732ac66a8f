/- Walks: the model's NatInt and the program's: the number of a natural below 2^62. -/
import Derived.Test.YtmkmojcefgcmlaaDoorNatOk
import Derived.Test.YtmkmojcefgcmlaaDoorBitLen
import Derived.Test.YtmkmojcefgcmlaaDoorNatOf2
namespace Go.Proofs.YtmkmojcefgcmlaaDoor
set_option linter.unusedVariables false
open Go.RowKit

/-- The number fits below 2^62. -/
def smallB (n : Nat) (f : Nat → Int) : Bool := decide (n < 4) || (n == 4 && decide (f 3 < 16384))

theorem small_val {n : Nat} {f : Nat → Int} (hd : Digs f n) (h : smallB n f = true) : n ≤ 4 ∧ val f n < 4611686018427387904 := by
  simp only [smallB, Bool.or_eq_true, decide_eq_true_eq, Bool.and_eq_true, beq_iff_eq] at h
  rcases h with h | ⟨rfl, h⟩
  · have b := val_bd hd
    have p := pw_le (show n ≤ 3 by omega)
    have e : pw 3 = 281474976710656 := by simp [pw]
    omega
  · have b := val_bd (hd.mono (show 3 ≤ 4 by omega))
    have e : pw 3 = 281474976710656 := by simp [pw]
    have e2 : val f 4 = val f 3 + f 3 * 281474976710656 := by rw [← e]; rfl
    omega

/-- The part of a value above a place. -/
theorem top_le {n k : Nat} {f : Nat → Int} (hd : Digs f n) (hk : k ≤ n) : 0 ≤ val (fun j => f (k + j)) (n - k) ∧ val (fun j => f (k + j)) (n - k) ≤ val f n := by
  have h := val_split f k (n - k)
  rw [show k + (n - k) = n by omega] at h
  have b := (val_bd (hd.mono hk)).1
  have t := (val_bd (f := fun j => f (k + j)) (n := n - k) (fun i hi => hd (k + i) (by omega))).1
  have p := Int.mul_le_mul_of_nonneg_left (show (1 : Int) ≤ pw k by have := pw_pos k; omega) t
  rw [Int.mul_one] at p
  omega

theorem low_le {n k : Nat} {f : Nat → Int} (hd : Digs f n) (hk : k ≤ n) : 0 ≤ val f k ∧ val f k ≤ val f n := by
  have h := val_split f k (n - k)
  rw [show k + (n - k) = n by omega] at h
  have b := (val_bd (hd.mono hk)).1
  have t := (val_bd (f := fun j => f (k + j)) (n := n - k) (fun i hi => hd (k + i) (by omega))).1
  have p := Int.mul_nonneg t (Int.le_of_lt (pw_pos k))
  omega

def intV (n : Nat) (f : Nat → Int) : Int := if natOk n f && smallB n f then val f n else 0
def intB (n : Nat) (f : Nat → Int) : Bool := natOk n f && smallB n f

theorem ret_ib {a b : Int} {p q : Bool} (h : a = b) (h2 : p = q) : Ending.returned (.tuple #[.int .i64 a, .bool p]) = .returned (.tuple #[.int .i64 b, .bool q]) := by rw [h, h2]

end Go.Proofs.YtmkmojcefgcmlaaDoor
