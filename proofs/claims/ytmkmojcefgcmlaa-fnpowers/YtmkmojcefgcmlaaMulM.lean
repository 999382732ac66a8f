/- Products of digits, plain: a digit changed, noughts above a value's end, one step of long multiplication. Nothing of the program. -/
import Derived.Test.YtmkmojcefgcmlaaNum
namespace Go.Proofs.Ytmkmojcefgcmlaa
set_option linter.unusedVariables false

/-- One place changed. -/
def upd (h : Nat → Int) (k : Nat) (x : Int) : Nat → Int := fun j => if j = k then x else h j

theorem upd_same (h : Nat → Int) (k : Nat) (x : Int) : upd h k x k = x := by simp [upd]
theorem upd_other {h : Nat → Int} {k j : Nat} {x : Int} (e : j ≠ k) : upd h k x j = h j := by simp [upd, e]

theorem upd_digs {h : Nat → Int} {n k : Nat} {x : Int} (hd : Digs h n) (h0 : 0 ≤ x) (h1 : x ≤ 65535) : Digs (upd h k x) n := by
  intro i hi
  by_cases e : i = k
  · subst e; rw [upd_same]; exact ⟨h0, h1⟩
  · rw [upd_other e]; exact hd i hi

theorem val_upd {h : Nat → Int} {n k : Nat} {x : Int} (hk : k < n) : val (upd h k x) n = val h n + (x - h k) * pw k := by
  induction n with
  | zero => omega
  | succ n ih =>
    simp only [val]
    by_cases e : k = n
    · subst e
      rw [upd_same, val_congr (f := upd h k x) (g := h) (fun i hi => upd_other (by omega))]
      grind
    · rw [ih (by omega), upd_other (by omega)]
      omega

/-- Above a value's end there are noughts. -/
theorem val_high {h : Nat → Int} {n m : Nat} (hd : Digs h n) (hv : val h n < pw m) : ∀ j, m ≤ j → j < n → h j = 0 := by
  induction n with
  | zero => intro j _ hj; omega
  | succ n ih =>
    have b := val_bd (hd.mono (Nat.le_succ n))
    have d := hd n (by omega)
    simp only [val] at hv
    intro j h1 h2
    have hm : m ≤ n := by omega
    have p := pw_le hm
    have pp := pw_pos n
    have hz : h n = 0 := by
      by_cases e : h n = 0
      · exact e
      · have := Int.mul_le_mul_of_nonneg_right (show (1 : Int) ≤ h n by omega) (Int.le_of_lt pp)
        omega
    by_cases e : j = n
    · subst e; exact hz
    · rw [hz] at hv
      exact ih (hd.mono (by omega)) (by omega) j h1 (by omega)

/-- One step of a row of long multiplication. -/
theorem mul_step {h g : Nat → Int} {N i k : Nat} {V d c x : Int} (hk : i + k < N) (hx : x = h (i + k) + d * g k + c) (inv : val h N + c * pw (i + k) = V + d * val g k * pw i) :
    val (upd h (i + k) (x % 65536)) N + x / 65536 * pw (i + (k + 1)) = V + d * val g (k + 1) * pw i := by
  rw [val_upd hk, show i + (k + 1) = (i + k) + 1 from rfl]
  have e : x = x % 65536 + 65536 * (x / 65536) := by omega
  generalize x % 65536 = r at *
  generalize x / 65536 = q at *
  simp only [val, pw]
  rw [pw_add] at *
  grind

theorem prod_bd {d y : Int} (h0 : 0 ≤ d) (h1 : d ≤ 65535) (y0 : 0 ≤ y) (y1 : y ≤ 65535) : 0 ≤ d * y ∧ d * y ≤ 4294836225 := by
  have a := Int.mul_le_mul_of_nonneg_right h1 y0
  exact ⟨Int.mul_nonneg h0 y0, by omega⟩

theorem val_mul_lt {f g : Nat → Int} {i n2 : Nat} (hf : Digs f i) (hg : Digs g n2) : 0 ≤ val f i * val g n2 ∧ val f i * val g n2 < pw (i + n2) := by
  have a := val_bd hf
  have b := val_bd hg
  have p := pw_pos n2
  refine ⟨Int.mul_nonneg a.1 b.1, ?_⟩
  have h1 := Int.mul_le_mul_of_nonneg_left (Int.le_of_lt b.2) a.1
  have h2 := Int.mul_lt_mul_of_pos_right a.2 p
  rw [pw_add]
  omega

end Go.Proofs.Ytmkmojcefgcmlaa
