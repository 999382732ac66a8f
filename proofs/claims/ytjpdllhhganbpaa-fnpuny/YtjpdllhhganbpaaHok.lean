/- Walks: labels and HostOk of both. -/
import Derived.Test.YtjpdllhhganbpaaHos
namespace Go.Proofs.Ytjpdllhhganbpaa
set_option linter.unusedVariables false
set_option linter.unusedSimpArgs false
open Go.RowKit

/-- The first n bytes are all such. -/
def allN (P : Nat → Bool) (s : ByteArray) : Nat → Bool
  | 0 => true
  | n + 1 => allN P s n && P (bt s n)
theorem allN_iff (P : Nat → Bool) (s : ByteArray) (n : Nat) : allN P s n = true ↔ ∀ i, i < n → P (bt s i) = true := by
  induction n with
  | zero => simp [allN]
  | succ n ih =>
    rw [allN, Bool.and_eq_true, ih]
    constructor
    · rintro ⟨h, h0⟩ i hi
      by_cases e : i = n
      · subst e; exact h0
      · exact h i (by omega)
    · intro h
      exact ⟨fun i hi => h i (by omega), h n (by omega)⟩
theorem allN_false {P : Nat → Bool} {s : ByteArray} {n k : Nat} (hk : k < n) (h : P (bt s k) = false) : allN P s n = false := by
  cases e : allN P s n with
  | false => rfl
  | true => rw [(allN_iff P s n).1 e k hk] at h; cases h

def smB (c : Nat) : Bool := decide (97 ≤ c) && decide (c ≤ 122)
def dgB (c : Nat) : Bool := decide (48 ≤ c) && decide (c ≤ 57)
def chB (c : Nat) : Bool := smB c || dgB c || c == 45
/-- A label. -/
def labB (s : ByteArray) : Bool := allN chB s s.size && (decide (1 ≤ s.size) && decide (s.size ≤ 20) && (bt s 0 != 45) && (bt s (s.size - 1) != 45))
def digB (s : ByteArray) : Bool := allN dgB s s.size
/-- A host. -/
def hostL (L : List ByteArray) : Bool := L.all labB && (decide (L.length ≤ 8) && !digB (nth L (L.length - 1)))
def hostB (s : ByteArray) : Bool := decide (s.size ≤ 80) && hostL (parts s 46)

theorem smB_i (c : Nat) : (decide (97 ≤ (c : Int)) && decide ((c : Int) ≤ 122)) = smB c := by
  unfold smB
  congr 1 <;> · apply decide_eq_decide.2; omega
theorem dgB_i (c : Nat) : (decide (48 ≤ (c : Int)) && decide ((c : Int) ≤ 57)) = dgB c := by
  unfold dgB
  congr 1 <;> · apply decide_eq_decide.2; omega

theorem isSmall_any (r : Nat) (w : World) :
    Calls Try.prog 51 #[.int .i32 (r : Int)] w fun e w' => e = .returned (.bool (smB r)) ∧ w' = w := by
  have H := hide (smB_i r)
  by_cases h1 : (97 : Int) ≤ r
  · by_cases h2 : (r : Int) ≤ 122
    · go_enter Try.func51, Try.ntmps51
      go_wp2
      go_ret
      exact ⟨ret_bool (by rw [← H.out]; simp [h1, h2]), rfl⟩
    · go_enter Try.func51, Try.ntmps51
      go_wp2
      go_ret
      exact ⟨ret_bool (by rw [← H.out]; simp [h1, h2]), rfl⟩
  · go_enter Try.func51, Try.ntmps51
    go_wp2
    go_ret
    exact ⟨ret_bool (by rw [← H.out]; simp; omega), rfl⟩

theorem isDecimal_any (r : Nat) (w : World) :
    Calls Try.prog 52 #[.int .i32 (r : Int)] w fun e w' => e = .returned (.bool (dgB r)) ∧ w' = w := by
  have H := hide (dgB_i r)
  by_cases h1 : (48 : Int) ≤ r
  · by_cases h2 : (r : Int) ≤ 57
    · go_enter Try.func52, Try.ntmps52
      go_wp2
      go_ret
      exact ⟨ret_bool (by rw [← H.out]; simp [h1, h2]), rfl⟩
    · go_enter Try.func52, Try.ntmps52
      go_wp2
      go_ret
      exact ⟨ret_bool (by rw [← H.out]; simp [h1, h2]), rfl⟩
  · go_enter Try.func52, Try.ntmps52
    go_wp2
    go_ret
    exact ⟨ret_bool (by rw [← H.out]; simp; omega), rfl⟩

theorem labB_no {s : ByteArray} {k : Nat} (hk : k < s.size) (h : chB (bt s k) = false) : labB s = false := by
  unfold labB
  rw [allN_false hk h, Bool.false_and]
theorem labB_end {s : ByteArray} (h : ∀ i, i < s.size → chB (bt s i) = true) : labB s = (decide (1 ≤ s.size) && decide (s.size ≤ 20) && (bt s 0 != 45) && (bt s (s.size - 1) != 45)) := by
  unfold labB
  rw [(allN_iff chB s s.size).2 h, Bool.true_and]

end Go.Proofs.Ytjpdllhhganbpaa
