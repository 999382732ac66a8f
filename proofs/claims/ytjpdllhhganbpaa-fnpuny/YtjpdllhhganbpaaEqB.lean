/- Walks: bytes.Equal, and the model's l1Same: whether two lists of bytes are alike. -/
import Derived.Test.YtjpdllhhganbpaaBLists
import Derived.Laws.BytesArg
namespace Go.Proofs.Ytjpdllhhganbpaa
set_option linter.unusedVariables false
set_option linter.unusedSimpArgs false
open Go.RowKit

/-- The first m numbers. -/
def nums (F : Nat → Int) (m : Nat) : List Int := (List.range m).map F

theorem conv_seg {w : World} {a : Option Addr} {g o m cap : Nat} {F : Nat → Int} (hs : BSeg w a g o m F) : (convert 28 9 (.slice a m cap)).run Try.prog w = .ok (.string (strOfNums (nums F m))) w := by
  by_cases h0 : m = 0
  · subst h0
    have hz : (convert 28 9 (.slice a 0 cap)).run Try.prog w = .ok (.string ByteArray.empty) w := by
      rw [run_convert_bytes_string w 28 9 5 _ 0 cap (by kernel_rfl) (by kernel_rfl) (by kernel_rfl)]
      cases a <;> simp [Conv.bytesToString, loadCells]
      all_goals rfl
    exact hz
  · obtain rfl := hs.at' (by omega)
    exact run_convert_bytes_arg w 28 5 (by kernel_rfl) (by kernel_rfl) g o m cap (nums F m) (by simp [nums]) (fun i hi => by
      rw [hs.cell i hi]
      simp [nums, hi]) 9 (by kernel_rfl)

theorem str_eq {f g : Nat → Int} {n m : Nat} (hf : ∀ i, i < n → 0 ≤ f i ∧ f i < 256) (hg : ∀ i, i < m → 0 ≤ g i ∧ g i < 256) : strOfNums (nums f n) = strOfNums (nums g m) ↔ (n == m && alike f g n) = true := by
  constructor
  · intro h
    have hz : n = m := by
      have := congrArg ByteArray.size h
      rw [strOfNums_size, strOfNums_size] at this
      simpa [nums] using this
    subst hz
    have hl := congrArg (fun s : ByteArray => s.data.toList) h
    simp only [strOfNums_data] at hl
    simp only [Bool.and_eq_true, beq_self_eq_true, true_and]
    refine (alike_iff f g n).2 (fun i hi => ?_)
    have h1 := congrArg (fun l : List UInt8 => l[i]?) hl
    simp [nums, hi] at h1
    have h2 := congrArg UInt8.toNat h1
    simp at h2
    have := hf i hi
    have := hg i hi
    omega
  · intro h
    simp only [Bool.and_eq_true, beq_iff_eq] at h
    obtain ⟨rfl, h⟩ := h
    have h := (alike_iff f g n).1 h
    congr 1
    exact List.map_congr_left (fun i hi => h i (List.mem_range.1 hi))

end Go.Proofs.Ytjpdllhhganbpaa
