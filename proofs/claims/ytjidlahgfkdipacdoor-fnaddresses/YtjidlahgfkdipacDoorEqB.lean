/- Walks: bytes.Equal, and the model's l1Same: whether two lists of bytes are alike. -/
import Derived.Test.YtjidlahgfkdipacDoorBLists
import Derived.Laws.BytesArg
namespace Go.Proofs.YtjidlahgfkdipacDoor
set_option linter.unusedVariables false
set_option linter.unusedSimpArgs false
open Go.RowKit

/-- The first m numbers. -/
def nums (F : Nat → Int) (m : Nat) : List Int := (List.range m).map F

theorem conv_seg {w : World} {a : Option Addr} {g o m cap : Nat} {F : Nat → Int} (hs : BSeg w a g o m F) : (convert 22 9 (.slice a m cap)).run Tryd.prog w = .ok (.string (strOfNums (nums F m))) w := by
  by_cases h0 : m = 0
  · subst h0
    have hz : (convert 22 9 (.slice a 0 cap)).run Tryd.prog w = .ok (.string ByteArray.empty) w := by
      rw [run_convert_bytes_string w 22 9 5 _ 0 cap (by kernel_rfl) (by kernel_rfl) (by kernel_rfl)]
      cases a <;> simp [Conv.bytesToString, loadCells]
      all_goals rfl
    exact hz
  · obtain rfl := hs.at' (by omega)
    exact run_convert_bytes_arg w 22 5 (by kernel_rfl) (by kernel_rfl) g o m cap (nums F m) (by simp [nums]) (fun i hi => by
      rw [hs.cell i hi]
      simp [nums, hi]) 9 (by kernel_rfl)

theorem str_eq {f g : Nat → Int} {n m : Nat} (hf : ∀ i, i < n → 0 ≤ f i ∧ f i < 256) (hg : ∀ i, i < m → 0 ≤ g i ∧ g i < 256) : strOfNums (nums f n) = strOfNums (nums g m) ↔ (n == m && alike f g n) = true := by
  constructor
  · intro h
    have hz : n = m := by
      have := congrArg ByteArray.size h
      rw [strOfNums_size, strOfNums_size] at this
      simpa [nums] using this
    subst hz
    have hl := congrArg (fun s : ByteArray => s.data.toList) h
    simp only [strOfNums_data] at hl
    simp only [Bool.and_eq_true, beq_self_eq_true, true_and]
    refine (alike_iff f g n).2 (fun i hi => ?_)
    have h1 := congrArg (fun l : List UInt8 => l[i]?) hl
    simp [nums, hi] at h1
    have h2 := congrArg UInt8.toNat h1
    simp at h2
    have := hf i hi
    have := hg i hi
    omega
  · intro h
    simp only [Bool.and_eq_true, beq_iff_eq] at h
    obtain ⟨rfl, h⟩ := h
    have h := (alike_iff f g n).1 h
    congr 1
    exact List.map_congr_left (fun i hi => h i (List.mem_range.1 hi))

set_option maxHeartbeats 800000 in
theorem bytesEqual_any (a : Option Addr) (b off n cap : Nat) (f : Nat → Int) (a2 : Option Addr) (b2 off2 m cap2 : Nat) (g : Nat → Int) (w : World) (hs : BSeg w a b off n f) (hs2 : BSeg w a2 b2 off2 m g) (hf : ∀ i, i < n → 0 ≤ f i ∧ f i < 256) (hg : ∀ i, i < m → 0 ≤ g i ∧ g i < 256) :
    Calls Tryd.prog 206 #[.slice a n cap, .slice a2 m cap2] w fun e w' => e = .returned (.bool (n == m && alike f g n)) ∧ w' = w := by
  have h1 := conv_seg (cap := cap) hs
  have h2 := conv_seg (cap := cap2) hs2
  have hE := str_eq hf hg
  clear hs hs2 hf hg
  generalize strOfNums (nums f n) = s1 at *
  generalize strOfNums (nums g m) = s2 at *
  generalize (n == m && alike f g n) = r at *
  have hq : (s1.toList == s2.toList) = r := by
    have hs : s1.toList = s2.toList ↔ s1 = s2 := ⟨fun h => by
      rw [ByteArray.toList_eq, ByteArray.toList_eq] at h
      exact ByteArray.ext (Array.ext' h), fun h => by rw [h]⟩
    cases r
    · simp at hE ⊢; exact fun h => hE (hs.1 h)
    · simp at hE ⊢; exact hs.2 hE
  clear hE
  have Hq := hide hq
  clear hq
  go_enter Tryd.func206, Tryd.ntmps206
  go_wp2
  go_ret
  refine ⟨?_, rfl⟩
  exact ret_bool Hq.out

end Go.Proofs.YtjidlahgfkdipacDoor
