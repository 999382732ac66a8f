/- Walks: strings.Trim of blanks, texts as names are compared, NameSame of both. -/
import Derived.Test.YtdaneanloknkpaaDoorNmN
import Derived.Test.YtdaneanloknkpaaDoorPnz
import Derived.Lib.QuietBelow
import Derived.Deep.DeepBigQuietO
namespace Go.Proofs.YtdaneanloknkpaaDoor
set_option linter.unusedVariables false
set_option linter.unusedSimpArgs false
open Go.RowKit

/-- Where s ends without its last blanks. -/
def endR (s : ByteArray) : Nat → Nat
  | 0 => 0
  | n + 1 => if bt s n = 32 then endR s n else n + 1
/-- Where s begins without its first blanks. -/
def begL (s : ByteArray) : Nat → Nat → Nat
  | 0, k => k
  | n + 1, k => if bt s k = 32 then begL s n (k + 1) else k
def cutR (s : ByteArray) : ByteArray := s.extract 0 (endR s s.size)
def cutL (s : ByteArray) : ByteArray := s.extract (begL s s.size 0) s.size

theorem endR_le (s : ByteArray) : ∀ n, endR s n ≤ n
  | 0 => Nat.le_refl _
  | n + 1 => by
    have := endR_le s n
    unfold endR
    split <;> omega
theorem endR_hi (s : ByteArray) : ∀ n j, endR s n ≤ j → j < n → bt s j = 32
  | 0, j, _, h => absurd h (Nat.not_lt_zero _)
  | n + 1, j, h, h2 => by
    unfold endR at h
    split at h
    · rename_i e
      by_cases c : j = n
      · subst c; exact e
      · exact endR_hi s n j h (by omega)
    · omega
theorem endR_last (s : ByteArray) : ∀ n, 0 < endR s n → bt s (endR s n - 1) ≠ 32
  | 0, h => absurd h (Nat.lt_irrefl _)
  | n + 1, h => by
    unfold endR at h ⊢
    split
    · rename_i e
      rw [if_pos e] at h
      exact endR_last s n h
    · rename_i e
      simpa using e
theorem begL_ge (s : ByteArray) : ∀ n k, k ≤ begL s n k ∧ begL s n k ≤ k + n
  | 0, k => ⟨Nat.le_refl _, Nat.le_refl _⟩
  | n + 1, k => by
    have := begL_ge s n (k + 1)
    unfold begL
    split <;> omega
theorem begL_lo (s : ByteArray) : ∀ n k j, k ≤ j → j < begL s n k → bt s j = 32
  | 0, k, j, h, h2 => by unfold begL at h2; omega
  | n + 1, k, j, h, h2 => by
    unfold begL at h2
    split at h2
    · rename_i e
      by_cases c : j = k
      · subst c; exact e
      · exact begL_lo s n (k + 1) j (by omega) h2
    · omega
theorem begL_first (s : ByteArray) : ∀ n k, begL s n k < k + n → bt s (begL s n k) ≠ 32
  | 0, k, h => by unfold begL at h; omega
  | n + 1, k, h => by
    unfold begL at h ⊢
    split
    · rename_i e
      rw [if_pos e] at h
      exact begL_first s n (k + 1) (by omega)
    · rename_i e
      exact e

theorem bt_cut (s : ByteArray) (a b i : Nat) (hb : b ≤ s.size) (hi : a + i < b) : bt (s.extract a b) i = bt s (a + i) := by
  have h1 : i < (s.extract a b).size := by simp; omega
  have h2 : a + i < s.size := by omega
  rw [← bt_get _ i h1, ← bt_get s (a + i) h2]
  congr 1
  simp [ByteArray.getElem_extract]

theorem trim_at (s : ByteArray) : TrimAt s (begL (cutR s) (cutR s).size 0) (endR s s.size) ∧ cutL (cutR s) = s.extract (begL (cutR s) (cutR s).size 0) (endR s s.size) := by
  have hm := endR_le s s.size
  have hz : (cutR s).size = endR s s.size := by unfold cutR; simp; omega
  have hk := (begL_ge (cutR s) (cutR s).size 0).2
  have hb : ∀ j, j < endR s s.size → bt (cutR s) j = bt s j := fun j hj => by
    unfold cutR
    rw [bt_cut s 0 _ j hm (by omega), Nat.zero_add]
  refine ⟨⟨by omega, hm, fun j hj => ?_, fun j h1 h2 => endR_hi s _ j h1 h2, fun h => ?_, fun h => endR_last s _ (by omega)⟩, ?_⟩
  · rw [← hb j (by omega)]
    exact begL_lo (cutR s) _ 0 j (Nat.zero_le _) hj
  · rw [← hb _ h]
    exact begL_first (cutR s) _ 0 (by omega)
  · unfold cutL
    rw [hz] at hk ⊢
    generalize begL (cutR s) (endR s s.size) 0 = k at *
    refine ByteArray.ext (Array.ext' ?_)
    unfold cutR
    rw [Lib.extract_data, Lib.extract_data, Lib.extract_data, List.drop_zero, Nat.sub_zero, List.drop_take, List.take_take]
    congr 1
    omega

theorem trim_plain (s : ByteArray) : cutL (cutR (strOfNums (plQ s s.size))) = plainS s := by
  obtain ⟨h1, h2⟩ := trim_at (strOfNums (plQ s s.size))
  rw [h2]
  exact plain_trim s h1

set_option maxHeartbeats 1600000 in
set_option maxRecDepth 100000 in
theorem trimRight_any (s : ByteArray) (hs : s.size ≤ 4194304) (w : World) :
    Calls Tryd.prog 25 #[.string s, .int .u8 32] w fun e w' => e = .returned (.string (cutR s)) ∧ w' = w := by
  have HR : Hid (cutR s = s.extract 0 (endR s s.size)) := rfl
  generalize cutR s = R at *
  go_enter Tryd.func25, Tryd.ntmps25
  go_wp2
  go_loopw [0] (fun v wr => wr = w ∧ ∃ u : ByteArray, v = .string u ∧ ∃ m : Nat, m ≤ s.size ∧ u = s.extract 0 m ∧ endR s m = endR s s.size) (fun v _ => (match v with | .string u => u.size | _ => 0))
  case atStart => exact ⟨rfl, s, rfl, s.size, Nat.le_refl _, by simp, rfl⟩
  case round =>
    obtain ⟨rfl, u, rfl, m, hm, hu, he⟩ := hrel
    have hz : u.size = m := by rw [hu]; simp; omega
    have hb : ∀ j, j < m → bt u j = bt s j := fun j hj => by rw [hu, bt_cut s 0 m j hm (by omega), Nat.zero_add]
    have HU := hide hu
    have HB := hide hb
    have HE := hide he
    clear hu hb he
    cases m with
    | zero =>
      go_wp2
      go_ret
      refine ⟨?_, rfl⟩
      rw [HR.out, HU.out, ← HE.out]
      rfl
    | succ q =>
      have hlt : q < u.size := by omega
      have hg := bt_get u q hlt
      have h2 := bt_lt u q
      have Hb := hide (HB.out q (by omega))
      have HE2 : Hid (endR s (q + 1) = if bt s q = 32 then endR s q else q + 1) := rfl
      have HX : Hid (u.extract 0 q = s.extract 0 q) := by
        show _ = _
        rw [HU.out]
        refine ByteArray.ext (Array.ext' ?_)
        rw [Lib.extract_data, Lib.extract_data, Lib.extract_data]
        simp [List.take_take]
      generalize bt u q = c at *
      by_cases h32 : c = 32
      · subst h32
        have w1 : wrap64 (((q : Int) + 1) - 1) = q := by unfold wrap64; omega
        have HN : Hid (endR s q = endR s s.size) := by show _ = _; rw [← HE.out, HE2.out, if_pos Hb.out.symm]
        have g1 : (q : Int) ≤ (q : Int) + 1 := by omega
        go_wp2
        go_roundw
        case rel => exact ⟨trivial, _, rfl, q, by omega, HX.out, HN.out⟩
        case measure => simp; omega
      · have hne : ((c : Int) == 32) = false := by simp; omega
        have HN : Hid (q + 1 = endR s s.size) := by show _ = _; rw [← HE.out, HE2.out, if_neg (by rw [← Hb.out]; exact h32)]
        go_wp2
        go_ret
        refine ⟨?_, rfl⟩
        rw [HR.out, HU.out, ← HN.out]
        rfl

set_option maxHeartbeats 1600000 in
set_option maxRecDepth 100000 in
theorem trimLeft_any (s : ByteArray) (hs : s.size ≤ 4194304) (w : World) :
    Calls Tryd.prog 24 #[.string s, .int .u8 32] w fun e w' => e = .returned (.string (cutL s)) ∧ w' = w := by
  have HR : Hid (cutL s = s.extract (begL s s.size 0) s.size) := rfl
  generalize cutL s = R at *
  go_enter Tryd.func24, Tryd.ntmps24
  go_wp2
  go_loopw [0] (fun v wr => wr = w ∧ ∃ u : ByteArray, v = .string u ∧ ∃ k : Nat, k ≤ s.size ∧ u = s.extract k s.size ∧ begL s (s.size - k) k = begL s s.size 0) (fun v _ => (match v with | .string u => u.size | _ => 0))
  case atStart => exact ⟨rfl, s, rfl, 0, Nat.zero_le _, by simp, rfl⟩
  case round =>
    obtain ⟨rfl, u, rfl, k, hk, hu, he⟩ := hrel
    have hz : u.size = s.size - k := by rw [hu]; simp
    have HU := hide hu
    have HE := hide he
    by_cases hlt : k < s.size
    · have hb : bt u 0 = bt s k := by rw [hu, bt_cut s k s.size 0 (Nat.le_refl _) (by omega), Nat.add_zero]
      have hl0 : 0 < u.size := by omega
      have g0 : (0 : Int) < (u.size : Int) := by omega
      have g1 : (1 : Int) ≤ (u.size : Int) := by omega
      have hg := bt_get u 0 hl0
      have h2 := bt_lt u 0
      have Hb := hide hb
      have HE2 : Hid (begL s (s.size - k) k = if bt s k = 32 then begL s (s.size - (k + 1)) (k + 1) else k) := by
        show _ = _
        rw [show s.size - k = (s.size - (k + 1)) + 1 by omega, begL]
      have HX : Hid (u.extract 1 u.size = s.extract (k + 1) s.size) := by
        show _ = _
        rw [hz, hu]
        refine ByteArray.ext (Array.ext' ?_)
        rw [Lib.extract_data, Lib.extract_data, Lib.extract_data, List.drop_take, List.drop_drop, List.take_take]
        congr 1
        omega
      have Hz := hide hz
      clear hu hb he hz
      generalize bt u 0 = c at *
      by_cases h32 : c = 32
      · subst h32
        have HN : Hid (begL s (s.size - (k + 1)) (k + 1) = begL s s.size 0) := by show _ = _; rw [← HE.out, HE2.out, if_pos Hb.out.symm]
        go_wp2
        go_roundw
        case rel => exact ⟨trivial, _, rfl, k + 1, by omega, HX.out, HN.out⟩
        case measure => simp; omega
      · have hne : ((c : Int) == 32) = false := by simp; omega
        have HN : Hid (k = begL s s.size 0) := by show _ = _; rw [← HE.out, HE2.out, if_neg (by rw [← Hb.out]; exact h32)]
        go_wp2
        go_ret
        refine ⟨?_, rfl⟩
        rw [HR.out, HU.out, ← HN.out]
        rfl
    · have hz0 : u.size = 0 := by omega
      have HN : Hid (k = begL s s.size 0) := by show _ = _; rw [← he, show s.size - k = 0 by omega]; rfl
      clear hu he hz
      go_wp2
      go_ret
      refine ⟨?_, rfl⟩
      rw [HR.out, HU.out, ← HN.out]
      rfl

set_option maxHeartbeats 1600000 in
set_option maxRecDepth 100000 in
theorem trim_any (s : ByteArray) (h0 : 0 < s.size) (hs : s.size ≤ 4194304) (w : World) :
    Calls Tryd.prog 23 #[.string s, .string ⟨#[32]⟩] w fun e w' => e = .returned (.string (cutL (cutR s))) ∧ Ext w w' := by
  have HL : Hid (∀ w, Calls Tryd.prog 24 #[.string (cutR s), .int .u8 32] w fun e w' => e = .returned (.string (cutL (cutR s))) ∧ w' = w) := fun w => trimLeft_any (cutR s) (by unfold cutR; simp; omega) w
  have HR : Hid (∀ w, Calls Tryd.prog 25 #[.string s, .int .u8 32] w fun e w' => e = .returned (.string (cutR s)) ∧ w' = w) := fun w => trimRight_any s hs w
  have he : (s.toList == []) = false := by
    cases h : (s.toList == [])
    · rfl
    · rw [beq_iff_eq, ByteArray.toList_eq] at h
      have := congrArg List.length h
      have e := Lib.size_eq s
      rw [List.length_nil] at this
      omega
  generalize cutL (cutR s) = L at *
  generalize cutR s = R at *
  clear h0
  go_enter Tryd.func23, Tryd.ntmps23
  go_wp2
  go_quiet (first | (go_at_call 24; exact Calls.quiet_of_same (HL.out _)) | (go_at_call 25; exact Calls.quiet_of_same (HR.out _)))
  go_wp2
  go_ret
  exact ⟨rfl, below_drewN (Below.refl _ _) _⟩

end Go.Proofs.YtdaneanloknkpaaDoor
