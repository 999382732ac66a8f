/- Walks: a length that is read, of the model. Walks: bytes.Equal, and the model's l1Same: whether two lists of bytes are alike. Plain facts on the model's bit operations of int: and with 65535, or of what does not meet, shifts. Nothing of the program. Walks: ReadIntBytes of the model and of the program. -/
import Derived.Test.YtmcdikbcmikihaaDoorDz04
import Derived.Test.YtmcdikbcmikihaaDoorDz05
import Derived.Laws.BytesArg
import Derived.Test.YtmcdikbcmikihaaDoorDz01
import Derived.WalkKit
import Derived.Test.YtmcdikbcmikihaaDoorChecked
namespace Go.Proofs.YtmcdikbcmikihaaDoor

section
set_option linter.unusedVariables false
set_option linter.unusedSimpArgs false

open Go.RowKit

def lzS (f : Nat → Int) (a e : Nat) : Nat := if (lnR f a e).2.2 = 0 then (lnR f a e).2.1 else a + 1

/-- What a length that is read tells. -/
def lzV (f : Nat → Int) (a e : Nat) : Value := .tuple #[.int .i64 ((lnR f a e).1 : Int), .int .i64 (lzS f a e : Int), .int .i64 (lnR f a e).2.2]

theorem lz1 {f : Nat → Int} {a e : Nat} (c1 : e ≤ a + 1) : lzV f a e = .tuple #[.int .i64 0, .int .i64 ((a : Int) + 1), .int .i64 2] := by
  unfold lzV lzS lnR; simp [c1]

theorem lz2 {f : Nat → Int} {a e : Nat} (c1 : ¬ e ≤ a + 1) (c2 : f (a + 1) < 128) (h : 0 ≤ f (a + 1)) : lzV f a e = .tuple #[.int .i64 (f (a + 1)), .int .i64 ((a : Int) + 1 + 1), .int .i64 0] := by
  unfold lzV lzS lnR; simp [c1, c2, h]; omega

theorem lz3 {f : Nat → Int} {a e : Nat} (c1 : ¬ e ≤ a + 1) (c2 : ¬ f (a + 1) < 128) (c3 : f (a + 1) = 128 ∨ 130 < f (a + 1)) : lzV f a e = .tuple #[.int .i64 0, .int .i64 ((a : Int) + 1), .int .i64 4] := by
  unfold lzV lzS lnR; simp [c1, c2, c3]

theorem lz4 {f : Nat → Int} {a e : Nat} (c1 : ¬ e ≤ a + 1) (c2 : ¬ f (a + 1) < 128) (c3 : ¬ (f (a + 1) = 128 ∨ 130 < f (a + 1))) (c4 : (e : Int) ≤ a + 1 + (f (a + 1) - 128)) : lzV f a e = .tuple #[.int .i64 0, .int .i64 ((a : Int) + 1), .int .i64 2] := by
  unfold lzV lzS lnR; rw [if_neg c1, if_neg c2, if_neg c3, if_pos c4]; simp

theorem lz5 {f : Nat → Int} {a e : Nat} (c1 : ¬ e ≤ a + 1) (c5 : f (a + 1) = 129) (c4 : ¬ (e : Int) ≤ a + 1 + (f (a + 1) - 128)) (h : 0 ≤ f (a + 2)) : lzV f a e = if f (a + 2) < 128 then .tuple #[.int .i64 0, .int .i64 ((a : Int) + 1), .int .i64 4] else .tuple #[.int .i64 (f (a + 2)), .int .i64 ((a : Int) + 1 + 1 + 1), .int .i64 0] := by
  unfold lzV lzS lnR; rw [if_neg c1, if_neg (by omega), if_neg (by omega), if_neg c4, if_pos c5]
  by_cases c : f (a + 2) < 128
  · simp [c]
  · simp [c, h]; omega

theorem lz6 {f : Nat → Int} {a e : Nat} (c1 : ¬ e ≤ a + 1) (c5 : f (a + 1) = 130) (c4 : ¬ (e : Int) ≤ a + 1 + (f (a + 1) - 128)) (h : 0 ≤ f (a + 2)) (h' : 0 ≤ f (a + 3)) : lzV f a e = if 256 * f (a + 2) + f (a + 3) < 256 then .tuple #[.int .i64 0, .int .i64 ((a : Int) + 1), .int .i64 4] else .tuple #[.int .i64 (256 * f (a + 2) + f (a + 3)), .int .i64 ((a : Int) + 1 + 1 + 2), .int .i64 0] := by
  unfold lzV lzS lnR; rw [if_neg c1, if_neg (by omega), if_neg (by omega), if_neg c4, if_neg (by omega)]
  by_cases c : 256 * f (a + 2) + f (a + 3) < 256
  · simp [c]
  · have hz : 0 ≤ 256 * f (a + 2) + f (a + 3) := by omega
    simp [c, hz]; omega

set_option maxHeartbeats 1600000 in
theorem l7Size_any (ad : Option Addr) (b off n cap : Nat) (f : Nat → Int) (a e : Nat) (w : World) (hs : BSeg w ad b off n f) (hb : ∀ i, i < n → 0 ≤ f i ∧ f i < 256) (he : e ≤ n) (hn : n ≤ 4000) (ha : a ≤ 4000) :
    Calls Tryd.prog 42 #[.slice ad n cap, .int .i64 ((a : Int) + 1), .int .i64 (e : Int)] w fun en w' => en = .returned (lzV f a e) ∧ w' = w := by
  by_cases c1 : e ≤ a + 1
  · rw [lz1 c1]
    have g1 : (e : Int) ≤ (a : Int) + 1 := by omega
    clear hb hs
    go_enter Tryd.func42, Tryd.ntmps42
    go_wp2
    (try simp only [Exit.inBlock, Exit.then]); refine bodyPost_ret (results_tmp3 rfl _ _ _) rfl ?_
    exact ⟨rfl, rfl⟩
  obtain rfl := hs.at' (by omega)
  have k1 := hs.cell (a + 1) (by omega)
  have b1 := hb (a + 1) (by omega)
  have g1 : ¬ (e : Int) ≤ (a : Int) + 1 := by omega
  have g2 : (a : Int) + 1 < (n : Int) := by omega
  have w1 : wrap64 ((a : Int) + 1 + 1) = (a : Int) + 1 + 1 := by unfold wrap64; omega
  by_cases c2 : f (a + 1) < 128
  · rw [lz2 c1 c2 b1.1]
    clear hb hs
    generalize f (a + 1) = x at *
    go_enter Tryd.func42, Tryd.ntmps42
    go_wp2
    (try simp only [Exit.inBlock, Exit.then]); refine bodyPost_ret (results_tmp3 rfl _ _ _) rfl ?_
    exact ⟨rfl, rfl⟩
  by_cases c3 : f (a + 1) = 128 ∨ 130 < f (a + 1)
  · rw [lz3 c1 c2 c3]
    clear hb hs
    generalize f (a + 1) = x at *
    by_cases c3' : x = 128
    · have g3 : (x == 128) = true := by simp [c3']
      clear c3
      subst c3'
      go_enter Tryd.func42, Tryd.ntmps42
      go_wp2
      (try simp only [Exit.inBlock, Exit.then]); refine bodyPost_ret (results_tmp3 rfl _ _ _) rfl ?_
      exact ⟨rfl, rfl⟩
    · have g3 : (x == 128) = false := by simp [c3']
      have g4 : 130 < x := by omega
      clear c3 c3'
      go_enter Tryd.func42, Tryd.ntmps42
      go_wp2
      (try simp only [Exit.inBlock, Exit.then]); refine bodyPost_ret (results_tmp3 rfl _ _ _) rfl ?_
      exact ⟨rfl, rfl⟩
  by_cases c4 : (e : Int) ≤ a + 1 + (f (a + 1) - 128)
  · rw [lz4 c1 c2 c3 c4]
    clear hb hs
    generalize f (a + 1) = x at *
    have g3 : (x == 128) = false := by simp; omega
    have g4 : ¬ 130 < x := by omega
    obtain ⟨q, rfl⟩ : ∃ q : Int, x = q + 128 := ⟨x - 128, by omega⟩
    have w2 : wrap64 (q + 128 - 128) = q := by unfold wrap64; omega
    have w3 : wrap64 ((a : Int) + 1 + q) = (a : Int) + 1 + q := by unfold wrap64; omega
    have g5 : (e : Int) ≤ (a : Int) + 1 + q := by omega
    clear c1 c2 c3 c4
    go_enter Tryd.func42, Tryd.ntmps42
    go_wp2
    (try simp only [Exit.inBlock, Exit.then]); refine bodyPost_ret (results_tmp3 rfl _ _ _) rfl ?_
    exact ⟨rfl, rfl⟩
  by_cases c5 : f (a + 1) = 129
  · have k2 := hs.cell (a + 2) (by omega)
    have b2 := hb (a + 2) (by omega)
    rw [lz5 c1 c5 c4 b2.1]
    rw [c5] at k1
    have g6 : (a : Int) + 1 + 1 < (n : Int) := by omega
    have g5 : ¬ (e : Int) ≤ (a : Int) + 1 + 1 := by omega
    clear hb hs c2 c3 c4 c5 b1 c1
    generalize f (a + 2) = y at *
    by_cases c6 : y < 128
    · rw [if_pos c6]
      go_enter Tryd.func42, Tryd.ntmps42
      go_wp2
      (try simp only [Exit.inBlock, Exit.then]); refine bodyPost_ret (results_tmp3 rfl _ _ _) rfl ?_
      exact ⟨rfl, rfl⟩
    · rw [if_neg c6]
      have w4 : wrap64 ((a : Int) + 1 + 1 + 1) = (a : Int) + 1 + 1 + 1 := by unfold wrap64; omega
      go_enter Tryd.func42, Tryd.ntmps42
      go_wp2
      (try simp only [Exit.inBlock, Exit.then]); refine bodyPost_ret (results_tmp3 rfl _ _ _) rfl ?_
      exact ⟨rfl, rfl⟩
  · have c7 : f (a + 1) = 130 := by omega
    have k2 := hs.cell (a + 2) (by omega)
    have k3 := hs.cell (a + 3) (by omega)
    have b2 := hb (a + 2) (by omega)
    have b3 := hb (a + 3) (by omega)
    rw [lz6 c1 c7 c4 b2.1 b3.1]
    rw [c7] at k1
    have g6 : (a : Int) + 1 + 1 < (n : Int) := by omega
    have g7 : (a : Int) + 1 + 2 < (n : Int) := by omega
    have g5 : ¬ (e : Int) ≤ (a : Int) + 1 + 2 := by omega
    have w5 : wrap64 ((a : Int) + 1 + 2) = (a : Int) + 1 + 2 := by unfold wrap64; omega
    clear hb hs c2 c3 c4 c5 c7 b1 c1
    generalize f (a + 2) = y at *
    generalize f (a + 3) = z at *
    have w6 : wrap64 (y * 256) = y * 256 := by unfold wrap64; omega
    have w7 : wrap64 (y * 256 + z) = y * 256 + z := by unfold wrap64; omega
    have w8 : wrap64 ((a : Int) + 1 + 1 + 2) = (a : Int) + 1 + 1 + 2 := by unfold wrap64; omega
    rw [Int.mul_comm 256 y]
    by_cases c6 : y * 256 + z < 256
    · rw [if_pos c6]
      by_cases c8 : y * 256 + z < 128
      · go_enter Tryd.func42, Tryd.ntmps42
        go_wp2
        (try simp only [Exit.inBlock, Exit.then]); refine bodyPost_ret (results_tmp3 rfl _ _ _) rfl ?_
        exact ⟨rfl, rfl⟩
      · go_enter Tryd.func42, Tryd.ntmps42
        go_wp2
        (try simp only [Exit.inBlock, Exit.then]); refine bodyPost_ret (results_tmp3 rfl _ _ _) rfl ?_
        exact ⟨rfl, rfl⟩
    · rw [if_neg c6]
      have c8 : ¬ y * 256 + z < 128 := by omega
      go_enter Tryd.func42, Tryd.ntmps42
      go_wp2
      (try simp only [Exit.inBlock, Exit.then]); refine bodyPost_ret (results_tmp3 rfl _ _ _) rfl ?_
      exact ⟨rfl, rfl⟩
end

section
set_option linter.unusedVariables false
set_option linter.unusedSimpArgs false

open Go.RowKit

/-- The first m numbers. -/
def nums (F : Nat → Int) (m : Nat) : List Int := (List.range m).map F

theorem conv_seg {w : World} {a : Option Addr} {g o m cap : Nat} {F : Nat → Int} (hs : BSeg w a g o m F) : (convert 22 9 (.slice a m cap)).run Tryd.prog w = .ok (.string (strOfNums (nums F m))) w := by
  by_cases h0 : m = 0
  · subst h0
    have hz : (convert 22 9 (.slice a 0 cap)).run Tryd.prog w = .ok (.string ByteArray.empty) w := by
      rw [run_convert_bytes_string w 22 9 5 _ 0 cap (by kernel_rfl) (by kernel_rfl) (by kernel_rfl)]
      cases a <;> simp [Conv.bytesToString, loadCells]
      all_goals rfl
    exact hz
  · obtain rfl := hs.at' (by omega)
    exact run_convert_bytes_arg w 22 5 (by kernel_rfl) (by kernel_rfl) g o m cap (nums F m) (by simp [nums]) (fun i hi => by
      rw [hs.cell i hi]
      simp [nums, hi]) 9 (by kernel_rfl)

theorem str_eq {f g : Nat → Int} {n m : Nat} (hf : ∀ i, i < n → 0 ≤ f i ∧ f i < 256) (hg : ∀ i, i < m → 0 ≤ g i ∧ g i < 256) : strOfNums (nums f n) = strOfNums (nums g m) ↔ (n == m && alike f g n) = true := by
  constructor
  · intro h
    have hz : n = m := by
      have := congrArg ByteArray.size h
      rw [strOfNums_size, strOfNums_size] at this
      simpa [nums] using this
    subst hz
    have hl := congrArg (fun s : ByteArray => s.data.toList) h
    simp only [strOfNums_data] at hl
    simp only [Bool.and_eq_true, beq_self_eq_true, true_and]
    refine (alike_iff f g n).2 (fun i hi => ?_)
    have h1 := congrArg (fun l : List UInt8 => l[i]?) hl
    simp [nums, hi] at h1
    have h2 := congrArg UInt8.toNat h1
    simp at h2
    have := hf i hi
    have := hg i hi
    omega
  · intro h
    simp only [Bool.and_eq_true, beq_iff_eq] at h
    obtain ⟨rfl, h⟩ := h
    have h := (alike_iff f g n).1 h
    congr 1
    exact List.map_congr_left (fun i hi => h i (List.mem_range.1 hi))

set_option maxHeartbeats 800000 in
theorem bytesEqual_any (a : Option Addr) (b off n cap : Nat) (f : Nat → Int) (a2 : Option Addr) (b2 off2 m cap2 : Nat) (g : Nat → Int) (w : World) (hs : BSeg w a b off n f) (hs2 : BSeg w a2 b2 off2 m g) (hf : ∀ i, i < n → 0 ≤ f i ∧ f i < 256) (hg : ∀ i, i < m → 0 ≤ g i ∧ g i < 256) :
    Calls Tryd.prog 70 #[.slice a n cap, .slice a2 m cap2] w fun e w' => e = .returned (.bool (n == m && alike f g n)) ∧ w' = w := by
  have h1 := conv_seg (cap := cap) hs
  have h2 := conv_seg (cap := cap2) hs2
  have hE := str_eq hf hg
  clear hs hs2 hf hg
  generalize strOfNums (nums f n) = s1 at *
  generalize strOfNums (nums g m) = s2 at *
  generalize (n == m && alike f g n) = r at *
  have hq : (s1.toList == s2.toList) = r := by
    have hs : s1.toList = s2.toList ↔ s1 = s2 := ⟨fun h => by
      rw [ByteArray.toList_eq, ByteArray.toList_eq] at h
      exact ByteArray.ext (Array.ext' h), fun h => by rw [h]⟩
    cases r
    · simp at hE ⊢; exact fun h => hE (hs.1 h)
    · simp at hE ⊢; exact hs.2 hE
  clear hE
  have Hq := hide hq
  clear hq
  go_enter Tryd.func70, Tryd.ntmps70
  go_wp2
  go_ret
  refine ⟨?_, rfl⟩
  exact ret_bool Hq.out
end

section
set_option linter.unusedVariables false

theorem ofInt64 (x : Int) : (BitVec.ofInt 64 x).toNat = (x % 18446744073709551616).toNat := by
  rw [BitVec.toNat_ofInt]; rfl
end

section
set_option linter.unusedVariables false
set_option linter.unusedSimpArgs false

open Go.RowKit

/-- 'a<<8 | b' with b a byte, below 0 too. -/
theorem or8 (a b : Int) (ha : -36028797018963968 ≤ a) (ha' : a ≤ 36028797018963967) (hb : 0 ≤ b) (hb' : b < 256) : bits .or .i64 (a * 256) b = a * 256 + b := by
  show IntKind.i64.wrap ((BitVec.ofInt 64 (a * 256) ||| BitVec.ofInt 64 b).toNat : Int) = _
  obtain ⟨B, rfl⟩ := Int.eq_ofNat_of_zero_le hb
  have e1 : (a * 256 % 18446744073709551616).toNat = 2 ^ 8 * (a % 72057594037927936).toNat := by omega
  have e2 : ((B : Int) % 18446744073709551616).toNat = B := by omega
  rw [BitVec.toNat_or, ofInt64, ofInt64, e1, e2, ← Nat.two_pow_add_eq_or_of_lt (by omega), IntKind.wrap_i64]
  omega
end

end Go.Proofs.YtmcdikbcmikihaaDoor
