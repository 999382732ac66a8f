/- Walks: bytes.Equal, and the model's l1Same: whether two lists of bytes are alike. Walks: ReadIntBytes of the model and of the program. Walks: a length and a head that are read, of the program (written by mkrdl.py). Plain notions for walks over strings: the byte at a place, what a round of a range over a string comes to, lists of strings of the call's own. Lists of strings in memory; the laws' own helpers over them; a list of strings that came in, opened. Structs by the lists of their cells: loads and stores of whole ones; what stays as it was while a struct is made. -/
import Derived.Laws.BytesArg
import Derived.Test.YtmcdikbcmikihaaDoorSq01
import Derived.Test.YtmcdikbcmikihaaDoorSq02
import Derived.Test.YtmcdikbcmikihaaDoorSq03
import Derived.Test.YtmcdikbcmikihaaDoorSq06
import Derived.Test.YtmcdikbcmikihaaDoorSq04
import Derived.Lib.OthersKept
import Derived.Laws.DeepStrings4
import Derived.Laws.IdiomStrings
import Derived.Maps.AppendAt
import Derived.Test.YtmcdikbcmikihaaDoorRows
import Derived.SliceStrings
import Derived.WalkKit
import Derived.ProofKit
import Derived.OpenShut
import Derived.ChangeOld
import Derived.Below
namespace Go.Proofs.YtmcdikbcmikihaaDoor

section
set_option linter.unusedVariables false
set_option linter.unusedSimpArgs false

open Go.RowKit

/-- The first m numbers. -/
def nums (F : Nat → Int) (m : Nat) : List Int := (List.range m).map F

theorem conv_seg {w : World} {a : Option Addr} {g o m cap : Nat} {F : Nat → Int} (hs : BSeg w a g o m F) : (convert 22 9 (.slice a m cap)).run Tryd.prog w = .ok (.string (strOfNums (nums F m))) w := by
  by_cases h0 : m = 0
  · subst h0
    have hz : (convert 22 9 (.slice a 0 cap)).run Tryd.prog w = .ok (.string ByteArray.empty) w := by
      rw [run_convert_bytes_string w 22 9 5 _ 0 cap (by kernel_rfl) (by kernel_rfl) (by kernel_rfl)]
      cases a <;> simp [Conv.bytesToString, loadCells]
      all_goals rfl
    exact hz
  · obtain rfl := hs.at' (by omega)
    exact run_convert_bytes_arg w 22 5 (by kernel_rfl) (by kernel_rfl) g o m cap (nums F m) (by simp [nums]) (fun i hi => by
      rw [hs.cell i hi]
      simp [nums, hi]) 9 (by kernel_rfl)

theorem str_eq {f g : Nat → Int} {n m : Nat} (hf : ∀ i, i < n → 0 ≤ f i ∧ f i < 256) (hg : ∀ i, i < m → 0 ≤ g i ∧ g i < 256) : strOfNums (nums f n) = strOfNums (nums g m) ↔ (n == m && alike f g n) = true := by
  constructor
  · intro h
    have hz : n = m := by
      have := congrArg ByteArray.size h
      rw [strOfNums_size, strOfNums_size] at this
      simpa [nums] using this
    subst hz
    have hl := congrArg (fun s : ByteArray => s.data.toList) h
    simp only [strOfNums_data] at hl
    simp only [Bool.and_eq_true, beq_self_eq_true, true_and]
    refine (alike_iff f g n).2 (fun i hi => ?_)
    have h1 := congrArg (fun l : List UInt8 => l[i]?) hl
    simp [nums, hi] at h1
    have h2 := congrArg UInt8.toNat h1
    simp at h2
    have := hf i hi
    have := hg i hi
    omega
  · intro h
    simp only [Bool.and_eq_true, beq_iff_eq] at h
    obtain ⟨rfl, h⟩ := h
    have h := (alike_iff f g n).1 h
    congr 1
    exact List.map_congr_left (fun i hi => h i (List.mem_range.1 hi))

set_option maxHeartbeats 800000 in
theorem bytesEqual_any (a : Option Addr) (b off n cap : Nat) (f : Nat → Int) (a2 : Option Addr) (b2 off2 m cap2 : Nat) (g : Nat → Int) (w : World) (hs : BSeg w a b off n f) (hs2 : BSeg w a2 b2 off2 m g) (hf : ∀ i, i < n → 0 ≤ f i ∧ f i < 256) (hg : ∀ i, i < m → 0 ≤ g i ∧ g i < 256) :
    Calls Tryd.prog 70 #[.slice a n cap, .slice a2 m cap2] w fun e w' => e = .returned (.bool (n == m && alike f g n)) ∧ w' = w := by
  have h1 := conv_seg (cap := cap) hs
  have h2 := conv_seg (cap := cap2) hs2
  have hE := str_eq hf hg
  clear hs hs2 hf hg
  generalize strOfNums (nums f n) = s1 at *
  generalize strOfNums (nums g m) = s2 at *
  generalize (n == m && alike f g n) = r at *
  have hq : (s1.toList == s2.toList) = r := by
    have hs : s1.toList = s2.toList ↔ s1 = s2 := ⟨fun h => by
      rw [ByteArray.toList_eq, ByteArray.toList_eq] at h
      exact ByteArray.ext (Array.ext' h), fun h => by rw [h]⟩
    cases r
    · simp at hE ⊢; exact fun h => hE (hs.1 h)
    · simp at hE ⊢; exact hs.2 hE
  clear hE
  have Hq := hide hq
  clear hq
  go_enter Tryd.func70, Tryd.ntmps70
  go_wp2
  go_ret
  refine ⟨?_, rfl⟩
  exact ret_bool Hq.out
end

section
set_option linter.unusedVariables false
set_option linter.unusedSimpArgs false

open Go.RowKit

/-- 'a<<8 | b' with b a byte, below 0 too. -/
theorem or8 (a b : Int) (ha : -36028797018963968 ≤ a) (ha' : a ≤ 36028797018963967) (hb : 0 ≤ b) (hb' : b < 256) : bits .or .i64 (a * 256) b = a * 256 + b := by
  show IntKind.i64.wrap ((BitVec.ofInt 64 (a * 256) ||| BitVec.ofInt 64 b).toNat : Int) = _
  obtain ⟨B, rfl⟩ := Int.eq_ofNat_of_zero_le hb
  have e1 : (a * 256 % 18446744073709551616).toNat = 2 ^ 8 * (a % 72057594037927936).toNat := by omega
  have e2 : ((B : Int) % 18446744073709551616).toNat = B := by omega
  rw [BitVec.toNat_or, ofInt64, ofInt64, e1, e2, ← Nat.two_pow_add_eq_or_of_lt (by omega), IntKind.wrap_i64]
  omega
end

section
set_option linter.unusedVariables false
set_option linter.unusedSimpArgs false

open Go.RowKit

/-- A fault. -/
def fltV (c p : Int) : Value := .iface 50 (.agg #[.int .i64 c, .int .i64 p])

/-- What the program's readLength tells. -/
def rlV (f : Nat → Int) (a e : Nat) : Value :=
  if (lnR f a e).2.2 = 0 then .tuple #[.int .i64 ((lnR f a e).1 : Int), .int .i64 ((lnR f a e).2.1 : Int), .nilIface]
  else if (lnR f a e).2.2 = 2 then .tuple #[.int .i64 0, .int .i64 0, fltV 2 a] else .tuple #[.int .i64 0, .int .i64 0, fltV 4 ((a : Int) + 1)]

/-- Bytes put together. -/
def vL (f : Nat → Int) (a : Nat) : Nat → Int
  | 0 => 0
  | k + 1 => vL f a k * 256 + f (a + 2 + k)

def okL (f : Nat → Int) (a m : Nat) : Bool := lgN (vL f a m) == m + 1 && alike (lgF (vL f a m)) (fun i => f (a + 1 + i)) (lgN (vL f a m))

theorem rl1 {f : Nat → Int} {a e : Nat} (c1 : e ≤ a + 1) : rlV f a e = .tuple #[.int .i64 0, .int .i64 0, fltV 2 a] := by
  unfold rlV lnR; simp [c1]

theorem rl2 {f : Nat → Int} {a e : Nat} (c1 : ¬ e ≤ a + 1) (c2 : f (a + 1) < 128) (h : 0 ≤ f (a + 1)) : rlV f a e = .tuple #[.int .i64 (f (a + 1)), .int .i64 ((a : Int) + 1 + 1), .nilIface] := by
  unfold rlV lnR; simp [c1, c2, h]; omega

theorem rl3 {f : Nat → Int} {a e : Nat} (c1 : ¬ e ≤ a + 1) (c2 : ¬ f (a + 1) < 128) (c3 : f (a + 1) = 128 ∨ 130 < f (a + 1)) : rlV f a e = .tuple #[.int .i64 0, .int .i64 0, fltV 4 ((a : Int) + 1)] := by
  unfold rlV lnR; simp [c1, c2, c3]

theorem rl4 {f : Nat → Int} {a e : Nat} (c1 : ¬ e ≤ a + 1) (c2 : ¬ f (a + 1) < 128) (c3 : ¬ (f (a + 1) = 128 ∨ 130 < f (a + 1))) (c4 : (e : Int) ≤ a + 1 + (f (a + 1) - 128)) : rlV f a e = .tuple #[.int .i64 0, .int .i64 0, fltV 2 a] := by
  unfold rlV lnR; rw [if_neg c1, if_neg c2, if_neg c3, if_pos c4]; simp

theorem rl5 {f : Nat → Int} {a e m : Nat} (c1 : ¬ e ≤ a + 1) (hm : m = 1 ∨ m = 2) (c5 : f (a + 1) = 128 + (m : Int)) (c4 : ¬ (e : Int) ≤ a + 1 + (f (a + 1) - 128)) (h : 0 ≤ f (a + 2) ∧ f (a + 2) < 256) (h' : m = 2 → 0 ≤ f (a + 3) ∧ f (a + 3) < 256) :
    rlV f a e = if okL f a m then .tuple #[.int .i64 (vL f a m), .int .i64 ((a : Int) + 1 + 1 + m), .nilIface] else .tuple #[.int .i64 0, .int .i64 0, fltV 4 ((a : Int) + 1)] := by
  rcases hm with rfl | rfl
  · have hv : vL f a 1 = f (a + 2) := by simp [vL]
    unfold rlV lnR; simp only [if_neg c1, if_neg (show ¬ f (a + 1) < 128 by omega), if_neg (show ¬ (f (a + 1) = 128 ∨ 130 < f (a + 1)) by omega), if_neg c4, if_pos (show f (a + 1) = 129 by omega)]
    unfold okL
    rw [hv]
    by_cases c : f (a + 2) < 128
    · rw [if_pos c, (lg_low c).1]
      simp
    · have g := lg_mid (by omega) h.2
      have hk : alike (lgF (f (a + 2))) (fun i => f (a + 1 + i)) 2 = true := (alike_iff _ _ _).2 (fun i hi => by
        have : i = 0 ∨ i = 1 := by omega
        rcases this with rfl | rfl
        · rw [g.2.1, Nat.add_zero, c5]; rfl
        · rw [g.2.2])
      rw [if_neg c, g.1, hk]
      simp [h.1]
      omega
  · have hz := h' rfl
    have hv : vL f a 2 = 256 * f (a + 2) + f (a + 3) := by simp [vL]; omega
    unfold rlV lnR; simp only [if_neg c1, if_neg (show ¬ f (a + 1) < 128 by omega), if_neg (show ¬ (f (a + 1) = 128 ∨ 130 < f (a + 1)) by omega), if_neg c4, if_neg (show ¬ f (a + 1) = 129 by omega)]
    unfold okL
    rw [hv]
    by_cases c : 256 * f (a + 2) + f (a + 3) < 256
    · rw [if_pos c]
      by_cases c' : 256 * f (a + 2) + f (a + 3) < 128
      · rw [(lg_low c').1]; simp
      · rw [(lg_mid (by omega) c).1]; simp
    · have g := lg_high (n := 256 * f (a + 2) + f (a + 3)) (by omega) (by omega)
      have hk : alike (lgF (256 * f (a + 2) + f (a + 3))) (fun i => f (a + 1 + i)) 3 = true := (alike_iff _ _ _).2 (fun i hi => by
        have : i = 0 ∨ i = 1 ∨ i = 2 := by omega
        rcases this with rfl | rfl | rfl
        · rw [g.2.1, Nat.add_zero, c5]; rfl
        · rw [g.2.2.1]; show _ = f (a + 2); omega
        · rw [g.2.2.2]; show _ = f (a + 3); omega)
      have hq : 0 ≤ 256 * f (a + 2) + f (a + 3) := by omega
      rw [if_neg c, g.1, hk]
      simp [hq]
      omega

theorem vL_fits {f : Nat → Int} {a : Nat} : ∀ k, k ≤ 2 → (∀ i, i < k → 0 ≤ f (a + 2 + i) ∧ f (a + 2 + i) < 256) → 0 ≤ vL f a k ∧ vL f a k < 65536
  | 0, _, _ => by simp [vL]
  | 1, _, h => by have := h 0 (by omega); simp [vL] at *; omega
  | 2, _, h => by
    have h0 := h 0 (by omega)
    have h1 := h 1 (by omega)
    simp [vL] at *
    omega

theorem lgF_range {n : Int} (h0 : 0 ≤ n) (h1 : n < 65536) : ∀ i, i < lgN n → 0 ≤ lgF n i ∧ lgF n i < 256 := by
  intro i hi
  by_cases c : n < 128
  · rw [(lg_low c).1] at hi
    rw [(lg_low c).2 i hi]
    omega
  · by_cases c2 : n < 256
    · have g := lg_mid (by omega) c2
      rw [g.1] at hi
      have : i = 0 ∨ i = 1 := by omega
      rcases this with rfl | rfl
      · rw [g.2.1]; omega
      · rw [g.2.2]; omega
    · have g := lg_high (n := n) (by omega) h1
      rw [g.1] at hi
      have : i = 0 ∨ i = 1 ∨ i = 2 := by omega
      rcases this with rfl | rfl | rfl
      · rw [g.2.1]; omega
      · rw [g.2.2.1]; omega
      · rw [g.2.2.2]; omega

set_option maxHeartbeats 3200000 in
set_option maxRecDepth 100000 in
theorem readLength_any (ad : Option Addr) (b off e cap : Nat) (f : Nat → Int) (a : Nat) (w : World) (hs : BSeg w ad b off e f) (hb : ∀ i, i < e → 0 ≤ f i ∧ f i < 256) (hc : e ≤ cap) (hcap : cap ≤ 9223372036854775807) (hn : e ≤ 4000) (ha : a ≤ 4000) :
    Calls Tryd.prog 69 #[.slice ad e cap, .int .i64 (a : Int)] w fun en w' => en = .returned (rlV f a e) ∧ Ext w w' := by
  have w0 : wrap64 ((a : Int) + 1) = (a : Int) + 1 := by unfold wrap64; omega
  by_cases c1 : e ≤ a + 1
  · rw [rl1 c1]
    have g1 : (e : Int) ≤ (a : Int) + 1 := by omega
    clear hb hs
    go_enter Tryd.func69, Tryd.ntmps69
    go_wp2
    (try simp only [Exit.inBlock, Exit.then]); refine bodyPost_ret (results_tmp3 rfl _ _ _) rfl ?_
    exact ⟨rfl, Ext.refl _⟩
  obtain rfl := hs.at' (by omega)
  have k1 := hs.cell (a + 1) (by omega)
  have b1 := hb (a + 1) (by omega)
  have g1 : ¬ (e : Int) ≤ (a : Int) + 1 := by omega
  have g2 : (a : Int) + 1 < (e : Int) := by omega
  have w1 : wrap64 ((a : Int) + 1 + 1) = (a : Int) + 1 + 1 := by unfold wrap64; omega
  by_cases c2 : f (a + 1) < 128
  · rw [rl2 c1 c2 b1.1]
    clear hb hs
    generalize f (a + 1) = x at *
    go_enter Tryd.func69, Tryd.ntmps69
    go_wp2
    (try simp only [Exit.inBlock, Exit.then]); refine bodyPost_ret (results_tmp3 rfl _ _ _) rfl ?_
    exact ⟨rfl, Ext.refl _⟩
  by_cases c3 : f (a + 1) = 128 ∨ 130 < f (a + 1)
  · rw [rl3 c1 c2 c3]
    clear hb hs
    obtain ⟨q, hq⟩ : ∃ q : Int, f (a + 1) = q + 128 := ⟨f (a + 1) - 128, by omega⟩
    rw [hq] at k1 b1 c2 c3
    clear hq
    have w2 : wrap64 (q + 128 - 128) = q := by unfold wrap64; omega
    by_cases c3' : q < 1
    · clear c3
      go_enter Tryd.func69, Tryd.ntmps69
      go_wp2
      (try simp only [Exit.inBlock, Exit.then]); refine bodyPost_ret (results_tmp3 rfl _ _ _) rfl ?_
      exact ⟨rfl, Ext.refl _⟩
    · have g4 : 2 < q := by omega
      clear c3
      go_enter Tryd.func69, Tryd.ntmps69
      go_wp2
      (try simp only [Exit.inBlock, Exit.then]); refine bodyPost_ret (results_tmp3 rfl _ _ _) rfl ?_
      exact ⟨rfl, Ext.refl _⟩
  obtain ⟨m, hm⟩ : ∃ m : Nat, f (a + 1) = 128 + (m : Int) := ⟨(f (a + 1) - 128).toNat, by omega⟩
  have hm12 : m = 1 ∨ m = 2 := by omega
  have w2 : wrap64 (128 + (m : Int) - 128) = m := by unfold wrap64; omega
  have r1 : 128 + (m : Int) - 128 = m := by omega
  have m1 : ¬ (m : Int) < 1 := by omega
  have m2 : ¬ 2 < (m : Int) := by omega
  have w3 : wrap64 ((e : Int) - ((a : Int) + 1 + 1)) = (e : Int) - ((a : Int) + 1 + 1) := by unfold wrap64; omega
  by_cases c4 : (e : Int) ≤ a + 1 + (f (a + 1) - 128)
  · rw [rl4 c1 c2 c3 c4]
    rw [hm] at k1 c4 c2
    have g5 : (e : Int) - ((a : Int) + 1 + 1) < (m : Int) := by omega
    clear hb hs c1 c3 hm b1 c4
    go_enter Tryd.func69, Tryd.ntmps69
    go_wp2
    (try simp only [Exit.inBlock, Exit.then]); refine bodyPost_ret (results_tmp3 rfl _ _ _) rfl ?_
    exact ⟨rfl, Ext.refl _⟩
  have g5 : ¬ (e : Int) - ((a : Int) + 1 + 1) < (m : Int) := by omega
  rw [rl5 c1 hm12 hm c4 (hb (a + 2) (by omega)) (fun h => hb (a + 3) (by omega))]
  rw [hm] at k1 c2
  obtain ⟨RV, hRV⟩ : ∃ v, (if okL f a m then Value.tuple #[.int .i64 (vL f a m), .int .i64 ((a : Int) + 1 + 1 + m), .nilIface] else Value.tuple #[.int .i64 0, .int .i64 0, fltV 4 ((a : Int) + 1)]) = v := ⟨_, rfl⟩
  rw [hRV]
  have HRV := hide hRV
  clear hRV
  have Hs := hide hs
  have Hb := hide hb
  have Hfit : Hid (∀ k, k ≤ m → 0 ≤ vL f a k ∧ vL f a k < 65536) := fun k hk => vL_fits k (by omega) (fun i hi => hb (a + 2 + i) (by omega))
  have w4 : wrap64 ((a : Int) + 1 + 1 + (m : Int)) = (a : Int) + 1 + 1 + (m : Int) := by unfold wrap64; omega
  have s1 : (a : Int) + 1 + 1 ≤ (a : Int) + 1 + 1 + (m : Int) := by omega
  have s2 : (a : Int) + 1 + 1 + (m : Int) ≤ (cap : Int) := by omega
  have s3 : (a : Int) + 1 + 1 < (cap : Int) := by omega
  have s4 : (a : Int) + 1 ≤ (a : Int) + 1 + 1 + (m : Int) := by omega
  have s5 : (a : Int) + 1 < (cap : Int) := by omega
  have s6 : (a : Int) + 1 + 1 + (m : Int) - ((a : Int) + 1 + 1) = (m : Int) := by omega
  have s7 : (a : Int) + 1 + 1 + (m : Int) - ((a : Int) + 1) = ((m + 1 : Nat) : Int) := by omega
  have Hm := hide hm12
  have He : Hid (a + 2 + m ≤ e) := hide (by omega)
  clear hs hb hm b1 c1 c3 c4 hm12
  go_enter Tryd.func69, Tryd.ntmps69
  go_wp2
  rename_i K hK
  have HK := hide hK
  clear hK
  go_loop [8, 60] (fun x i => ∃ k : Nat, k ≤ m ∧ i = .int .i64 (k : Int) ∧ x = .int .i64 (vL f a k)) (fun _ i => m - (intOf i).toNat)
  case atStart => exact ⟨0, Nat.zero_le _, rfl, rfl⟩
  case round =>
    obtain ⟨k, hk, rfl, rfl⟩ := hrel
    by_cases hlt : k < m
    · have hkm : (k : Int) < m := by omega
      have hck := Hs.out.cell (a + 2 + k) (by have := He.out; omega)
      rw [show off + (a + 2 + k) = off + (a + 1 + 1) + k by omega] at hck
      have hyk := Hb.out (a + 2 + k) (by have := He.out; omega)
      have H1 : Hid (vL f a (k + 1) = vL f a k * 256 + f (a + 2 + k)) := rfl
      have hv := Hfit.out k (by omega)
      have hv2 := Hfit.out (k + 1) (by omega)
      have ho : bits .or .i64 (vL f a k * 256) (f (a + 2 + k)) = vL f a (k + 1) := by rw [H1.out]; exact or8 _ _ (by omega) (by omega) (by omega) (by omega)
      have hb1 : -9223372036854775808 ≤ vL f a k * 256 := by omega
      have hb2 : vL f a k * 256 ≤ 9223372036854775807 := by omega
      clear hv hv2
      go_wp2
      go_round
      case rel => exact ⟨k + 1, by omega, by go_num, rfl⟩
      case measure => simp [intOf]; omega
    · obtain rfl : k = m := by omega
      have hv := Hfit.out k (Nat.le_refl _)
      have HLb : Hid (∀ W, Calls Tryd.prog 32 #[.int .i64 (vL f a k)] W fun e w' => GivesR W (lgN (vL f a k)) (lgF (vL f a k)) e w') := fun W => lengthBytes_any (vL f a k) W hv.1 (by omega)
      have HOk : Hid (okL f a k = (lgN (vL f a k) == k + 1 && alike (lgF (vL f a k)) (fun i => f (a + 1 + i)) (lgN (vL f a k)))) := rfl
      have HFr : Hid (∀ i, i < lgN (vL f a k) → 0 ≤ lgF (vL f a k) i ∧ lgF (vL f a k) i < 256) := lgF_range hv.1 hv.2
      generalize okL f a k = OK at *
      generalize vL f a k = N at *
      clear hv
      go_wp2
      apply HK.out
      clear HK
      go_wp2_with fail
      refine anyK_begin (fun _ => False) 8 rfl (by kernel_rfl) ?_
      refine anyK_take 0 1 7 rfl (by decide) (by kernel_rfl) (fun _ _ d _ _ h => by cases d <;> exact h) ?_
      repeat (refine headC_step (fun K hK => ?_); go_simp; first | (refine hK _ ?_; clear hK K) | (apply Exists.intro; refine ⟨fun p => ?_, hK _ ?_⟩; (fail); clear hK K))
      refine headC_nil ?_
      have z1 : 0 ≤ (a : Int) + 1 + 1 + (k : Int) := by omega
      have z2 : 0 ≤ (a : Int) + 1 ∧ (a : Int) + 1 ≤ max ((a : Int) + 1 + 1 + (k : Int)) 0 := by omega
      have z3 : ¬ cap = a + 1 := by omega
      have z4 : ((a : Int) + 1 + 1 + (k : Int)).toNat - (a + 1) = k + 1 := by omega
      refine anyK_take 2 4 3 rfl (by decide) (by kernel_rfl) (fun _ _ d _ _ h => by cases d <;> exact h) ?_
      iterate 3 (refine headC_step (fun K hK => ?_); go_simp; refine hK _ ?_; clear hK K)
      refine headC_step (fun K hK => ?_)
      go_simp
      try simp only [if_pos z1, if_pos z2, if_neg z3, z4]
      first | refine ⟨_, fun p => ⟨trivial, rfl⟩, hK _ ?_⟩ | refine ⟨_, fun p => rfl, hK _ ?_⟩ | refine hK _ ?_
      clear hK K
      refine headC_nil ?_
      refine anyK_one 1 (by kernel_rfl) ?_
      refine stepK_run rfl ?_
      intro w1 hw1 K2 hK2
      go_simp
      refine (HLb.out w1).mono ?_
      rintro r1 w2 ⟨v1, rfl, hv1, hE1⟩
      obtain ⟨xa, xg, xc, rfl, hxg, -, -, hxB⟩ := owns_seg hv1
      have HX := hide hxB
      have X2 : Hid (Ext w w2) := hide (hw1.trans hE1)
      refine hK2 _ _ (.of_ext X2.out) ?_
      clear hK2 K2 hv1 hE1 hxB hw1 hxg
      obtain ⟨LN, hLN⟩ : ∃ q, lgN N = q := ⟨_, rfl⟩
      rw [hLN] at HX HOk HFr ⊢
      clear hLN
      refine anyK_one 6 (by kernel_rfl) ?_
      refine stepK_run rfl ?_
      intro w3 hw3 K2 hK2
      go_simp
      refine (bytesEqual_any xa xg 0 LN xc (lgF N) (some ⟨b, off + (a + 1), none⟩) b (off + (a + 1)) (k + 1) _ (fun i => f (a + 1 + i)) w3 (HX.out.toBSeg.of_all hw3) ⟨fun _ => rfl, fun i hi => by
        have := (Hs.out.of_all (X2.out.trans hw3)).cell (a + 1 + i) (by have := He.out; omega)
        rw [show off + (a + 1) + i = off + (a + 1 + i) by omega]
        exact this⟩ HFr.out (fun i hi => Hb.out (a + 1 + i) (by have := He.out; omega))).mono ?_
      rintro r3 w4 ⟨rfl, hw4⟩
      obtain rfl := hw4.symm
      rw [← HOk.out]
      refine hK2 _ _ (.of_ext (X2.out.trans hw3)) ?_
      clear hK2 K2
      refine anyK_take 7 1 0 rfl (by decide) (by kernel_rfl) (fun _ _ d _ _ h => by cases d <;> exact h) ?_
      repeat (refine headC_step (fun K hK => ?_); go_simp; first | (refine hK _ ?_; clear hK K) | (apply Exists.intro; refine ⟨fun p => ?_, hK _ ?_⟩; (fail); clear hK K))
      refine headC_nil ?_
      refine anyK_done (by kernel_rfl) ?_ 0
      intro w5 hw5
      have HE := hide ((X2.out.trans hw3).trans hw5)
      clear hw5 hw3 X2 HX
      cases OK
      · go_wp2
        (try simp only [Exit.inBlock, Exit.then]); refine bodyPost_ret (results_tmp3 rfl _ _ _) rfl ?_
        exact ⟨by rw [← HRV.out, if_neg (by simp)]; rfl, HE.out⟩
      · go_wp2
        (try simp only [Exit.inBlock, Exit.then]); refine bodyPost_ret (results_tmp3 rfl _ _ _) rfl ?_
        exact ⟨by rw [← HRV.out]; rfl, HE.out⟩

/-- What the program's readHead tells: a head and a fault, one of them nothing. -/
def hdV (h : Hed) : List Value := [.int .i64 h.tag, .int .i64 (h.st : Int), .int .i64 (h.en : Int), .int .i64 (h.ar : Int)]

def noH : List Value := [.int .i64 0, .int .i64 0, .int .i64 0, .int .i64 0]

def rhV (f : Nat → Int) (a e d : Nat) : Value := if (hdC f a e d).1 = 0 then .tuple #[.agg (hdV (hdOf f a e d)).toArray, .nilIface] else .tuple #[.agg noH.toArray, fltV (hdC f a e d).1 (hdC f a e d).2]
end

section
set_option linter.unusedVariables false
set_option linter.unusedSimpArgs false

open Go.RowKit

/-- The byte at a place. -/
def bt (s : ByteArray) (i : Nat) : Nat := (s.get! i).toNat

/-- What a round of a range over s at place p comes to: the rune r, q bytes wide. -/
structure Rn (s : ByteArray) (p r q : Nat) : Prop where
  dec : Utf8.decode s p = (r, q)
  le : r ≤ 2147483647
  pos : 1 ≤ q
  fits : p + q ≤ s.size
  low : r < 128 → q = 1 ∧ r = bt s p
  high : 128 ≤ r → ∀ j, p ≤ j → j < p + q → 128 ≤ bt s j

theorem Rn.next {P : Program} {s : ByteArray} {p r q : Nat} (h : Rn s p r q) {w : World} {k : Nat} (hk : w.heap[k]? = some (.stringIter s p)) (hp : p < s.size) (ty : TypeId) :
    (Instr.next (.pointer (some ⟨k, 0, none⟩)) true ty).run P w = .ok (.tuple #[.bool true, .int .i64 (p : Int), .int .i32 (r : Int)]) (w.iterAt k s (p + q)) := by
  rw [Lib.run_next_any_at w k s p ty hk hp, h.dec]

/-- A world in which an iterator at block k, of the call's own, stands at place p. -/
structure Itr (w wr : World) (k : Nat) (s : ByteArray) (p : Nat) : Prop where
  blk : wr.heap[k]? = some (.stringIter s p)
  ge : w.heap.size ≤ k
  ext : Ext w wr

theorem Itr.step {w wr : World} {k : Nat} {s : ByteArray} {p : Nat} (h : Itr w wr k s p) (p' : Nat) : Itr w (wr.iterAt k s p') k s p' :=
  ⟨Lib.iterAt_heap wr k s p p' h.blk, h.ge, Lib.below_iterAt h.ext h.ge s p'⟩

theorem Itr.pos {w wr : World} {k : Nat} {s : ByteArray} {p : Nat} (h : Itr w wr k s p) : wr.iterPos k = p := iterPos_of h.blk

/-- What an append to a row of one's own leaves of an iterator. -/
theorem Itr.grown {w wr w1 : World} {k : Nat} {s : ByteArray} {p : Nat} (h : Itr w wr k s p) {B e size n : Nat} {v : Value} {xs : List Value} (ho : wr.ownsRow B e size v n xs) (hB : w.heap.size ≤ B) {o : Obj} (hg : (wr.alloc o).grownBy w1 v.ownBlock) : Itr w w1 k s p := by
  have hlt : k < wr.heap.size := (Array.getElem?_eq_some_iff.1 h.blk).1
  refine ⟨?_, h.ge, ?_⟩
  · rw [hg.block k (by simp; omega) ?_]
    · show (wr.heap.push o)[k]? = _
      rw [Array.getElem?_push_lt hlt, ← h.blk, Array.getElem?_eq_getElem hlt]
    · rcases ho.2 with ⟨rfl, _⟩ | ⟨g, cap, cur, rfl, hb, hg', rest⟩
      · simp [Value.ownBlock]
      · intro e
        simp only [Value.ownBlock, Option.some.injEq] at e
        subst e
        rw [h.blk] at hg'
        cases hg'
  · exact (Below.alloc h.ext (Below.size h.ext) o).grown hg (by have := Below.size h.ext; simp; omega) (fun j hj => by have := (ho.lt j hj).1; omega)
end

section
set_option linter.unusedVariables false
set_option linter.unusedSimpArgs false
set_option maxRecDepth 100000

open Go.RowKit

/-- A list of strings in memory. -/
structure SSeg (w : World) (a : Option Addr) (b off n : Nat) (f : Nat → ByteArray) : Prop where
  at' : 0 < n → a = some ⟨b, off, none⟩
  cell : ∀ i, i < n → w.cell? ⟨b, off + i, none⟩ = some (.string (f i))

theorem SSeg.lt {w : World} {a : Option Addr} {b off n : Nat} {f : Nat → ByteArray} (h : SSeg w a b off n f) (hn : 0 < n) : b < w.heap.size := World.block_lt_of_cell? _ _ (h.cell 0 hn)

theorem SSeg.of_all {w w' : World} {a : Option Addr} {b off n : Nat} {f : Nat → ByteArray} (h : SSeg w a b off n f) (e : Ext w w') : SSeg w' a b off n f :=
  ⟨h.at', fun i hi => (Below.cell e (p := ⟨b, off + i, none⟩) (h.lt (by omega))).trans (h.cell i hi)⟩

section

open Go.ChangeShapes Go.WideShapes Go.ChangeAt

variable {H : Type} {enc : TypeId × Value → H} {w : World} {base : Nat} {held : Bool}

end

/-- A copied list of strings. -/
structure SCopy (w w' : World) (n : Nat) (f : Nat → ByteArray) : Prop where
  below : Ext w w'
  size : w'.heap.size = w.heap.size + 1
  row : w'.rowIs w.heap.size 9 n (fun j => .string (f j))

theorem SCopy.seg {w w' : World} {n : Nat} {f : Nat → ByteArray} (h : SCopy w w' n f) : SSeg w' (some ⟨w.heap.size, 0, none⟩) w.heap.size 0 n f := ⟨fun _ => rfl, fun i hi => by rw [Nat.zero_add]; exact h.row.cell hi⟩
end

section
set_option linter.unusedVariables false
set_option linter.unusedSimpArgs false
set_option maxRecDepth 100000

open Go.RowKit

theorem wpList_st {P : Program} {w : World} {ops : Array Oper} {rest : List Oper} {o : Oper} {a : Act} {Q : Exit → Act → World → Prop} (hw : Region.wanted o (yielded ops a.tmps) = true) (ty : TypeId) (x y : Operand) (ho : o.op = .store ty x y) (vx : Value) (hx : a.eval x = vx) (vy : Value) (hy : a.eval y = vy) (w2 : World) (hl : (Instr.storeAt ty vx vy).run P w = .ok () w2)
    (h : wpList P ops Q rest (a.put o.dst undef) w2) : wpList P ops Q (o :: rest) a w := by
  rw [wpList]
  simp only [hw, if_true]
  refine Or.inl ?_
  unfold Oper.wp execOp
  simp only [ho, hx, hy, Sem.run_bind, Sem.run_pure, Result.andThen_ok, hl]
  exact h

theorem add_off (b o j : Nat) : (⟨b, o, none⟩ : Addr).add j = ⟨b, o + j, none⟩ := by
  unfold Addr.add
  split <;> simp_all

/-- A struct is loaded as a whole. -/
theorem run_ld {P : Program} (ty : TypeId) (cs : List Value) (w : World) (hs : (Go.sizeOf ty).run P w = .ok cs.length w) (ha : (isAgg ty).run P w = .ok true w) (b o : Nat) (hc : ∀ j v, cs[j]? = some v → w.cell? ⟨b, o + j, none⟩ = some v) :
    (loadVar ty ⟨b, o, none⟩).run P w = .ok (.agg cs.toArray) w := by
  have hld := run_loadCells_list (P := P) w ⟨b, o, none⟩ cs (fun j v h => by
    have := hc j v h
    rwa [add_off])
  simp only [loadVar, Sem.run_bind, ha, Result.andThen_ok, if_true, hs, hld, Sem.run_pure]

theorem setCells_putS (b : Nat) : ∀ (vs : List Value) (o : Nat) (w : World), w.setCells b o vs = putL b o vs w
  | [], _, _ => rfl
  | v :: vs, o, w => by rw [World.setCells, putL, setCells_putS b vs]

/-- A struct is stored as a whole. -/
theorem run_st {P : Program} (ty : TypeId) (cs : List Value) (w : World) (hs : (Go.sizeOf ty).run P w = .ok cs.length w) (h1 : ∀ v ∈ cs, v.oneCell' = true) (b o : Nat) (hc : ∀ j, j < cs.length → (∃ v, w.cell? ⟨b, o + j, none⟩ = some v) ∧ w.frozen? ⟨b, o + j, none⟩ = false) :
    (Instr.storeAt ty (.pointer (some ⟨b, o, none⟩)) (.agg cs.toArray)).run P w = .ok () (putL b o cs w) := by
  have hst := run_storeCells_cells (P := P) b o cs 0 w (fun j hj => by
    obtain ⟨v, h⟩ := (hc j hj).1
    simp [h]) (fun j hj => by simpa using (hc j hj).2) h1
  simp only [Instr.storeAt, Instr.sureAddr, storeVar, Sem.run_bind, Sem.run_pure, Result.andThen_ok, hs, Value.cells]
  rw [setCells_putS] at hst
  simp [hst]

theorem Blk.ld {w : World} {b : Nat} {vs : List Value} (h : Blk w b vs) (o : Nat) (cs : List Value) (hc : ∀ j v, cs[j]? = some v → vs[o + j]? = some v) : ∀ j v, cs[j]? = some v → w.cell? ⟨b, o + j, none⟩ = some v := fun j v hj => (h _ v (hc j v hj)).1

theorem Blk.st {w : World} {b : Nat} {vs : List Value} (h : Blk w b vs) (o n : Nat) (hn : o + n ≤ vs.length) : ∀ j, j < n → (∃ v, w.cell? ⟨b, o + j, none⟩ = some v) ∧ w.frozen? ⟨b, o + j, none⟩ = false := fun j hj => by
  have e : vs[o + j]? = some (vs[o + j]'(by omega)) := List.getElem?_eq_getElem (by omega)
  exact ⟨⟨_, (h _ _ e).1⟩, (h _ _ e).2⟩

theorem cell_putL_out (C : Nat) (q : Addr) : ∀ (vs : List Value) (i : Nat) (w : World), (q.block = C → i + vs.length ≤ q.off) → (putL C i vs w).cell? q = w.cell? q
  | [], _, _, _ => rfl
  | v :: vs, i, w, h => by
    rw [putL, cell_putL_out C q vs (i + 1) _ (fun e => by have := h e; simp at this; omega)]
    refine World.cell?_setCell_other _ _ _ _ ?_
    rintro rfl
    have := h rfl
    simp at this
    omega

/-- Some places of a list, written anew. -/
def putAt (lo : List Value) (i : Nat) (vs : List Value) : List Value := lo.take i ++ (vs ++ lo.drop (i + vs.length))

theorem Blk.putAt {w : World} {C : Nat} {lo : List Value} (h : Blk w C lo) (i : Nat) (vs : List Value) (hl : i + vs.length ≤ lo.length) : Blk (putL C i vs w) C (putAt lo i vs) := fun j v hj => by
  have hlen : (lo.take i).length = i := by rw [List.length_take]; omega
  unfold Go.Proofs.YtmcdikbcmikihaaDoor.putAt at hj
  by_cases h1 : j < i
  · rw [List.getElem?_append_left (by omega), List.getElem?_take_of_lt h1] at hj
    refine ⟨(cell_putL_other C ⟨C, j, none⟩ vs i w (fun _ => h1)).trans (h j v hj).1, by rw [frozen_putL]; exact (h j v hj).2⟩
  · rw [List.getElem?_append_right (by omega), hlen] at hj
    by_cases h2 : j - i < vs.length
    · rw [List.getElem?_append_left h2] at hj
      have := cell_putL C vs i w (fun k hk => by
        rw [(h (i + k) _ (List.getElem?_eq_getElem (by omega))).1]
        rfl) (j - i) v hj
      rw [show i + (j - i) = j by omega] at this
      exact ⟨this, by rw [frozen_putL]; exact (h j _ (List.getElem?_eq_getElem (by omega))).2⟩
    · rw [List.getElem?_append_right (by omega), List.getElem?_drop, show i + vs.length + (j - i - vs.length) = j by omega] at hj
      exact ⟨(cell_putL_out C ⟨C, j, none⟩ vs i w (fun _ => by show _ ≤ j; omega)).trans (h j v hj).1, by rw [frozen_putL]; exact (h j v hj).2⟩

theorem Blk.lt {w : World} {C : Nat} {vs : List Value} (h : Blk w C vs) (hn : 0 < vs.length) : C < w.heap.size := World.block_lt_of_cell? _ _ (h 0 _ (List.getElem?_eq_getElem hn)).1

theorem Blk.set1 {w : World} {C : Nat} {vs : List Value} (h : Blk w C vs) (i : Nat) (v : Value) (hi : i < vs.length) : Blk (w.setCell ⟨C, i, none⟩ v) C (vs.set i v) := fun j u hj => by
  by_cases e : j = i
  · subst e
    rw [List.getElem?_set_self hi] at hj
    simp only [Option.some.injEq] at hj
    subst hj
    obtain ⟨y, hy⟩ : ∃ y, vs[j]? = some y := ⟨_, List.getElem?_eq_getElem hi⟩
    exact ⟨World.cell?_setCell_same _ _ _ (h j y hy).1, by rw [World.frozen?_setCell]; exact (h j y hy).2⟩
  · rw [List.getElem?_set_ne (fun h => e h.symm)] at hj
    refine ⟨?_, by rw [World.frozen?_setCell]; exact (h j u hj).2⟩
    rw [World.cell?_setCell_other _ _ _ _ (fun k => e (by have := congrArg Addr.off k; simp at this; omega))]
    exact (h j u hj).1

theorem Blk.apart1 {w : World} {C D i : Nat} {vs : List Value} (h : Blk w C vs) (v : Value) (hn : C ≠ D) : Blk (w.setCell ⟨D, i, none⟩ v) C vs := fun j u hj => by
  have hb : (w.setCell ⟨D, i, none⟩ v).heap[C]? = w.heap[C]? := Below.heap_setCell _ _ _ _ hn
  exact ⟨(World.cell?_of_block (a := ⟨C, j, none⟩) hb).trans (h j u hj).1, (World.frozen?_of_block (a := ⟨C, j, none⟩) hb).trans (h j u hj).2⟩

/-- Blocks from N on are as they were. -/
def Kp (N : Nat) (w w' : World) : Prop := w.heap.size ≤ w'.heap.size ∧ ∀ k, N ≤ k → k < w.heap.size → w'.heap[k]? = w.heap[k]?

theorem Kp.refl (N : Nat) (w : World) : Kp N w w := ⟨Nat.le_refl _, fun _ _ _ => rfl⟩

theorem Kp.trans {N : Nat} {a b c : World} (h : Kp N a b) (k : Kp N b c) : Kp N a c := ⟨Nat.le_trans h.1 k.1, fun i hi hl => (k.2 i hi (Nat.lt_of_lt_of_le hl h.1)).trans (h.2 i hi hl)⟩

theorem Kp.ext {N : Nat} {a b : World} (h : Ext a b) : Kp N a b := ⟨Below.size h, fun k _ hl => Below.block h k hl⟩

theorem Kp.mono {N M : Nat} {a b : World} (h : Kp N a b) (hM : N ≤ M) : Kp M a b := ⟨h.1, fun k hk hl => h.2 k (Nat.le_trans hM hk) hl⟩

theorem Kp.set {N C : Nat} (hC : C < N) (i : Nat) (v : Value) (w : World) : Kp N w (w.setCell ⟨C, i, none⟩ v) := ⟨by simp [World.setCell], fun k hk _ => Below.heap_setCell _ _ _ _ (by show k ≠ C; omega)⟩

theorem Kp.putL {N C : Nat} (hC : C < N) : ∀ (vs : List Value) (i : Nat) (w : World), Kp N w (putL C i vs w)
  | [], _, _ => Kp.refl _ _
  | v :: vs, i, w => (Kp.set hC i v w).trans (Kp.putL hC vs (i + 1) _)

theorem SSeg.kp {N : Nat} {w w' : World} {a : Option Addr} {b off n : Nat} {f : Nat → ByteArray} (h : SSeg w a b off n f) (hb : N ≤ b) (k : Kp N w w') : SSeg w' a b off n f :=
  ⟨h.at', fun i hi => (World.cell?_of_block (a := ⟨b, off + i, none⟩) (k.2 b hb (h.lt (by omega)))).trans (h.cell i hi)⟩

theorem Seg.kp {N : Nat} {w w' : World} {a : Option Addr} {b off n : Nat} {f : Nat → Int} (h : Seg w a b off n f) (hb : N ≤ b) (k : Kp N w w') : Seg w' a b off n f :=
  ⟨h.at', fun i hi => (World.cell?_of_block (a := ⟨b, off + i, none⟩) (k.2 b hb (h.lt (by omega)))).trans (h.cell i hi)⟩

/-- In the midst of making a struct: what came in, the answer's place, the struct made so far. -/
structure Mkg (w wr : World) (la ld lo : List Value) : Prop where
  ext : Ext w wr
  a : Blk wr w.heap.size la
  d : Blk wr (w.heap.size + 1) ld
  o : Blk wr (w.heap.size + 1 + 1) lo
  lt : w.heap.size + 1 + 1 < wr.heap.size

theorem Mkg.later {w wr wr' : World} {la ld lo : List Value} (h : Mkg w wr la ld lo) (e : Ext wr wr') : Mkg w wr' la ld lo :=
  ⟨h.ext.trans e, h.a.ext e (by have := h.lt; omega), h.d.ext e (by have := h.lt; omega), h.o.ext e h.lt, Nat.lt_of_lt_of_le h.lt (Below.size e)⟩

theorem Mkg.set {w wr : World} {la ld lo : List Value} (h : Mkg w wr la ld lo) (i : Nat) (v : Value) (hi : i < lo.length) : Mkg w (wr.setCell ⟨w.heap.size + 1 + 1, i, none⟩ v) la ld (lo.set i v) :=
  ⟨Below.setCell h.ext (p := ⟨w.heap.size + 1 + 1, i, none⟩) (Nat.le_succ_of_le (Nat.le_succ _)) _, h.a.apart1 _ (by omega), h.d.apart1 _ (by omega), h.o.set1 i v hi, by simp [World.setCell]; exact h.lt⟩

theorem Mkg.put {w wr : World} {la ld lo : List Value} (h : Mkg w wr la ld lo) (i : Nat) (vs : List Value) (hi : i + vs.length ≤ lo.length) : Mkg w (putL (w.heap.size + 1 + 1) i vs wr) la ld (putAt lo i vs) := by
  refine ⟨below_putL (Nat.le_succ_of_le (Nat.le_succ _)) vs i wr h.ext, fun j v hj => ?_, fun j v hj => ?_, h.o.putAt i vs hi, by rw [size_putL]; exact h.lt⟩
  · exact ⟨(cell_putL_other _ ⟨w.heap.size, j, none⟩ vs i wr (fun e => by simp at e; omega)).trans (h.a j v hj).1, by rw [frozen_putL]; exact (h.a j v hj).2⟩
  · exact ⟨(cell_putL_other _ ⟨w.heap.size + 1, j, none⟩ vs i wr (fun e => by simp at e)).trans (h.d j v hj).1, by rw [frozen_putL]; exact (h.d j v hj).2⟩

theorem Blk.putAll1 {w : World} {C : Nat} {us vs : List Value} (h : Blk w C us) (hl : us.length = vs.length) : Blk (putL C 0 vs w) C vs := fun j v hj => by
  have hi := (List.getElem?_eq_some_iff.1 hj).1
  have := cell_putL C vs 0 w (fun k hk => by
    obtain ⟨y, hy⟩ : ∃ y, us[k]? = some y := ⟨_, List.getElem?_eq_getElem (by omega)⟩
    rw [Nat.zero_add, (h k y hy).1]
    rfl) j v hj
  rw [Nat.zero_add] at this
  obtain ⟨y, hy⟩ : ∃ y, us[j]? = some y := ⟨_, List.getElem?_eq_getElem (by omega)⟩
  exact ⟨this, by rw [frozen_putL]; exact (h j y hy).2⟩
end

end Go.Proofs.YtmcdikbcmikihaaDoor
