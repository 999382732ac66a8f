/- Walks: a number's text, of both. -/
import Derived.Test.YtjbmhfaocbhakaaDoorNatOk
import Derived.Test.YtjbmhfaocbhakaaDoorEqB
import Derived.Test.YtjbmhfaocbhakaaDoorStepsC
import Derived.Test.YtjbmhfaocbhakaaDoorShelf
import Derived.Test.YtjbmhfaocbhakaaDoorBlk
import Derived.Lib.AppendIntMem
import Derived.Maps.AppendAt
namespace Go.Proofs.YtjbmhfaocbhakaaDoor
set_option linter.unusedVariables false
set_option linter.unusedSimpArgs false
open Go.RowKit Go.Sort

/-- The library's table of powers lies in its variable. -/
def Tab (w : World) : Prop := Lib.TabIs Tryd.prog w "internal/strconv.uint64pow10" .u64 Lib.pow10Tab
theorem Tab.ext {w w' : World} (h : Tab w) (e : Ext w w') : Tab w' := Lib.tabBelow_of_tabIs h w' e

/-- A number's text. -/
def tld (n : Nat) : ByteArray := ⟨(Lib.decDigits n).toArray⟩
theorem ba_app (a b : List UInt8) : (⟨a.toArray⟩ : ByteArray) ++ (⟨b.toArray⟩ : ByteArray) = ⟨(a ++ b).toArray⟩ := by
  apply ByteArray.ext
  simp [ByteArray.data_append]
theorem tld_low {n : Nat} (h : n < 10) : tld n = strOfNums (nums (fun _ => 48 + (n : Int)) 1) := by
  have e : (48 + (n : Int)).toNat = 48 + n := by omega
  unfold tld Lib.decDigits
  rw [dif_pos h]
  show _ = (⟨([UInt8.ofNat (48 + (n : Int)).toNat] : List UInt8).toArray⟩ : ByteArray)
  rw [e]
theorem tld_more {n : Nat} (h : ¬ n < 10) : tld n = tld (n / 10) ++ strOfNums (nums (fun _ => 48 + ((n % 10 : Nat) : Int)) 1) := by
  have e : (48 + ((n % 10 : Nat) : Int)).toNat = 48 + n % 10 := by omega
  show _ = tld (n / 10) ++ (⟨([UInt8.ofNat (48 + ((n % 10 : Nat) : Int)).toNat] : List UInt8).toArray⟩ : ByteArray)
  unfold tld
  rw [ba_app, e]
  conv => lhs; unfold Lib.decDigits
  rw [dif_neg h]

theorem bseg_new (w : World) (x : Int) : BSeg (w.alloc (.cells #[.int .u8 x] 5)) (some ⟨w.heap.size, 0, none⟩) w.heap.size 0 1 (fun _ => x) :=
  ⟨fun _ => rfl, fun i hi => by
    obtain rfl : i = 0 := by omega
    exact (Blk.alloc w [.int .u8 x] 5 0 _ rfl).1⟩

set_option maxHeartbeats 800000 in
theorem l1Told_low (n : Nat) (hn : n < 10) (w : World) : Calls Tryd.prog 7 #[.int .i64 (n : Int)] w fun e w' => e = .returned (.string (tld n)) ∧ Ext w w' := by
  have HT := hide (tld_low hn)
  have h10 : (n : Int) < 10 := by omega
  have w1 : wrap64 (48 + (n : Int)) = 48 + n := by unfold wrap64; omega
  have w2 : IntKind.u8.wrap (48 + (n : Int)) = 48 + n := by rw [IntKind.wrap_u8]; omega
  have hcv := conv_seg (cap := 1) (bseg_new w (48 + (n : Int)))
  go_enter Tryd.func7, Tryd.ntmps7
  go_wp2
  go_ret
  exact ⟨by rw [HT.out]; rfl, Ext.alloc _ _⟩

theorem tld_size {n : Nat} (h : n ≤ 255) : (tld n).size ≤ 3 := by
  have h1 : ∀ F : Nat → Int, (strOfNums (nums F 1)).size = 1 := fun F => by simp [strOfNums_size, nums]
  have hl : ∀ k, k < 10 → (tld k).size = 1 := fun k hk => by rw [tld_low hk, h1]
  by_cases a : n < 10
  · rw [hl n a]; omega
  · rw [tld_more a, ByteArray.size_append, h1]
    by_cases b : n / 10 < 10
    · rw [hl _ b]; omega
    · rw [tld_more b, ByteArray.size_append, h1, hl _ (by omega)]; decide

theorem add_rule {x y R : ByteArray} (h : R = x ++ y) (hs : x.size + y.size ≤ 1000) : ∀ W, (Op.stringOp .add x y).run Tryd.prog W = .ok (.string R) W := fun W => by rw [h]; exact run_string_add_sum W x y (by omega)

set_option maxHeartbeats 1600000 in
theorem l1Told_more (n : Nat) (hn : ¬ n < 10) (hb : n ≤ 255) (H : Hid (∀ w, Calls Tryd.prog 7 #[.int .i64 ((n / 10 : Nat) : Int)] w fun e w' => e = .returned (.string (tld (n / 10))) ∧ Ext w w')) (w : World) : Calls Tryd.prog 7 #[.int .i64 (n : Int)] w fun e w' => e = .returned (.string (tld n)) ∧ Ext w w' := by
  have HT := tld_more hn
  have hz : (tld (n / 10)).size ≤ 3 := tld_size (by omega)
  have h10 : ¬ (n : Int) < 10 := by omega
  have q1 : Int.tdiv (n : Int) 10 = ((n / 10 : Nat) : Int) := by rw [Int.tdiv_eq_ediv_of_nonneg (by omega)]; omega
  have q2 : Int.tmod (n : Int) 10 = ((n % 10 : Nat) : Int) := by rw [Int.tmod_eq_emod_of_nonneg (by omega)]; omega
  have m10 : n % 10 < 10 := Nat.mod_lt _ (by omega)
  have d10 : n / 10 ≤ 100 := by omega
  have hw : ∀ k : Nat, k ≤ 100 → wrap64 (k : Int) = k ∧ IntKind.i64.wrap (k : Int) = k ∧ wrap64 (48 + (k : Int)) = 48 + k ∧ IntKind.i64.wrap (48 + (k : Int)) = 48 + k ∧ IntKind.u8.wrap (48 + (k : Int)) = 48 + k := fun k hk => by
    refine ⟨by unfold wrap64; omega, by rw [IntKind.wrap_i64]; omega, by unfold wrap64; omega, by rw [IntKind.wrap_i64]; omega, by rw [IntKind.wrap_u8]; omega⟩
  generalize n / 10 = q at *
  generalize n % 10 = m at *
  obtain ⟨w0, v0, -, -, -⟩ := hw q d10
  obtain ⟨w3, v3, w1, v1, w2⟩ := hw m (by omega)
  clear hw
  generalize tld n = R at *
  generalize tld q = D at *
  have hr := add_rule HT (by simp [strOfNums_size, nums]; omega)
  clear HT hz
  go_enter Tryd.func7, Tryd.ntmps7
  go_wp2
  refine anyK_begin (fun _ => False) 11 rfl (by kernel_rfl) ?_
  refine anyK_take 0 7 4 rfl (by decide) (by kernel_rfl) (fun _ _ d _ _ h => by cases d <;> exact h) ?_
  repeat (refine headC_step (fun K hK => ?_); go_simp; first | (refine hK _ ?_; clear hK K) | (apply Exists.intro; refine ⟨fun _ => ?_, hK _ ?_⟩; (exact Calls.re_of (H.out _)); clear hK K))
  refine headC_nil ?_
  refine anyK_one 7 (by kernel_rfl) ?_
  refine stepK_run rfl ?_
  intro w7 h7 K hK
  go_simp
  refine hK _ _ (Grw.of_ext (Ext.trans h7 (Ext.alloc _ _))) ?_
  clear hK K
  refine anyK_one 8 (by kernel_rfl) ?_
  refine stepK_run rfl ?_
  intro w8 h8 K hK
  have hcv := conv_seg (cap := 1) ((bseg_new w7 (48 + (m : Int))).of_all h8)
  go_simp
  refine hK _ _ (Grw.of_ext (Ext.trans (Ext.trans h7 (Ext.alloc _ _)) h8)) ?_
  have HE := hide (Ext.trans (Ext.trans h7 (Ext.alloc _ _)) h8)
  clear hK K hcv h8 h7
  refine anyK_take 9 2 0 rfl (by decide) (by kernel_rfl) (fun _ _ d _ _ h => by cases d <;> exact h) ?_
  repeat (refine headC_step (fun K hK => ?_); go_simp; first | (refine hK _ ?_; clear hK K) | (apply Exists.intro; refine ⟨fun _ => ?_, hK _ ?_⟩; (fail); clear hK K))
  refine headC_nil ?_
  refine anyK_done (by kernel_rfl) ?_ 0
  intro w9 h9
  go_wp2
  go_ret
  exact ⟨rfl, Ext.trans HE.out h9⟩

theorem l1Told_any (n : Nat) (hn : n ≤ 255) (w : World) : Calls Tryd.prog 7 #[.int .i64 (n : Int)] w fun e w' => e = .returned (.string (tld n)) ∧ Ext w w' := by
  by_cases h1 : n < 10
  · exact l1Told_low n h1 w
  · refine l1Told_more n h1 (by omega) (fun w => ?_) w
    by_cases h2 : n / 10 < 10
    · exact l1Told_low _ h2 w
    · exact l1Told_more _ h2 (by omega) (fun w => l1Told_low _ (by omega) w) w

theorem itoa_any (n : Nat) (hn : n ≤ 255) (w : World) (hT : Tab w) : Calls Tryd.prog 9 #[.int .i64 (n : Int)] w fun e w' => e = .returned (.string (tld n)) ∧ Ext w w' := by
  refine (Tryd.strconv_Itoa (n : Int) (by omega) (by omega) w hT).mono ?_
  rintro e w' ⟨rfl, k, os, rfl⟩
  refine ⟨?_, rfl, rfl, rfl, by simp [grow], fun i hi => Array.getElem?_append_left hi⟩
  have : ¬ ((n : Int) < 0) := by omega
  unfold Lib.itoa tld
  rw [if_neg this, Int.toNat_natCast]

end Go.Proofs.YtjbmhfaocbhakaaDoor
