/- Walks: WriteAddress of both. -/
import Derived.Test.YtjidlahgfkdipacDoorNet
import Derived.Test.YtjidlahgfkdipacDoorEqB
import Derived.Test.YtjidlahgfkdipacDoorStepsC
import Derived.Test.YtjidlahgfkdipacDoorShelf
import Derived.Test.YtjidlahgfkdipacDoorBlk
import Derived.Lib.AppendIntMem
import Derived.Maps.AppendAt
namespace Go.Proofs.YtjidlahgfkdipacDoor
set_option linter.unusedVariables false
set_option linter.unusedSimpArgs false
open Go.RowKit Go.Sort

/-- The library's table of powers lies in its variable. -/
def Tab (w : World) : Prop := Lib.TabIs Tryd.prog w "internal/strconv.uint64pow10" .u64 Lib.pow10Tab
theorem Tab.ext {w w' : World} (h : Tab w) (e : Ext w w') : Tab w' := Lib.tabBelow_of_tabIs h w' e

/-- A number's text. -/
def tld (n : Nat) : ByteArray := ⟨(Lib.decDigits n).toArray⟩
theorem ba_app (a b : List UInt8) : (⟨a.toArray⟩ : ByteArray) ++ (⟨b.toArray⟩ : ByteArray) = ⟨(a ++ b).toArray⟩ := by
  apply ByteArray.ext
  simp [ByteArray.data_append]
theorem tld_low {n : Nat} (h : n < 10) : tld n = strOfNums (nums (fun _ => 48 + (n : Int)) 1) := by
  have e : (48 + (n : Int)).toNat = 48 + n := by omega
  unfold tld Lib.decDigits
  rw [dif_pos h]
  show _ = (⟨([UInt8.ofNat (48 + (n : Int)).toNat] : List UInt8).toArray⟩ : ByteArray)
  rw [e]
theorem tld_more {n : Nat} (h : ¬ n < 10) : tld n = tld (n / 10) ++ strOfNums (nums (fun _ => 48 + ((n % 10 : Nat) : Int)) 1) := by
  have e : (48 + ((n % 10 : Nat) : Int)).toNat = 48 + n % 10 := by omega
  show _ = tld (n / 10) ++ (⟨([UInt8.ofNat (48 + ((n % 10 : Nat) : Int)).toNat] : List UInt8).toArray⟩ : ByteArray)
  unfold tld
  rw [ba_app, e]
  conv => lhs; unfold Lib.decDigits
  rw [dif_neg h]

theorem bseg_new (w : World) (x : Int) : BSeg (w.alloc (.cells #[.int .u8 x] 5)) (some ⟨w.heap.size, 0, none⟩) w.heap.size 0 1 (fun _ => x) :=
  ⟨fun _ => rfl, fun i hi => by
    obtain rfl : i = 0 := by omega
    exact (Blk.alloc w [.int .u8 x] 5 0 _ rfl).1⟩

set_option maxHeartbeats 800000 in
theorem l1Told_low (n : Nat) (hn : n < 10) (w : World) : Calls Tryd.prog 49 #[.int .i64 (n : Int)] w fun e w' => e = .returned (.string (tld n)) ∧ Ext w w' := by
  have HT := hide (tld_low hn)
  have h10 : (n : Int) < 10 := by omega
  have w1 : wrap64 (48 + (n : Int)) = 48 + n := by unfold wrap64; omega
  have w2 : IntKind.u8.wrap (48 + (n : Int)) = 48 + n := by rw [IntKind.wrap_u8]; omega
  have hcv := conv_seg (cap := 1) (bseg_new w (48 + (n : Int)))
  go_enter Tryd.func49, Tryd.ntmps49
  go_wp2
  go_ret
  exact ⟨by rw [HT.out]; rfl, Ext.alloc _ _⟩

theorem tld_size {n : Nat} (h : n ≤ 255) : (tld n).size ≤ 3 := by
  have h1 : ∀ F : Nat → Int, (strOfNums (nums F 1)).size = 1 := fun F => by simp [strOfNums_size, nums]
  have hl : ∀ k, k < 10 → (tld k).size = 1 := fun k hk => by rw [tld_low hk, h1]
  by_cases a : n < 10
  · rw [hl n a]; omega
  · rw [tld_more a, ByteArray.size_append, h1]
    by_cases b : n / 10 < 10
    · rw [hl _ b]; omega
    · rw [tld_more b, ByteArray.size_append, h1, hl _ (by omega)]; decide

theorem add_rule {x y R : ByteArray} (h : R = x ++ y) (hs : x.size + y.size ≤ 1000) : ∀ W, (Op.stringOp .add x y).run Tryd.prog W = .ok (.string R) W := fun W => by rw [h]; exact run_string_add_sum W x y (by omega)

set_option maxHeartbeats 1600000 in
theorem l1Told_more (n : Nat) (hn : ¬ n < 10) (hb : n ≤ 255) (H : Hid (∀ w, Calls Tryd.prog 49 #[.int .i64 ((n / 10 : Nat) : Int)] w fun e w' => e = .returned (.string (tld (n / 10))) ∧ Ext w w')) (w : World) : Calls Tryd.prog 49 #[.int .i64 (n : Int)] w fun e w' => e = .returned (.string (tld n)) ∧ Ext w w' := by
  have HT := tld_more hn
  have hz : (tld (n / 10)).size ≤ 3 := tld_size (by omega)
  have h10 : ¬ (n : Int) < 10 := by omega
  have q1 : Int.tdiv (n : Int) 10 = ((n / 10 : Nat) : Int) := by rw [Int.tdiv_eq_ediv_of_nonneg (by omega)]; omega
  have q2 : Int.tmod (n : Int) 10 = ((n % 10 : Nat) : Int) := by rw [Int.tmod_eq_emod_of_nonneg (by omega)]; omega
  have m10 : n % 10 < 10 := Nat.mod_lt _ (by omega)
  have d10 : n / 10 ≤ 100 := by omega
  have hw : ∀ k : Nat, k ≤ 100 → wrap64 (k : Int) = k ∧ IntKind.i64.wrap (k : Int) = k ∧ wrap64 (48 + (k : Int)) = 48 + k ∧ IntKind.i64.wrap (48 + (k : Int)) = 48 + k ∧ IntKind.u8.wrap (48 + (k : Int)) = 48 + k := fun k hk => by
    refine ⟨by unfold wrap64; omega, by rw [IntKind.wrap_i64]; omega, by unfold wrap64; omega, by rw [IntKind.wrap_i64]; omega, by rw [IntKind.wrap_u8]; omega⟩
  generalize n / 10 = q at *
  generalize n % 10 = m at *
  obtain ⟨w0, v0, -, -, -⟩ := hw q d10
  obtain ⟨w3, v3, w1, v1, w2⟩ := hw m (by omega)
  clear hw
  generalize tld n = R at *
  generalize tld q = D at *
  have hr := add_rule HT (by simp [strOfNums_size, nums]; omega)
  clear HT hz
  go_enter Tryd.func49, Tryd.ntmps49
  go_wp2
  refine anyK_begin (fun _ => False) 11 rfl (by kernel_rfl) ?_
  refine anyK_take 0 7 4 rfl (by decide) (by kernel_rfl) (fun _ _ d _ _ h => by cases d <;> exact h) ?_
  repeat (refine headC_step (fun K hK => ?_); go_simp; first | (refine hK _ ?_; clear hK K) | (apply Exists.intro; refine ⟨fun _ => ?_, hK _ ?_⟩; (exact Calls.re_of (H.out _)); clear hK K))
  refine headC_nil ?_
  refine anyK_one 7 (by kernel_rfl) ?_
  refine stepK_run rfl ?_
  intro w7 h7 K hK
  go_simp
  refine hK _ _ (Grw.of_ext (Ext.trans h7 (Ext.alloc _ _))) ?_
  clear hK K
  refine anyK_one 8 (by kernel_rfl) ?_
  refine stepK_run rfl ?_
  intro w8 h8 K hK
  have hcv := conv_seg (cap := 1) ((bseg_new w7 (48 + (m : Int))).of_all h8)
  go_simp
  refine hK _ _ (Grw.of_ext (Ext.trans (Ext.trans h7 (Ext.alloc _ _)) h8)) ?_
  have HE := hide (Ext.trans (Ext.trans h7 (Ext.alloc _ _)) h8)
  clear hK K hcv h8 h7
  refine anyK_take 9 2 0 rfl (by decide) (by kernel_rfl) (fun _ _ d _ _ h => by cases d <;> exact h) ?_
  repeat (refine headC_step (fun K hK => ?_); go_simp; first | (refine hK _ ?_; clear hK K) | (apply Exists.intro; refine ⟨fun _ => ?_, hK _ ?_⟩; (fail); clear hK K))
  refine headC_nil ?_
  refine anyK_done (by kernel_rfl) ?_ 0
  intro w9 h9
  go_wp2
  go_ret
  exact ⟨rfl, Ext.trans HE.out h9⟩

theorem l1Told_any (n : Nat) (hn : n ≤ 255) (w : World) : Calls Tryd.prog 49 #[.int .i64 (n : Int)] w fun e w' => e = .returned (.string (tld n)) ∧ Ext w w' := by
  by_cases h1 : n < 10
  · exact l1Told_low n h1 w
  · refine l1Told_more n h1 (by omega) (fun w => ?_) w
    by_cases h2 : n / 10 < 10
    · exact l1Told_low _ h2 w
    · exact l1Told_more _ h2 (by omega) (fun w => l1Told_low _ (by omega) w) w

/-- An address's text. -/
def adr (f : Nat → Int) : ByteArray := ⟨(Lib.join [Lib.decDigits (f 0).toNat, Lib.decDigits (f 1).toNat, Lib.decDigits (f 2).toNat, Lib.decDigits (f 3).toNat] [46]).toArray⟩
def adrB (n : Nat) (f : Nat → Int) : ByteArray := if fourB n f then adr f else ⟨#[]⟩
theorem adr_eq (f : Nat → Int) : adr f = tld (f 0).toNat ++ ⟨#[46]⟩ ++ tld (f 1).toNat ++ ⟨#[46]⟩ ++ tld (f 2).toNat ++ ⟨#[46]⟩ ++ tld (f 3).toNat := by
  have e : (⟨#[46]⟩ : ByteArray) = ⟨([46] : List UInt8).toArray⟩ := rfl
  unfold adr tld
  rw [e, ba_app, ba_app, ba_app, ba_app, ba_app, ba_app]
  simp [Lib.join, List.intercalate, List.intersperse]

set_option maxHeartbeats 3200000 in
set_option maxRecDepth 100000 in
theorem specWrite_any (a : Option Addr) (b off n cap : Nat) (f : Nat → Int) (w : World) (hs : Seg w a b off n f) (hn : n ≤ 1048576) :
    Calls Tryd.prog 13 #[.slice a n cap] w fun e w' => e = .returned (.tuple #[.string (adrB n f), .bool (fourB n f)]) ∧ Ext w w' := by
  have HF := hide (l8Four_any a b off n cap f w hs hn)
  cases h4 : fourB n f
  · have hA : adrB n f = ⟨#[]⟩ := by unfold adrB; rw [h4]; rfl
    rw [hA]
    rw [h4] at HF
    go_enter Tryd.func13, Tryd.ntmps13
    go_wp2_with (go_at_call 48; refine HF.out.mono ?_; rintro e w1 ⟨rfl, hw⟩; obtain rfl := hw.symm)
    go_ret2
    exact ⟨rfl, Ext.refl _⟩
  · have hA : adrB n f = adr f := by unfold adrB; rw [h4]; rfl
    rw [hA]
    rw [h4] at HF
    have HA := hide (adr_eq f)
    generalize adr f = R at *
    obtain ⟨rfl, hf⟩ := four_is h4
    obtain rfl := hs.at' (by omega)
    obtain ⟨n0, e0⟩ := Int.eq_ofNat_of_zero_le (hf 0 (by omega)).1
    obtain ⟨n1, e1⟩ := Int.eq_ofNat_of_zero_le (hf 1 (by omega)).1
    obtain ⟨n2, e2⟩ := Int.eq_ofNat_of_zero_le (hf 2 (by omega)).1
    obtain ⟨n3, e3⟩ := Int.eq_ofNat_of_zero_le (hf 3 (by omega)).1
    have b0 := (hf 0 (by omega)).2
    have b1 := (hf 1 (by omega)).2
    have b2 := (hf 2 (by omega)).2
    have b3 := (hf 3 (by omega)).2
    have c0 := fun d os => cell_regrown (hs.cell 0 (by omega)) d os
    have c1 := fun d os => cell_regrown (hs.cell 1 (by omega)) d os
    have c2 := fun d os => cell_regrown (hs.cell 2 (by omega)) d os
    have c3 := fun d os => cell_regrown (hs.cell 3 (by omega)) d os
    rw [e0, e1, e2, e3] at HA
    rw [e0] at c0 b0
    simp only [Nat.add_zero] at c0
    rw [e1] at c1 b1
    rw [e2] at c2 b2
    rw [e3] at c3 b3
    simp only [Int.toNat_natCast] at HA
    have H0 : Hid (∀ (W : World) d os, Calls Tryd.prog 49 #[.int .i64 (n0 : Int)] (grow (redrawn W d) os) fun e w'' => e = .returned (.string (tld n0)) ∧ ∃ p : Regrown, w'' = grow (redrawn W p.d) p.os) := fun W d os => Calls.regrown_of (l1Told_any n0 (by omega) _)
    have H1 : Hid (∀ (W : World) d os, Calls Tryd.prog 49 #[.int .i64 (n1 : Int)] (grow (redrawn W d) os) fun e w'' => e = .returned (.string (tld n1)) ∧ ∃ p : Regrown, w'' = grow (redrawn W p.d) p.os) := fun W d os => Calls.regrown_of (l1Told_any n1 (by omega) _)
    have H2 : Hid (∀ (W : World) d os, Calls Tryd.prog 49 #[.int .i64 (n2 : Int)] (grow (redrawn W d) os) fun e w'' => e = .returned (.string (tld n2)) ∧ ∃ p : Regrown, w'' = grow (redrawn W p.d) p.os) := fun W d os => Calls.regrown_of (l1Told_any n2 (by omega) _)
    have H3 : Hid (∀ (W : World) d os, Calls Tryd.prog 49 #[.int .i64 (n3 : Int)] (grow (redrawn W d) os) fun e w'' => e = .returned (.string (tld n3)) ∧ ∃ p : Regrown, w'' = grow (redrawn W p.d) p.os) := fun W d os => Calls.regrown_of (l1Told_any n3 (by omega) _)
    have z0 := tld_size (n := n0) (by omega)
    have z1 := tld_size (n := n1) (by omega)
    have z2 := tld_size (n := n2) (by omega)
    have z3 := tld_size (n := n3) (by omega)
    clear hs hf h4 e0 e1 e2 e3 b0 b1 b2 b3
    generalize tld n0 = D0 at *
    generalize tld n1 = D1 at *
    generalize tld n2 = D2 at *
    generalize tld n3 = D3 at *
    replace HA := HA.out
    have zd : (⟨#[46]⟩ : ByteArray).size = 1 := rfl
    obtain ⟨S1, hS1⟩ : ∃ S, S = D0 ++ (⟨#[46]⟩ : ByteArray) := ⟨_, rfl⟩
    have q1 : S1.size ≤ 100 := by rw [hS1, ByteArray.size_append]; omega
    obtain ⟨S2, hS2⟩ : ∃ S, S = S1 ++ D1 := ⟨_, rfl⟩
    have q2 : S2.size ≤ 110 := by rw [hS2, ByteArray.size_append]; omega
    obtain ⟨S3, hS3⟩ : ∃ S, S = S2 ++ (⟨#[46]⟩ : ByteArray) := ⟨_, rfl⟩
    have q3 : S3.size ≤ 120 := by rw [hS3, ByteArray.size_append]; omega
    obtain ⟨S4, hS4⟩ : ∃ S, S = S3 ++ D2 := ⟨_, rfl⟩
    have q4 : S4.size ≤ 130 := by rw [hS4, ByteArray.size_append]; omega
    obtain ⟨S5, hS5⟩ : ∃ S, S = S4 ++ (⟨#[46]⟩ : ByteArray) := ⟨_, rfl⟩
    have q5 : S5.size ≤ 140 := by rw [hS5, ByteArray.size_append]; omega
    rw [← hS1, ← hS2, ← hS3, ← hS4, ← hS5] at HA
    have r1 := add_rule hS1 (by omega)
    have r2 := add_rule hS2 (by omega)
    have r3 := add_rule hS3 (by omega)
    have r4 := add_rule hS4 (by omega)
    have r5 := add_rule hS5 (by omega)
    have r6 := add_rule HA (by omega)
    clear hS1 hS2 hS3 hS4 hS5 HA q1 q2 q3 q4 q5 zd z0 z1 z2 z3
    go_enter Tryd.func13, Tryd.ntmps13
    go_wp2_with (go_at_call 48; refine HF.out.mono ?_; rintro e w1 ⟨rfl, hw⟩; obtain rfl := hw.symm)
    refine wp_region_quiet_below (by kernel_rfl) (by kernel_rfl) ?_
    repeat (first | go_big_quiet_step (first | (go_at_call_of 49 (n0); exact H0.out _ _ _) | (go_at_call_of 49 (n1); exact H1.out _ _ _) | (go_at_call_of 49 (n2); exact H2.out _ _ _) | (go_at_call_of 49 (n3); exact H3.out _ _ _)) | quiet_step (first | (go_at_call_of 49 (n0); exact H0.out _ _ _) | (go_at_call_of 49 (n1); exact H1.out _ _ _) | (go_at_call_of 49 (n2); exact H2.out _ _ _) | (go_at_call_of 49 (n3); exact H3.out _ _ _)))
    refine wpQuiet_nil ?_
    intro _ hw'
    obtain ⟨⟨dq, osq⟩, hw''⟩ := hw'
    subst hw''
    go_wp2
    go_ret2
    exact ⟨rfl, below_regrown _ _ _⟩

end Go.Proofs.YtjidlahgfkdipacDoor
