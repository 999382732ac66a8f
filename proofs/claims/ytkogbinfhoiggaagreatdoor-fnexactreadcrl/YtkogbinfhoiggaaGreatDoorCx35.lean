/- Walks: LongTime and ShortTime of both. Walks: LongTime and ShortTime of the model. Walks: times as pieces and as items. Lists of bytes as a field: measured, copied, compared. Lists of what is void in memory; the laws' own helpers over them (written by mkcrl.py). Walks: serials, times and seals that are right, of the program. -/
import Derived.Test.YtkogbinfhoiggaaGreatDoorCxA
import Derived.Test.YtkogbinfhoiggaaGreatDoorCx34
namespace Go.Proofs.YtkogbinfhoiggaaGreatDoor
set_option linter.unusedVariables false
set_option linter.unusedSimpArgs false
section
open Go.RowKit Go.Sort
def TabP (w : World) : Prop := Lib.TabIs Tryz.prog w "internal/strconv.uint64pow10" .u64 Lib.pow10Tab
theorem TabP.ext {w w' : World} (h : TabP w) (e : Ext w w') : TabP w' := Lib.tabBelow_of_tabIs h w' e
theorem add_rule {x y R : ByteArray} (h : R = x ++ y) (hs : x.size + y.size ≤ 1000) : ∀ W, (Op.stringOp .add x y).run Tryz.prog W = .ok (.string R) W := fun W => by rw [h]; exact run_string_add_sum W x y (by omega)
theorem ba_app (a b : List UInt8) : (⟨a.toArray⟩ : ByteArray) ++ (⟨b.toArray⟩ : ByteArray) = ⟨(a ++ b).toArray⟩ := by
 apply ByteArray.ext
 simp [ByteArray.data_append]
theorem itoa_any (n : Nat) (hn : n ≤ 9223372036854775807) (w : World) (hT : TabP w) : Calls Tryz.prog 155 #[.int .i64 (n : Int)] w fun e w' => e = .returned (.string ⟨(Lib.decDigits n).toArray⟩) ∧ Ext w w' := by
 refine (Tryz.strconv_Itoa (n : Int) (by omega) (by omega) w hT).mono ?_
 rintro e w' ⟨rfl, k, os, rfl⟩
 refine ⟨?_, rfl, rfl, rfl, by simp [grow], fun i hi => Array.getElem?_append_left hi⟩
 have : ¬ ((n : Int) < 0) := by omega
 unfold Lib.itoa
 rw [if_neg this, Int.toNat_natCast]
def GivesLong (t : Int) (w : World) (e : Ending) (w' : World) : Prop := ∃ y m d s : Nat, e = .returned (.tuple #[.string (longB y m d s), .bool true]) ∧ IsDay t y m d s ∧ Ext w w'
theorem s_parts {s : Nat} (h : s < 86400) : ∃ h r mi se : Nat, h = s / 3600 ∧ mi = s % 3600 / 60 ∧ se = s % 60 ∧ h ≤ 23 ∧ r < 3600 ∧ mi ≤ 59 ∧ se ≤ 59 ∧ Int.tdiv (s : Int) 3600 = (h : Int) ∧ Int.tmod (s : Int) 3600 = (r : Int) ∧ Int.tdiv (r : Int) 60 = (mi : Int) ∧ Int.tmod (s : Int) 60 = (se : Int) := by
 refine ⟨s / 3600, s % 3600, s % 3600 / 60, s % 60, rfl, rfl, rfl, by omega, by omega, by omega, by omega, ?_, ?_, ?_, ?_⟩
 ·rw [Int.tdiv_eq_ediv_of_nonneg (by omega)]; omega
 ·rw [Int.tmod_eq_emod_of_nonneg (by omega)]; omega
 ·rw [Int.tdiv_eq_ediv_of_nonneg (by omega)]; omega
 ·rw [Int.tmod_eq_emod_of_nonneg (by omega)]; omega
theorem w_small {n : Nat} (h : n ≤ 100000000000000) : wrap64 (n : Int) = n ∧ IntKind.i64.wrap (n : Int) = n := by
 refine ⟨by unfold wrap64; omega, by rw [IntKind.wrap_i64]; omega⟩
def nn (F : Nat → Nat) (y : Nat) : Nat → Nat
 | 0 => y
 | k + 1 => 100 * nn F y k + F k
theorem nn_le {F : Nat → Nat} {y : Nat} (hy : y ≤ 2099) (hF : ∀ i, F i ≤ 99) (k : Nat) : nn F y k + 1 ≤ 2100 * 100 ^ k := by
 induction k with
 | zero => simp [nn]; omega
 | succ k ih =>
  have := hF k
  rw [nn, Nat.pow_succ, ← Nat.mul_assoc]
  omega
theorem nn_lt {F : Nat → Nat} {y : Nat} (hy : y ≤ 2099) (hF : ∀ i, F i ≤ 99) {k : Nat} (hk : k ≤ 5) : nn F y k ≤ 21000000000000 := by
 have h1 := nn_le hy hF k
 have h2 : 100 ^ k ≤ 100 ^ 5 := Nat.pow_le_pow_right (by omega) hk
 have h3 : (100 : Nat) ^ 5 = 10000000000 := by decide
 rw [h3] at h2
 omega
def prt (m d h mi se : Nat) : Nat → Nat
 | 0 => m | 1 => d | 2 => h | 3 => mi | 4 => se | _ => 0
theorem n_step {n p : Nat} (h : n ≤ 21000000000000) (hp : p ≤ 99) : wrap64 (100 * (n : Int)) = ((100 * n : Nat) : Int) ∧ wrap64 (((100 * n : Nat) : Int) + (p : Int)) = ((100 * n + p : Nat) : Int) := by
 refine ⟨by unfold wrap64; omega, by unfold wrap64; omega⟩
theorem long_add {y m d s N5 : Nat} (h : DayOk y m d) (hs : s < 86400) (hN : N5 = numT y m d (s / 3600) (s % 3600 / 60) (s % 60)) : ∀ W, (Op.stringOp .add (⟨(Lib.decDigits N5).toArray⟩ : ByteArray) (⟨#[90]⟩ : ByteArray)).run Tryz.prog W = .ok (.string (longB y m d s)) W := by
 obtain ⟨y0, y1, m0, m1, d0, d1⟩ := tm_bounds h
 have HL : (⟨(Lib.decDigits N5).toArray⟩ : ByteArray) ++ (⟨#[90]⟩ : ByteArray) = longB y m d s := by
  rw [hN, show (⟨#[90]⟩ : ByteArray) = ⟨([90] : List UInt8).toArray⟩ from rfl, ba_app, dec_num y0 y1 m1 d1 hs]
  rfl
 refine add_rule HL.symm ?_
 have := congrArg ByteArray.size HL
 rw [ByteArray.size_append] at this
 have e2 : (longB y m d s).size = 15 := rfl
 omega
theorem ix5_0 (x0 x1 x2 x3 x4 : Int) (w : World) : (Instr.index 202 (.agg #[.int .i64 x0, .int .i64 x1, .int .i64 x2, .int .i64 x3, .int .i64 x4]) (.int .i64 0)).run Tryz.prog w = .ok (.int .i64 x0) w := by kernel_rfl
theorem ix5_1 (x0 x1 x2 x3 x4 : Int) (w : World) : (Instr.index 202 (.agg #[.int .i64 x0, .int .i64 x1, .int .i64 x2, .int .i64 x3, .int .i64 x4]) (.int .i64 1)).run Tryz.prog w = .ok (.int .i64 x1) w := by kernel_rfl
theorem ix5_2 (x0 x1 x2 x3 x4 : Int) (w : World) : (Instr.index 202 (.agg #[.int .i64 x0, .int .i64 x1, .int .i64 x2, .int .i64 x3, .int .i64 x4]) (.int .i64 2)).run Tryz.prog w = .ok (.int .i64 x2) w := by kernel_rfl
theorem ix5_3 (x0 x1 x2 x3 x4 : Int) (w : World) : (Instr.index 202 (.agg #[.int .i64 x0, .int .i64 x1, .int .i64 x2, .int .i64 x3, .int .i64 x4]) (.int .i64 3)).run Tryz.prog w = .ok (.int .i64 x3) w := by kernel_rfl
theorem ix5_4 (x0 x1 x2 x3 x4 : Int) (w : World) : (Instr.index 202 (.agg #[.int .i64 x0, .int .i64 x1, .int .i64 x2, .int .i64 x3, .int .i64 x4]) (.int .i64 4)).run Tryz.prog w = .ok (.int .i64 x4) w := by kernel_rfl
theorem ix5 (m d h mi se : Nat) (k : Nat) (hk : k < 5) (w : World) : (Instr.index 202 (.agg #[.int .i64 (m : Int), .int .i64 (d : Int), .int .i64 (h : Int), .int .i64 (mi : Int), .int .i64 (se : Int)]) (.int .i64 (k : Int))).run Tryz.prog w = .ok (.int .i64 (prt m d h mi se k : Int)) w := by
 have : k = 0 ∨ k = 1 ∨ k = 2 ∨ k = 3 ∨ k = 4 := by omega
 rcases this with rfl | rfl | rfl | rfl | rfl
 ·exact ix5_0 _ _ _ _ _ w
 ·exact ix5_1 _ _ _ _ _ w
 ·exact ix5_2 _ _ _ _ _ w
 ·exact ix5_3 _ _ _ _ _ w
 ·exact ix5_4 _ _ _ _ _ w
set_option maxHeartbeats 1600000 in
set_option maxRecDepth 100000 in
theorem implLong_yes (t : Int) (h : inT t) (w : World) (hT : MTab w) (hP : TabP w) : Calls Tryz.prog 148 #[.int .i64 t] w fun e w' => GivesLong t w e w' := by
 have HO := hide (isTime_any t w)
 rw [decide_eq_true h] at HO
 have HD := hide (implDayOf_yes t h w hT)
 have HP := hide hP
 clear h hT hP
 go_enter Tryz.func148, Tryz.ntmps148
 go_wp2_with (first | (go_at_call 119; refine HO.out.mono ?_; rintro e w1 ⟨rfl, hw⟩; obtain rfl := hw.symm) | (go_at_call 154; fail))
 refine HD.out.mono ?_
 rintro e w1 ⟨y, m, d, s, rfl, hI, hE⟩
 have HI := hide hI
 have HE := hide hE
 obtain ⟨hh, r, mi, se, a1, a2, a3, b1, b2, b3, b4, c1, c2, c3, c4⟩ := s_parts hI.s1
 have HC := hide (And.intro c1 (And.intro c2 (And.intro c3 c4)))
 clear c1 c2 c3 c4
 have HW := hide (And.intro (w_small (n := hh) (by omega)) (And.intro (w_small (n := r) (by omega)) (And.intro (w_small (n := mi) (by omega)) (w_small (n := se) (by omega)))))
 have HF : Hid (∀ i, prt m d hh mi se i ≤ 99) := fun i => by
  have := hI.m1
  have := Nat.le_trans hI.d1 (md_le y m)
  unfold prt; split <;> omega
 have Hle : Hid (∀ k, k ≤ 5 → nn (prt m d hh mi se) y k ≤ 21000000000000) := fun k hk => nn_lt hI.y1 HF.out hk
 have hN : nn (prt m d hh mi se) y 5 = numT y m d (s / 3600) (s % 3600 / 60) (s % 60) := by rw [← a1, ← a2, ← a3]; rfl
 have HIt := hide (itoa_any (nn (prt m d hh mi se) y 5) (by have := Hle.out 5 (by omega); omega) w1 (HP.out.ext hE))
 have hadd := long_add hI.toDayOk hI.s1 hN
 have HS : Hid (∀ k, nn (prt m d hh mi se) y (k + 1) = 100 * nn (prt m d hh mi se) y k + prt m d hh mi se k) := fun k => rfl
 have H0 : Hid (nn (prt m d hh mi se) y 0 = y) := rfl
 have HX : Hid (∀ k : Nat, k < 5 → ∀ W, (Instr.index 202 (.agg #[.int .i64 (m : Int), .int .i64 (d : Int), .int .i64 (hh : Int), .int .i64 (mi : Int), .int .i64 (se : Int)]) (.int .i64 (k : Int))).run Tryz.prog W = .ok (.int .i64 (prt m d hh mi se k : Int)) W) := fun k hk W => ix5 m d hh mi se k hk W
 generalize (⟨(Lib.decDigits (nn (prt m d hh mi se) y 5)).toArray⟩ : ByteArray) = SN at *
 generalize hLL : longB y m d s = L at *
 have HLL := hide hLL
 generalize prt m d hh mi se = F at *
 generalize nn F y = NN at *
 clear HP hI hE hN hLL a1 a2 a3 b1 b2 b3 b4
 obtain ⟨c1, c2, c3, c4⟩ := HC.out
 obtain ⟨⟨p1, q1⟩, ⟨p2, q2⟩, ⟨p3, q3⟩, ⟨p4, q4⟩⟩ := HW.out
 clear HC HW
 go_wp2
 clear c1 c2 c3 c4 p1 q1 p2 q2 p3 q3 p4 q4
 go_loop [11, 38] (fun nv iv => ∃ k : Nat, k ≤ 5 ∧ iv = .int .i64 (k : Int) ∧ nv = .int .i64 (NN k : Int)) (fun _ iv => 5 - (intOf iv).toNat)
 case atStart => exact ⟨0, by omega, rfl, by rw [H0.out]⟩
 case round =>
  obtain ⟨k, hk, rfl, rfl⟩ := hrel
  by_cases hlt : k < 5
  ·have hix := HX.out k hlt
   have hl5 : (k : Int) < 5 := by omega
   have hs := HS.out k
   obtain ⟨e1, e2⟩ := n_step (Hle.out k hk) (HF.out k)
   rw [← hs] at e2
   clear hs
   generalize hA : 100 * NN k = A at *
   generalize hB : NN (k + 1) = B at *
   have HB := hide hB
   clear hA hB
   generalize NN k = C at *
   generalize F k = f at *
   go_wp2
   go_round
   case rel => exact ⟨k + 1, hlt, by clear e1 e2; go_num, (by rw [HB.out, ← e2])⟩
   case measure => clear e1 e2; simp [intOf]; omega
  ·obtain rfl : k = 5 := by omega
   generalize NN 5 = N5 at *
   go_wp2_with (go_at_call 155; refine HIt.out.mono ?_; rintro e w2 ⟨rfl, hE2⟩; have HE2 := hide hE2; clear hE2)
   go_ret2
   exact ⟨y, m, d, s, (by rw [HLL.out]; rfl), HI.out, Ext.trans HE.out HE2.out⟩
theorem implLong_no (t : Int) (h : ¬ inT t) (w : World) : Calls Tryz.prog 148 #[.int .i64 t] w fun e w' => e = .returned (.tuple #[.string ⟨#[]⟩, .bool false]) ∧ w' = w := by
 have HO := hide (isTime_any t w)
 rw [decide_eq_false h] at HO
 clear h
 go_enter Tryz.func148, Tryz.ntmps148
 go_wp2_with (go_at_call 119; refine HO.out.mono ?_; rintro e w1 ⟨rfl, hw⟩; obtain rfl := hw.symm)
 go_ret2
 exact ⟨rfl, rfl⟩
theorem IsDay.short {t : Int} {y m d s : Nat} (h : IsDay t y m d s) : y ≤ 2049 ↔ t ≤ 2524607999 := by
 have hs := h.s1
 have ht := h.t1
 obtain ⟨a1, a2, -, -⟩ := h.toDayOk.lt
 have y0 := h.y0
 unfold tmV at ht
 constructor
 ·intro hy
  have := Yd_mono (k := y - 1950) (n := 100) (by omega)
  have e : Yd 100 = 36525 := rfl
  omega
 ·intro hle
  by_cases hy : y ≤ 2049
  ·exact hy
  ·have := Yd_mono (k := 99) (n := y - 1950) (by omega)
   have e : Yd (99 + 1) = 36525 := rfl
   omega
def GivesShort (t : Int) (w : World) (e : Ending) (w' : World) : Prop := ∃ y m d s : Nat, e = .returned (.tuple #[.string (shortB y m d s), .bool true]) ∧ IsDay t y m d s ∧ Ext w w'
theorem long_cut (y m d s : Nat) : (longB y m d s).extract 2 15 = shortB y m d s := by
 apply ByteArray.ext
 rw [ByteArray.data_extract]
 show (longL y m d s).toArray.extract 2 15 = (shortL y m d s).toArray
 rw [List.extract_toArray]
 rfl
set_option maxHeartbeats 800000 in
theorem implShort_yes (t : Int) (h : inT t) (h2 : t ≤ 2524607999) (w : World) (hT : MTab w) (hP : TabP w) : Calls Tryz.prog 147 #[.int .i64 t] w fun e w' => GivesShort t w e w' := by
 have HD : Hid (∀ W, Ext w W → Calls Tryz.prog 154 #[.int .i64 t] W fun e w' => GivesDay t W e w') := fun W k => implDayOf_yes t h W (hT.ext k)
 have HL := hide (implLong_yes t h w hT hP)
 have H2 := hide h2
 clear h hT hP h2
 go_enter Tryz.func147, Tryz.ntmps147
 go_wp2_with fail
 refine HL.out.mono ?_
 rintro e w1 ⟨y, m, d, s, rfl, hI, hE⟩
 have HE := hide hE
 have HI := hide hI
 clear hI hE
 have hz : (longB y m d s).size = 15 := rfl
 have hx := long_cut y m d s
 generalize longB y m d s = L at *
 generalize hS : shortB y m d s = S at *
 have HS := hide hS
 clear hS
 go_wp2_with fail
 refine (HD.out _ HE.out).mono ?_
 rintro e w2 ⟨y2, m2, d2, s2, rfl, hI2, hE2⟩
 obtain ⟨hy, hm, hd, hs⟩ := HI.out.unique hI2
 subst hy hm hd hs
 have hle : ¬ (2049 : Int) < (y : Int) := by have := HI.out.short.2 H2.out; omega
 replace HE := hide (Ext.trans HE.out hE2)
 clear hI2 hE2
 go_wp2
 go_ret2
 exact ⟨y, m, d, s, (by rw [HS.out]; rfl), HI.out, HE.out⟩
set_option maxHeartbeats 800000 in
theorem implShort_no (t : Int) (h : ¬ (inT t ∧ t ≤ 2524607999)) (w : World) (hT : MTab w) (hP : TabP w) : Calls Tryz.prog 147 #[.int .i64 t] w fun e w' => e = .returned (.tuple #[.string ⟨#[]⟩, .bool false]) ∧ Ext w w' := by
 by_cases hi : inT t
 ·have h2 : ¬ t ≤ 2524607999 := fun x => h ⟨hi, x⟩
  have HD : Hid (∀ W, Ext w W → Calls Tryz.prog 154 #[.int .i64 t] W fun e w' => GivesDay t W e w') := fun W k => implDayOf_yes t hi W (hT.ext k)
  have HL := hide (implLong_yes t hi w hT hP)
  have H2 := hide h2
  clear h hi hT hP h2
  go_enter Tryz.func147, Tryz.ntmps147
  go_wp2_with fail
  refine HL.out.mono ?_
  rintro e w1 ⟨y, m, d, s, rfl, hI, hE⟩
  have HE := hide hE
  have HI := hide hI
  clear hI hE
  generalize longB y m d s = L at *
  go_wp2_with fail
  refine (HD.out _ HE.out).mono ?_
  rintro e w2 ⟨y2, m2, d2, s2, rfl, hI2, hE2⟩
  have hle : (2049 : Int) < (y2 : Int) := by
   have := H2.out
   have h3 := hI2.short
   omega
  replace HE := hide (Ext.trans HE.out hE2)
  clear hI2 hE2
  go_wp2
  go_ret2
  exact ⟨rfl, HE.out⟩
 ·have HL := hide (implLong_no t hi w)
  have HD := hide (implDayOf_no t hi w)
  clear h hi hT hP
  go_enter Tryz.func147, Tryz.ntmps147
  go_wp2_with fail
  refine HL.out.mono ?_
  rintro e w1 ⟨rfl, hw⟩
  obtain rfl := hw.symm
  go_wp2_with fail
  refine HD.out.mono ?_
  rintro e w1 ⟨rfl, hw⟩
  obtain rfl := hw.symm
  go_wp2
  go_ret2
  exact ⟨rfl, Ext.refl _⟩
/-! The model's texts. -/
theorem bseg_new2 (w : World) (x y : Int) : BSeg (w.alloc (.cells #[.int .u8 x, .int .u8 y] 5)) (some ⟨w.heap.size, 0, none⟩) w.heap.size 0 2 (fun i => if i = 0 then x else y) :=
 ⟨fun _ => rfl, fun i hi => by
  have : i = 0 ∨ i = 1 := by omega
  rcases this with rfl | rfl
  ·exact (Blk.alloc w [.int .u8 x, .int .u8 y] 5 0 _ rfl).1
  ·exact (Blk.alloc w [.int .u8 x, .int .u8 y] 5 1 _ rfl).1⟩
def twoB (n : Nat) : ByteArray := ⟨(two n).toArray⟩
theorem two_str (a b : Nat) : strOfNums (nums (fun i => if i = 0 then 48 + (a : Int) else 48 + (b : Int)) 2) = ⟨([UInt8.ofNat (48 + a), UInt8.ofNat (48 + b)] : List UInt8).toArray⟩ := by
 have e : (48 + (a : Int)).toNat = 48 + a := by omega
 have e' : (48 + (b : Int)).toNat = 48 + b := by omega
 show (⟨([UInt8.ofNat (48 + (a : Int)).toNat, UInt8.ofNat (48 + (b : Int)).toNat] : List UInt8).toArray⟩ : ByteArray) = _
 rw [e, e']
theorem two_nums {n : Nat} : ∃ q a b : Nat, a = n / 10 % 10 ∧ b = n % 10 ∧ Int.tdiv (n : Int) 10 = (q : Int) ∧ Int.tmod (q : Int) 10 = (a : Int) ∧ Int.tmod (n : Int) 10 = (b : Int) ∧ q = n / 10 := by
 refine ⟨n / 10, n / 10 % 10, n % 10, rfl, rfl, ?_, ?_, ?_, rfl⟩
 ·rw [Int.tdiv_eq_ediv_of_nonneg (by omega)]; omega
 ·rw [Int.tmod_eq_emod_of_nonneg (by omega)]; omega
 ·rw [Int.tmod_eq_emod_of_nonneg (by omega)]; omega
theorem dig_wraps {k : Nat} (hk : k ≤ 10) : wrap64 (48 + (k : Int)) = 48 + k ∧ IntKind.i64.wrap (48 + (k : Int)) = 48 + k ∧ IntKind.u8.wrap (48 + (k : Int)) = 48 + k := by
 refine ⟨by unfold wrap64; omega, by rw [IntKind.wrap_i64]; omega, by rw [IntKind.wrap_u8]; omega⟩
set_option maxHeartbeats 800000 in
theorem l9Two_any (n : Nat) (hn : n ≤ 3000) (w : World) : Calls Tryz.prog 132 #[.int .i64 (n : Int)] w fun e w' => e = .returned (.string (twoB n)) ∧ Ext w w' := by
 obtain ⟨q, a, b, ha, hb, c1, c2, c3, hq⟩ := two_nums (n := n)
 have HR : Hid (strOfNums (nums (fun i => if i = 0 then 48 + (a : Int) else 48 + (b : Int)) 2) = twoB n) := by
  show _ = _
  rw [two_str, ha, hb]
  rfl
 have HW := hide (And.intro (dig_wraps (k := a) (by omega)) (And.intro (dig_wraps (k := b) (by omega)) (And.intro (w_small (n := q) (by omega)) (And.intro (w_small (n := a) (by omega)) (w_small (n := b) (by omega))))))
 clear ha hb hq
 obtain ⟨⟨e1, e2, e3⟩, ⟨f1, f2, f3⟩, ⟨g1, g2⟩, ⟨k1, k2⟩, ⟨l1, l2⟩⟩ := HW.out
 have hcv := conv_seg (cap := 2) (bseg_new2 w (48 + (a : Int)) (48 + (b : Int)))
 rw [HR.out] at hcv
 generalize twoB n = T at *
 clear HW HR
 go_enter Tryz.func132, Tryz.ntmps132
 go_wp2
 go_ret
 exact ⟨rfl, Ext.alloc _ _⟩
theorem l_parts {s : Nat} (h : s < 86400) : ∃ a q b c : Nat, a = s / 3600 ∧ b = s / 60 % 60 ∧ c = s % 60 ∧ a ≤ 23 ∧ q ≤ 1440 ∧ b ≤ 59 ∧ c ≤ 59 ∧ Int.tdiv (s : Int) 3600 = (a : Int) ∧ Int.tdiv (s : Int) 60 = (q : Int) ∧ Int.tmod (q : Int) 60 = (b : Int) ∧ Int.tmod (s : Int) 60 = (c : Int) := by
 refine ⟨s / 3600, s / 60, s / 60 % 60, s % 60, rfl, rfl, rfl, by omega, by omega, by omega, by omega, ?_, ?_, ?_, ?_⟩
 ·rw [Int.tdiv_eq_ediv_of_nonneg (by omega)]; omega
 ·rw [Int.tdiv_eq_ediv_of_nonneg (by omega)]; omega
 ·rw [Int.tmod_eq_emod_of_nonneg (by omega)]; omega
 ·rw [Int.tmod_eq_emod_of_nonneg (by omega)]; omega
def restB (m d s : Nat) : ByteArray := ⟨(restL m d s).toArray⟩
theorem twoB_size (n : Nat) : (twoB n).size = 2 := rfl
theorem restB_eq (m d s : Nat) : restB m d s = twoB m ++ twoB d ++ twoB (s / 3600) ++ twoB (s / 60 % 60) ++ twoB (s % 60) ++ ⟨#[90]⟩ := by
 unfold restB twoB restL
 rw [show (⟨#[90]⟩ : ByteArray) = ⟨([90] : List UInt8).toArray⟩ from rfl, ba_app, ba_app, ba_app, ba_app, ba_app]
 simp only [List.append_assoc]
theorem longB_eq (y m d s : Nat) : longB y m d s = twoB (y / 100) ++ twoB y ++ restB m d s := by
 unfold longB restB twoB longL
 rw [ba_app, ba_app]
 simp only [List.append_assoc]
theorem shortB_eq (y m d s : Nat) : shortB y m d s = twoB y ++ restB m d s := by
 unfold shortB restB twoB shortL
 rw [ba_app]
theorem reg_of {f : Nat} {args : Array Value} {v : Value} (H : ∀ W, Calls Tryz.prog f args W fun e w' => e = .returned v ∧ Ext W w') : Hid (∀ W, Calls Tryz.prog f args W fun e w' => e = .returned v ∧ Ext W w') := H
set_option maxHeartbeats 1600000 in
set_option maxRecDepth 100000 in
theorem l9Rest_any (m d s : Nat) (hm : m ≤ 100) (hd : d ≤ 100) (hs : s < 86400) (w : World) : Calls Tryz.prog 133 #[.int .i64 (m : Int), .int .i64 (d : Int), .int .i64 (s : Int)] w fun e w' => e = .returned (.string (restB m d s)) ∧ Ext w w' := by
 have HA := hide (restB_eq m d s)
 obtain ⟨a, q, b, c, ha, hb, hc, ka, kq, kb, kc, c1, c2, c3, c4⟩ := l_parts hs
 rw [← ha, ← hb, ← hc] at HA
 have HC := hide (And.intro c1 (And.intro c2 (And.intro c3 c4)))
 clear c1 c2 c3 c4 ha hb hc
 have H0 := reg_of (fun W => l9Two_any m (by omega) W)
 have H1 := reg_of (fun W => l9Two_any d (by omega) W)
 have H2 := reg_of (fun W => l9Two_any a (by omega) W)
 have H3 := reg_of (fun W => l9Two_any b (by omega) W)
 have H4 := reg_of (fun W => l9Two_any c (by omega) W)
 have HW := hide (And.intro (w_small (n := a) (by omega)) (And.intro (w_small (n := q) (by omega)) (And.intro (w_small (n := b) (by omega)) (w_small (n := c) (by omega)))))
 have z0 := twoB_size m
 have z1 := twoB_size d
 have z2 := twoB_size a
 have z3 := twoB_size b
 have z4 := twoB_size c
 generalize restB m d s = R at *
 generalize twoB m = D0 at *
 generalize twoB d = D1 at *
 generalize twoB a = D2 at *
 generalize twoB b = D3 at *
 generalize twoB c = D4 at *
 clear hm hd hs ka kq kb kc
 replace HA := HA.out
 have zd : (⟨#[90]⟩ : ByteArray).size = 1 := rfl
 obtain ⟨S1, hS1⟩ : ∃ S, S = D0 ++ D1 := ⟨_, rfl⟩
 have q1 : S1.size ≤ 100 := by rw [hS1, ByteArray.size_append]; omega
 obtain ⟨S2, hS2⟩ : ∃ S, S = S1 ++ D2 := ⟨_, rfl⟩
 have q2 : S2.size ≤ 110 := by rw [hS2, ByteArray.size_append]; omega
 obtain ⟨S3, hS3⟩ : ∃ S, S = S2 ++ D3 := ⟨_, rfl⟩
 have q3 : S3.size ≤ 120 := by rw [hS3, ByteArray.size_append]; omega
 obtain ⟨S4, hS4⟩ : ∃ S, S = S3 ++ D4 := ⟨_, rfl⟩
 have q4 : S4.size ≤ 130 := by rw [hS4, ByteArray.size_append]; omega
 rw [← hS1, ← hS2, ← hS3, ← hS4] at HA
 have r1 := add_rule hS1 (by omega)
 have r2 := add_rule hS2 (by omega)
 have r3 := add_rule hS3 (by omega)
 have r4 := add_rule hS4 (by omega)
 have r5 := add_rule HA (by omega)
 clear hS1 hS2 hS3 hS4 HA q1 q2 q3 q4 zd z0 z1 z2 z3 z4
 obtain ⟨c1, c2, c3, c4⟩ := HC.out
 obtain ⟨⟨p1, u1⟩, ⟨p2, u2⟩, ⟨p3, u3⟩, ⟨p4, u4⟩⟩ := HW.out
 clear HC HW
 go_enter Tryz.func133, Tryz.ntmps133
 have HE := hide (Ext.refl w)
 go_wp2_with (first | (go_at_call_of 132 (m); refine (H0.out _).mono ?_; rintro e w' ⟨rfl, hE'⟩; replace HE := hide (Ext.trans HE.out hE'); clear hE') | (go_at_call_of 132 (d); refine (H1.out _).mono ?_; rintro e w' ⟨rfl, hE'⟩; replace HE := hide (Ext.trans HE.out hE'); clear hE') | (go_at_call_of 132 (a); refine (H2.out _).mono ?_; rintro e w' ⟨rfl, hE'⟩; replace HE := hide (Ext.trans HE.out hE'); clear hE') | (go_at_call_of 132 (b); refine (H3.out _).mono ?_; rintro e w' ⟨rfl, hE'⟩; replace HE := hide (Ext.trans HE.out hE'); clear hE') | (go_at_call_of 132 (c); refine (H4.out _).mono ?_; rintro e w' ⟨rfl, hE'⟩; replace HE := hide (Ext.trans HE.out hE'); clear hE'))
 go_ret
 exact ⟨rfl, HE.out⟩
set_option maxHeartbeats 1600000 in
set_option maxRecDepth 100000 in
theorem specLong_yes (t : Int) (h : inT t) (w : World) : Calls Tryz.prog 109 #[.int .i64 t] w fun e w' => GivesLong t w e w' := by
 have HD := hide (specDayOf_yes t h w)
 clear h
 go_enter Tryz.func109, Tryz.ntmps109
 go_wp2_with fail
 refine HD.out.mono ?_
 rintro e w1 ⟨y, m, d, s, rfl, hI, hE⟩
 have HI := hide hI
 have HE := hide hE
 obtain ⟨y0, y1, m0, m1, d0, d1⟩ := tm_bounds hI.toDayOk
 have hy0 : ((y : Int) == 0) = false := by simp; omega
 obtain ⟨q, hq⟩ : ∃ q, q = y / 100 := ⟨_, rfl⟩
 have hq20 : q ≤ 20 := by omega
 have hqd : Int.tdiv (y : Int) 100 = (q : Int) := by rw [Int.tdiv_eq_ediv_of_nonneg (by omega)]; omega
 obtain ⟨p1, u1⟩ := w_small (n := q) (by omega)
 have H0 := reg_of (fun W => l9Two_any q (by omega) W)
 have H1 := reg_of (fun W => l9Two_any y (by omega) W)
 have H2 := reg_of (fun W => l9Rest_any m d s (by omega) (by omega) hI.s1 W)
 have HA := longB_eq y m d s
 rw [← hq] at HA
 have z0 := twoB_size q
 have z1 := twoB_size y
 have z2 : (restB m d s).size = 11 := rfl
 generalize hLL : longB y m d s = L at *
 have HLL := hide hLL
 generalize twoB q = D0 at *
 generalize twoB y = D1 at *
 generalize restB m d s = D2 at *
 obtain ⟨S1, hS1⟩ : ∃ S, S = D0 ++ D1 := ⟨_, rfl⟩
 have q1 : S1.size ≤ 100 := by rw [hS1, ByteArray.size_append]; omega
 rw [← hS1] at HA
 have r1 := add_rule hS1 (by omega)
 have r2 := add_rule HA (by omega)
 clear hS1 HA q1 z0 z1 z2 hLL hI hE y0 y1 m0 m1 d0 d1 hq hq20
 go_wp2_with (first | (go_at_call_of 132 (q); refine (H0.out _).mono ?_; rintro e w' ⟨rfl, hE'⟩; replace HE := hide (Ext.trans HE.out hE'); clear hE') | (go_at_call_of 132 (y); refine (H1.out _).mono ?_; rintro e w' ⟨rfl, hE'⟩; replace HE := hide (Ext.trans HE.out hE'); clear hE') | (go_at_call 133; refine (H2.out _).mono ?_; rintro e w' ⟨rfl, hE'⟩; replace HE := hide (Ext.trans HE.out hE'); clear hE'))
 go_ret2
 exact ⟨y, m, d, s, (by rw [HLL.out]; rfl), HI.out, HE.out⟩
set_option maxHeartbeats 1600000 in
set_option maxRecDepth 100000 in
theorem specShort_yes (t : Int) (h : inT t) (h2 : t ≤ 2524607999) (w : World) : Calls Tryz.prog 108 #[.int .i64 t] w fun e w' => GivesShort t w e w' := by
 have HD := hide (specDayOf_yes t h w)
 have Ht := hide h2
 clear h h2
 go_enter Tryz.func108, Tryz.ntmps108
 go_wp2_with fail
 refine HD.out.mono ?_
 rintro e w1 ⟨y, m, d, s, rfl, hI, hE⟩
 have HI := hide hI
 have HE := hide hE
 obtain ⟨y0, y1, m0, m1, d0, d1⟩ := tm_bounds hI.toDayOk
 have y49 : y ≤ 2049 := hI.short.2 Ht.out
 have HR := hide (l1In_yes (y : Int) 1950 2049 w1 (by omega) (by omega))
 have H1 := reg_of (fun W => l9Two_any y (by omega) W)
 have H2 := reg_of (fun W => l9Rest_any m d s (by omega) (by omega) hI.s1 W)
 have HA := shortB_eq y m d s
 have z1 := twoB_size y
 have z2 : (restB m d s).size = 11 := rfl
 generalize hLL : shortB y m d s = L at *
 have HLL := hide hLL
 generalize twoB y = D1 at *
 generalize restB m d s = D2 at *
 have r2 := add_rule HA (by omega)
 clear HA z1 z2 hLL hI hE y0 y1 m0 m1 d0 d1 y49
 go_wp2_with (first | (go_at_call 132; refine (H1.out _).mono ?_; rintro e w' ⟨rfl, hE'⟩; replace HE := hide (Ext.trans HE.out hE'); clear hE') | (go_at_call 133; refine (H2.out _).mono ?_; rintro e w' ⟨rfl, hE'⟩; replace HE := hide (Ext.trans HE.out hE'); clear hE') | (go_at_call 64; refine HR.out.mono ?_; rintro e w2 ⟨rfl, hw⟩; obtain rfl := hw.symm))
 go_ret2
 exact ⟨y, m, d, s, (by rw [HLL.out]; rfl), HI.out, HE.out⟩
theorem specShort_no (t : Int) (h : ¬ (inT t ∧ t ≤ 2524607999)) (w : World) : Calls Tryz.prog 108 #[.int .i64 t] w fun e w' => e = .returned (.tuple #[.string ⟨#[]⟩, .bool false]) ∧ Ext w w' := by
 by_cases hi : inT t
 ·have h2 : ¬ t ≤ 2524607999 := fun x => h ⟨hi, x⟩
  have HD := hide (specDayOf_yes t hi w)
  have Ht := hide h2
  clear h hi h2
  go_enter Tryz.func108, Tryz.ntmps108
  go_wp2_with fail
  refine HD.out.mono ?_
  rintro e w1 ⟨y, m, d, s, rfl, hI, hE⟩
  have HE := hide hE
  have HR := hide (l1In_no (y : Int) 1950 2049 w1 (by have := Ht.out; have := hI.short; omega))
  clear hE hI
  go_wp2_with (go_at_call 64; refine HR.out.mono ?_; rintro e w2 ⟨rfl, hw⟩; obtain rfl := hw.symm)
  go_ret2
  exact ⟨rfl, HE.out⟩
 ·have HD := hide (specDayOf_no t hi w)
  have HR := hide (l1In_no 0 1950 2049 w (by omega))
  clear h hi
  go_enter Tryz.func108, Tryz.ntmps108
  go_wp2_with fail
  refine HD.out.mono ?_
  rintro e w1 ⟨rfl, hw⟩
  obtain rfl := hw.symm
  go_wp2_with (go_at_call 64; refine HR.out.mono ?_; rintro e w2 ⟨rfl, hw⟩; obtain rfl := hw.symm)
  go_ret2
  exact ⟨rfl, Ext.refl _⟩
end
section
open Go.RowKit
def DayG (g : Int → Nat × Nat × Nat × Nat) : Prop := ∀ t y m d s, IsDay t y m d s → g t = (y, m, d, s)
theorem dayG_ex : ∃ g, DayG g := by
 refine ⟨fun t => Classical.epsilon fun q : Nat × Nat × Nat × Nat => IsDay t q.1 q.2.1 q.2.2.1 q.2.2.2, fun t y m d s h => ?_⟩
 have h2 := Classical.epsilon_spec (p := fun q : Nat × Nat × Nat × Nat => IsDay t q.1 q.2.1 q.2.2.1 q.2.2.2) ⟨(y, m, d, s), h⟩
 show Classical.epsilon (fun q : Nat × Nat × Nat × Nat => IsDay t q.1 q.2.1 q.2.2.1 q.2.2.2) = (y, m, d, s)
 generalize Classical.epsilon (fun q : Nat × Nat × Nat × Nat => IsDay t q.1 q.2.1 q.2.2.1 q.2.2.2) = q at *
 obtain ⟨e1, e2, e3, e4⟩ := h2.unique h
 obtain ⟨a, b, c, f⟩ := q
 simp only at e1 e2 e3 e4
 subst e1 e2 e3 e4
 rfl
def stB (g : Int → Nat × Nat × Nat × Nat) (t : Int) : ByteArray := shortB (g t).1 (g t).2.1 (g t).2.2.1 (g t).2.2.2
def ltB (g : Int → Nat × Nat × Nat × Nat) (t : Int) : ByteArray := longB (g t).1 (g t).2.1 (g t).2.2.1 (g t).2.2.2
theorem stB_size (g : Int → Nat × Nat × Nat × Nat) (t : Int) : (stB g t).size = 13 := rfl
theorem ltB_size (g : Int → Nat × Nat × Nat × Nat) (t : Int) : (ltB g t).size = 15 := rfl
def tiC (g : Int → Nat × Nat × Nat × Nat) (t : Int) : Ic := if t ≤ 2524607999 then txC 23 (stB g t) else txC 24 (ltB g t)
theorem tiC_len (g : Int → Nat × Nat × Nat × Nat) (t : Int) : (tiC g t).bd.length ≤ 15 := by
 unfold tiC
 split
 ·show ((List.range (stB g t).size).map _).length ≤ 15
  rw [stB_size]; simp
 ·show ((List.range (ltB g t).size).map _).length ≤ 15
  rw [ltB_size]; simp
def GivesTx (w : World) (s : ByteArray) (e : Ending) (w' : World) : Prop := e = .returned (.tuple #[.string s, .bool true]) ∧ Ext w w'
theorem GivesShort.tx {g : Int → Nat × Nat × Nat × Nat} (hg : DayG g) {t : Int} {w w' : World} {e : Ending} (h : GivesShort t w e w') : GivesTx w (stB g t) e w' := by
 obtain ⟨y, m, d, s, rfl, hd, hE⟩ := h
 exact ⟨by unfold stB; rw [hg _ _ _ _ _ hd], hE⟩
theorem GivesLong.tx {g : Int → Nat × Nat × Nat × Nat} (hg : DayG g) {t : Int} {w w' : World} {e : Ending} (h : GivesLong t w e w') : GivesTx w (ltB g t) e w' := by
 obtain ⟨y, m, d, s, rfl, hd, hE⟩ := h
 exact ⟨by unfold ltB; rw [hg _ _ _ _ _ hd], hE⟩
set_option maxHeartbeats 1600000 in
theorem timePiece_any (g : Int → Nat × Nat × Nat × Nat) (hg : DayG g) (t : Int) (h : inT t) (w : World) (hT : MTab w) (hP : TabP w) : Calls Tryz.prog 129 #[.int .i64 t] w fun e w' => GivesPc w [tiC g t] e w' := by
 by_cases h2 : t ≤ 2524607999
 ·have HS := hide ((implShort_yes t h h2 w hT hP).mono fun e w' q => q.tx hg)
  have HC : Hid (tiC g t = ⟨23, 0, (List.range (stB g t).size).map (fun i => (bt (stB g t) i : Int))⟩) := hide (by unfold tiC; rw [if_pos h2]; rfl)
  generalize tiC g t = C at *
  generalize stB g t = s at *
  clear h h2 hT hP
  go_enter Tryz.func129, Tryz.ntmps129
  go_wp2_with fail
  refine HS.out.mono ?_
  rintro e w1 ⟨rfl, hE⟩
  have HE := hide hE
  clear hE HS
  have hcv := run_str w1 s
  have HO := hide (str_own w1 s)
  have HX := hide (strW_ext w1 s)
  generalize (fun i => (bt s i : Int)) = F at *
  generalize grownCap w1 s.size 0 5 = gc at *
  generalize strW w1 s = ws at *
  go_wp2_with fail
  refine (leafPiece_any 23 _ _ _ ws).mono ?_
  rintro e w2 ⟨rfl, hw⟩
  obtain rfl := hw.symm
  go_wp2
  go_ret
  exact ⟨_, _, rfl, Pce.leaf 23 HO.out (Below.size HE.out), by rw [List.map_cons, ct_one, HC.out]; rfl, HE.out.trans HX.out⟩
 ·have HS := hide (implShort_no t (fun k => h2 k.2) w hT hP)
  have HL : Hid (∀ W, Ext w W → Calls Tryz.prog 148 #[.int .i64 t] W fun e w' => GivesTx W (ltB g t) e w') := fun W hW => (implLong_yes t h W (hT.ext hW) (hP.ext hW)).mono fun e w' q => q.tx hg
  have HC : Hid (tiC g t = ⟨24, 0, (List.range (ltB g t).size).map (fun i => (bt (ltB g t) i : Int))⟩) := hide (by unfold tiC; rw [if_neg h2]; rfl)
  generalize tiC g t = C at *
  generalize ltB g t = s at *
  clear h h2 hT hP
  go_enter Tryz.func129, Tryz.ntmps129
  go_wp2_with fail
  refine HS.out.mono ?_
  rintro e w0 ⟨rfl, hE0⟩
  have HE0 := hide hE0
  clear hE0 HS
  go_wp2_with fail
  refine (HL.out _ HE0.out).mono ?_
  rintro e w1 ⟨rfl, hE⟩
  have HE := hide (HE0.out.trans hE)
  clear hE HL
  have hcv := run_str w1 s
  have HO := hide (str_own w1 s)
  have HX := hide (strW_ext w1 s)
  generalize (fun i => (bt s i : Int)) = F at *
  generalize grownCap w1 s.size 0 5 = gc at *
  generalize strW w1 s = ws at *
  go_wp2_with fail
  refine (leafPiece_any 24 _ _ _ ws).mono ?_
  rintro e w2 ⟨rfl, hw⟩
  obtain rfl := hw.symm
  go_wp2
  go_ret
  exact ⟨_, _, rfl, Pce.leaf 24 HO.out (Below.size HE.out), by rw [List.map_cons, ct_one, HC.out]; rfl, HE.out.trans HX.out⟩
set_option maxHeartbeats 1600000 in
theorem l10Time_any (g : Int → Nat × Nat × Nat × Nat) (hg : DayG g) (t : Int) (h : inT t) (w : World) : Calls Tryz.prog 74 #[.int .i64 t] w fun e w' => GivesIs w.heap.size w [tiC g t] e w' := by
 by_cases h2 : t ≤ 2524607999
 ·have HS := hide ((specShort_yes t h h2 w).mono fun e w' q => q.tx hg)
  have HC : Hid (tiC g t = ⟨23, 0, (List.range (stB g t).size).map (fun i => (bt (stB g t) i : Int))⟩) := hide (by unfold tiC; rw [if_pos h2]; rfl)
  generalize tiC g t = C at *
  generalize stB g t = s at *
  clear h h2
  go_enter Tryz.func74, Tryz.ntmps74
  go_wp2_with fail
  refine HS.out.mono ?_
  rintro e w1 ⟨rfl, hE⟩
  have HE := hide hE
  clear hE HS
  have hcv := run_str w1 s
  have HO := hide (str_own w1 s)
  have HX := hide (strW_ext w1 s)
  generalize (fun i => (bt s i : Int)) = F at *
  generalize grownCap w1 s.size 0 5 = gc at *
  generalize strW w1 s = ws at *
  have HI := hide (l10Item_any 23 (some ⟨w1.heap.size, 0, none⟩) w1.heap.size 0 s.size gc F w.heap.size ws HO.out (Below.size HE.out) (Nat.le_trans (Below.size HE.out) (Below.size HX.out)))
  go_wp2_with fail
  refine HI.out.mono ?_
  rintro e w2 ⟨v, L, rfl, hL, hC, hE2⟩
  have HL := hide hL
  have HLC := hide hC
  have HE2 := hide (HE.out.trans (HX.out.trans hE2))
  clear hL hC hE2 HI
  go_wp2
  go_ret
  exact ⟨_, L, rfl, HL.out, by rw [HLC.out, HC.out], HE2.out⟩
 ·have HS := hide (specShort_no t (fun k => h2 k.2) w)
  have HL : Hid (∀ W, Calls Tryz.prog 109 #[.int .i64 t] W fun e w' => GivesTx W (ltB g t) e w') := fun W => (specLong_yes t h W).mono fun e w' q => q.tx hg
  have HC : Hid (tiC g t = ⟨24, 0, (List.range (ltB g t).size).map (fun i => (bt (ltB g t) i : Int))⟩) := hide (by unfold tiC; rw [if_neg h2]; rfl)
  generalize tiC g t = C at *
  generalize ltB g t = s at *
  clear h h2
  go_enter Tryz.func74, Tryz.ntmps74
  go_wp2_with fail
  refine HS.out.mono ?_
  rintro e w0 ⟨rfl, hE0⟩
  have HE0 := hide hE0
  clear hE0 HS
  go_wp2_with fail
  refine (HL.out _).mono ?_
  rintro e w1 ⟨rfl, hE⟩
  have HE := hide (HE0.out.trans hE)
  clear hE HL
  have hcv := run_str w1 s
  have HO := hide (str_own w1 s)
  have HX := hide (strW_ext w1 s)
  generalize (fun i => (bt s i : Int)) = F at *
  generalize grownCap w1 s.size 0 5 = gc at *
  generalize strW w1 s = ws at *
  have HI := hide (l10Item_any 24 (some ⟨w1.heap.size, 0, none⟩) w1.heap.size 0 s.size gc F w.heap.size ws HO.out (Below.size HE.out) (Nat.le_trans (Below.size HE.out) (Below.size HX.out)))
  go_wp2_with fail
  refine HI.out.mono ?_
  rintro e w2 ⟨v, L, rfl, hL, hC, hE2⟩
  have HL := hide hL
  have HLC := hide hC
  have HE2 := hide (HE.out.trans (HX.out.trans hE2))
  clear hL hC hE2 HI
  go_wp2
  go_ret
  exact ⟨_, L, rfl, HL.out, by rw [HLC.out, HC.out], HE2.out⟩
def tmC (g : Int → Nat × Nat × Nat × Nat) (fr to : Int) : List Ic := ⟨48, 2, []⟩ :: ([tiC g fr] ++ [tiC g to])
set_option maxHeartbeats 1600000 in
theorem timesPiece_any (g : Int → Nat × Nat × Nat × Nat) (hg : DayG g) (fr to : Int) (h : inT fr) (k : inT to) (w : World) (hT : MTab w) (hP : TabP w) : Calls Tryz.prog 105 #[.int .i64 fr, .int .i64 to] w fun e w' => GivesPc w (tmC g fr to) e w' := by
 have H1 := hide (timePiece_any g hg fr h w hT hP)
 have H2 : Hid (∀ W, Ext w W → Calls Tryz.prog 129 #[.int .i64 to] W fun e w' => GivesPc W [tiC g to] e w') := fun W hW => timePiece_any g hg to k W (hT.ext hW) (hP.ext hW)
 have HC : Hid (tmC g fr to = ⟨48, 2, []⟩ :: ([tiC g fr] ++ [tiC g to])) := rfl
 generalize tmC g fr to = C at *
 have HN1 : Hid (1 = [tiC g fr].length) := rfl
 have HN2 : Hid (1 = [tiC g to].length) := rfl
 generalize [tiC g fr] = C1 at *
 generalize [tiC g to] = C2 at *
 clear h k hT hP
 go_enter Tryz.func105, Tryz.ntmps105
 go_wp2_with fail
 refine H1.out.mono ?_
 rintro e w1 ⟨v1, L1, rfl, h1, h1c, h1E⟩
 obtain ⟨T1, t1, a1, n1, c1, rfl⟩ := h1.form
 have HP1 := hide h1
 have H1c := hide h1c
 have H1E := hide h1E
 clear h1 h1c h1E H1
 go_wp2_with fail
 refine (H2.out _ H1E.out).mono ?_
 rintro e w2 ⟨v2, L2, rfl, h2, h2c, h2E⟩
 obtain ⟨T2, t2, a2, n2, c2, rfl⟩ := h2.form
 have hS := HP1.out.one.add (.of_ext h2E (Nat.le_refl _)) (Below.size h2E) h2 (Below.size H1E.out) (Below.size h2E)
 have HS := hide (hS.ext (Ext.alloc w2 (.cells #[.iface T1 (.agg #[.int .i64 t1, .slice a1 n1 c1]), .iface T2 (.agg #[.int .i64 t2, .slice a2 n2 c2])] 51)))
 have HW := hide (World.ownsRow_lit (e := 51) (size := 1) (base := w.heap.size) w2 #[.iface T1 (.agg #[.int .i64 t1, .slice a1 n1 c1]), .iface T2 (.agg #[.int .i64 t2, .slice a2 n2 c2])] 2 (Below.size (H1E.out.trans h2E)) (by decide) rfl)
 have HX := hide (H1E.out.trans (h2E.trans (Ext.alloc w2 (.cells #[.iface T1 (.agg #[.int .i64 t1, .slice a1 n1 c1]), .iface T2 (.agg #[.int .i64 t2, .slice a2 n2 c2])] 51))))
 have H2c := hide h2c
 have HK := hide (Pce.knot 48 (HS.out.wide (Nat.le_refl _) (Nat.le_refl _) HS.out.hi) HW.out (by have h1 := map_len H1c.out; have h2 := map_len h2c; rw [← HN1.out] at h1; rw [← HN2.out] at h2; simp [h1, h2]) (by simp))
 clear h2 h2c h2E hS H2
 go_wp2_with fail
 refine (listPiece_any _ _ _ _).mono ?_
 rintro e w3 ⟨rfl, hw⟩
 obtain rfl := hw.symm
 go_wp2
 go_ret
 exact ⟨_, _, rfl, HK.out, by rw [List.map_cons, ct_bare, HC.out, ← H1c.out, ← H2c.out]; simp, HX.out⟩
end
section
set_option maxRecDepth 100000
open Go.RowKit
theorem eqBytes_same (p p2 : Plc) (n : Nat) (f : Nat → Int) (W : World) (hs : BSeg W p.ad p.b p.off n f) (hs2 : BSeg W p2.ad p2.b p2.off n f) (hn : n ≤ 1048576) :
  Calls Tryz.prog 8 #[.slice p.ad n p.cap, .slice p2.ad n p2.cap] W fun e w' => e = .returned (.bool true) ∧ Ext W w' :=
 (eqByteS_any p.ad p.b p.off n p.cap f p2.ad p2.b p2.off n p2.cap f W hs hs2 hn).mono fun e w' ⟨h1, z, h2⟩ => ⟨by rw [h1, (alike_iff _ _ _).2 (fun _ _ => rfl)]; simp, by rw [h2]; exact below_drewN (Ext.refl _) _⟩
end
section
set_option maxRecDepth 100000
open Go.RowKit
structure Cl where
 ni : Nat
 fi : Nat → ByteArray
 fr : Int
 to : Int
 alg : Int
 nv : Nat
 fv : Nat → Int
 ng : Nat
 fg : Nat → Int
structure ClPl where
 i : Plc
 v : Plc
 g : Plc
def clL (c : Cl) (m : ClPl) : List Value := [.slice m.i.ad c.ni m.i.cap, .int .i64 c.fr, .int .i64 c.to, .int .i64 c.alg, .slice m.v.ad c.nv m.v.cap, .slice m.g.ad c.ng m.g.cap]
structure ClIn (w : World) (c : Cl) (m : ClPl) : Prop where
 i : SSeg w m.i.ad m.i.b m.i.off c.ni c.fi
 v : Seg w m.v.ad m.v.b m.v.off c.nv c.fv
 g : BSeg w m.g.ad m.g.b m.g.off c.ng c.fg
theorem ClIn.ext {w w' : World} {c : Cl} {m : ClPl} (h : ClIn w c m) (e : Ext w w') : ClIn w' c m := ⟨h.i.of_all e, h.v.of_all e, h.g.of_all e⟩
structure ClSm (c : Cl) (B : Nat) : Prop where
 i : c.ni ≤ B
 is : ∀ j, j < c.ni → (c.fi j).size ≤ B
 v : c.nv ≤ B
 g : c.ng ≤ B
set_option maxHeartbeats 12800000 in
set_option maxRecDepth 100000 in
theorem eqCrl_same (c : Cl) (m m2 : ClPl) (w : World) (hI : ClIn w c m) (hJ : ClIn w c m2) (hS : ClSm c 1048576) :
  Calls Tryz.prog 7 #[.agg (clL c m).toArray, .agg (clL c m2).toArray] w fun e w' => e = .returned (.bool true) ∧ Ext w w' := by
 obtain ⟨V, hV⟩ : ∃ V, (w.alloc (.cells (clL c m).toArray 26)).alloc (.cells (clL c m2).toArray 26) = V := ⟨_, rfl⟩
 obtain ⟨B0, B1, hE, -⟩ := box2 w (clL c m) (clL c m2) 26 26 (w1 := V) (by rw [← hV]; exact Ext.refl _)
 have HA := hide B0
 have HB := hide B1
 have HE := hide hE
 have HI := hide (hI.ext hE)
 have HJ := hide (hJ.ext hE)
 have HS := hide hS
 clear B0 B1 hE hI hJ hS
 have a1 := (HA.out 1 _ rfl).1
 have b1 := (HB.out 1 _ rfl).1
 have n1 : (c.fr != c.fr) = false := by simp
 have a2 := (HA.out 2 _ rfl).1
 have b2 := (HB.out 2 _ rfl).1
 have n2 : (c.to != c.to) = false := by simp
 have a3 := (HA.out 3 _ rfl).1
 have b3 := (HB.out 3 _ rfl).1
 have n3 : (c.alg != c.alg) = false := by simp
 go_enter Tryz.func7, Tryz.ntmps7
 have a0 := (HA.out 0 _ rfl).1
 have b0 := (HB.out 0 _ rfl).1
 go_wp2_with fail
 refine (eqStringS_same m.i.ad m.i.b m.i.off c.ni m.i.cap c.fi m2.i.ad m2.i.b m2.i.off m2.i.cap V HI.out.i HJ.out.i HS.out.i).mono ?_
 rintro e w0 ⟨rfl, hEW⟩
 replace HA := hide (Blk.ext HA.out hEW (Blk.lt HA.out (by simp [clL])))
 replace HB := hide (Blk.ext HB.out hEW (Blk.lt HB.out (by simp [clL])))
 replace HI := hide (HI.out.ext hEW)
 replace HJ := hide (HJ.out.ext hEW)
 replace HE := hide (Ext.trans HE.out hEW)
 clear hEW a0 b0
 replace a1 := (HA.out 1 _ rfl).1
 replace b1 := (HB.out 1 _ rfl).1
 replace a2 := (HA.out 2 _ rfl).1
 replace b2 := (HB.out 2 _ rfl).1
 replace a3 := (HA.out 3 _ rfl).1
 replace b3 := (HB.out 3 _ rfl).1
 have a4 := (HA.out 4 _ rfl).1
 have b4 := (HB.out 4 _ rfl).1
 go_wp2_with fail
 refine (eqInts_same m.v m2.v c.nv c.fv w0 HI.out.v HJ.out.v HS.out.v).mono ?_
 rintro e w4 ⟨rfl, hEW⟩
 replace HA := hide (Blk.ext HA.out hEW (Blk.lt HA.out (by simp [clL])))
 replace HB := hide (Blk.ext HB.out hEW (Blk.lt HB.out (by simp [clL])))
 replace HI := hide (HI.out.ext hEW)
 replace HJ := hide (HJ.out.ext hEW)
 replace HE := hide (Ext.trans HE.out hEW)
 clear hEW a4 b4
 clear a1 b1 n1
 clear a2 b2 n2
 clear a3 b3 n3
 have a5 := (HA.out 5 _ rfl).1
 have b5 := (HB.out 5 _ rfl).1
 go_wp2_with fail
 refine (eqBytes_same m.g m2.g c.ng c.fg w4 HI.out.g HJ.out.g HS.out.g).mono ?_
 rintro e w5 ⟨rfl, hEW⟩
 replace HA := hide (Blk.ext HA.out hEW (Blk.lt HA.out (by simp [clL])))
 replace HB := hide (Blk.ext HB.out hEW (Blk.lt HB.out (by simp [clL])))
 replace HI := hide (HI.out.ext hEW)
 replace HJ := hide (HJ.out.ext hEW)
 replace HE := hide (Ext.trans HE.out hEW)
 clear hEW a5 b5
 go_wp2
 go_ret
 exact ⟨rfl, HE.out⟩
end
section
set_option maxRecDepth 100000
open Go.RowKit
def tsB (fr to : Int) : Bool := tmB fr && (tmB to && decide (fr ≤ to))
def slB (alg : Int) (ng : Nat) : Bool := inB alg 1 4 && inB (ng : Int) 1 64
theorem allB_and (p q : Nat → Bool) (n : Nat) : allB (fun i => p i && q i) n = (allB p n && allB q n) := by
 cases e : allB (fun i => p i && q i) n
 ·cases e1 : allB p n
  ·rfl
  ·cases e2 : allB q n
   ·rfl
   ·rw [allB_yes (fun j hj => by rw [allB_iff.1 e1 j hj, allB_iff.1 e2 j hj]; rfl)] at e
    cases e
 ·have h := allB_iff.1 e
  rw [allB_yes (fun j hj => by have := h j hj; rw [Bool.and_eq_true] at this; exact this.1), allB_yes (fun j hj => by have := h j hj; rw [Bool.and_eq_true] at this; exact this.2)]
  rfl
theorem serialOk_any (x : Int) (w : World) : Calls Tryz.prog 94 #[.int .i64 x] w fun e w' => e = .returned (.bool (inB x 1 1000000000000000)) ∧ Ext w w' := by
 have HX := hide (inRange_any x 1 1000000000000000 w)
 generalize inB x 1 1000000000000000 = R at *
 go_enter Tryz.func94, Tryz.ntmps94
 go_wp2_with fail
 refine HX.out.mono ?_
 rintro e w1 ⟨rfl, hw⟩
 obtain rfl := hw.symm
 go_wp2
 go_ret
 exact ⟨rfl, Ext.refl _⟩
theorem timesOk_any (fr to : Int) (w : World) : Calls Tryz.prog 91 #[.int .i64 fr, .int .i64 to] w fun e w' => e = .returned (.bool (tsB fr to)) ∧ Ext w w' := by
 have H1 := hide (isTimeB fr w)
 have H2 := hide (isTimeB to w)
 have HV : Hid (tsB fr to = (tmB fr && (tmB to && decide (fr ≤ to)))) := rfl
 obtain ⟨R, hR⟩ : ∃ R, tsB fr to = R := ⟨_, rfl⟩
 rw [hR] at HV ⊢
 clear hR
 obtain ⟨q1, hq1⟩ : ∃ q, tmB fr = q := ⟨_, rfl⟩
 obtain ⟨q2, hq2⟩ : ∃ q, tmB to = q := ⟨_, rfl⟩
 rw [hq1] at H1 HV
 rw [hq2] at H2 HV
 clear hq1 hq2
 go_enter Tryz.func91, Tryz.ntmps91
 go_wp2_with fail
 refine H1.out.mono ?_
 rintro e w1 ⟨rfl, hw⟩
 obtain rfl := hw.symm
 clear hw
 cases q1
 ·go_wp2
  go_ret
  exact ⟨ret_bool (by rw [HV.out]; rfl), Ext.refl _⟩
 go_wp2_with fail
 refine H2.out.mono ?_
 rintro e w2 ⟨rfl, hw⟩
 obtain rfl := hw.symm
 clear hw
 cases q2
 ·go_wp2
  go_ret
  exact ⟨ret_bool (by rw [HV.out]; rfl), Ext.refl _⟩
 go_wp2
 go_ret
 exact ⟨ret_bool (by rw [HV.out]; rfl), Ext.refl _⟩
theorem sealOk_any (alg : Int) (a : Option Addr) (ng cap : Nat) (w : World) : Calls Tryz.prog 92 #[.int .i64 alg, .slice a ng cap] w fun e w' => e = .returned (.bool (slB alg ng)) ∧ Ext w w' := by
 have H1 := hide (inRange_any alg 1 4 w)
 have H2 := hide (inRange_any (ng : Int) 1 64 w)
 have HV : Hid (slB alg ng = (inB alg 1 4 && inB (ng : Int) 1 64)) := rfl
 obtain ⟨R, hR⟩ : ∃ R, slB alg ng = R := ⟨_, rfl⟩
 rw [hR] at HV ⊢
 clear hR
 obtain ⟨q1, hq1⟩ : ∃ q, inB alg 1 4 = q := ⟨_, rfl⟩
 obtain ⟨q2, hq2⟩ : ∃ q, inB (ng : Int) 1 64 = q := ⟨_, rfl⟩
 rw [hq1] at H1 HV
 rw [hq2] at H2 HV
 clear hq1 hq2
 go_enter Tryz.func92, Tryz.ntmps92
 go_wp2_with fail
 refine H1.out.mono ?_
 rintro e w1 ⟨rfl, hw⟩
 obtain rfl := hw.symm
 clear hw
 cases q1
 ·go_wp2
  go_ret
  exact ⟨ret_bool (by rw [HV.out]; rfl), Ext.refl _⟩
 go_wp2_with fail
 refine H2.out.mono ?_
 rintro e w2 ⟨rfl, hw⟩
 obtain rfl := hw.symm
 clear hw
 go_wp2
 go_ret
 exact ⟨ret_bool (by rw [HV.out]; rfl), Ext.refl _⟩
end
end Go.Proofs.YtkogbinfhoiggaaGreatDoor
