/- Walks: LongTime and ShortTime of both. -/
import Derived.Test.YtjidlahgfkdipaaDoorTid
import Derived.Test.YtjidlahgfkdipaaDoorTmT
import Derived.Test.YtjidlahgfkdipaaDoorEqB
import Derived.Test.YtjidlahgfkdipaaDoorStepsC
import Derived.Test.YtjidlahgfkdipaaDoorShelf
import Derived.Test.YtjidlahgfkdipaaDoorBlk
import Derived.Handy
import Derived.Maps.AppendAt
namespace Go.Proofs.YtjidlahgfkdipaaDoor
set_option linter.unusedVariables false
set_option linter.unusedSimpArgs false
open Go.RowKit Go.Sort

/-- The library's table of powers lies in its variable. -/
def Tab (w : World) : Prop := Lib.TabIs Tryd.prog w "internal/strconv.uint64pow10" .u64 Lib.pow10Tab
theorem Tab.ext {w w' : World} (h : Tab w) (e : Ext w w') : Tab w' := Lib.tabBelow_of_tabIs h w' e
theorem add_rule {x y R : ByteArray} (h : R = x ++ y) (hs : x.size + y.size ≤ 1000) : ∀ W, (Op.stringOp .add x y).run Tryd.prog W = .ok (.string R) W := fun W => by rw [h]; exact run_string_add_sum W x y (by omega)
theorem ba_app (a b : List UInt8) : (⟨a.toArray⟩ : ByteArray) ++ (⟨b.toArray⟩ : ByteArray) = ⟨(a ++ b).toArray⟩ := by
  apply ByteArray.ext
  simp [ByteArray.data_append]
theorem ba_size (a : List UInt8) : (⟨a.toArray⟩ : ByteArray).size = a.length := by
  show a.toArray.size = a.length
  simp

theorem itoa_any (n : Nat) (hn : n ≤ 9223372036854775807) (w : World) (hT : Tab w) : Calls Tryd.prog 34 #[.int .i64 (n : Int)] w fun e w' => e = .returned (.string ⟨(Lib.decDigits n).toArray⟩) ∧ Ext w w' := by
  refine (Tryd.strconv_Itoa (n : Int) (by omega) (by omega) w hT).mono ?_
  rintro e w' ⟨rfl, k, os, rfl⟩
  refine ⟨?_, rfl, rfl, rfl, by simp [grow], fun i hi => Array.getElem?_append_left hi⟩
  have : ¬ ((n : Int) < 0) := by omega
  unfold Lib.itoa
  rw [if_neg this, Int.toNat_natCast]

/-- What LongTime answers. -/
def GivesLong (t : Int) (w : World) (e : Ending) (w' : World) : Prop := ∃ y m d s : Nat, e = .returned (.tuple #[.string (longB y m d s), .bool true]) ∧ IsDay t y m d s ∧ Ext w w'

theorem s_parts {s : Nat} (h : s < 86400) : ∃ h r mi se : Nat, h = s / 3600 ∧ mi = s % 3600 / 60 ∧ se = s % 60 ∧ h ≤ 23 ∧ r < 3600 ∧ mi ≤ 59 ∧ se ≤ 59 ∧ Int.tdiv (s : Int) 3600 = (h : Int) ∧ Int.tmod (s : Int) 3600 = (r : Int) ∧ Int.tdiv (r : Int) 60 = (mi : Int) ∧ Int.tmod (s : Int) 60 = (se : Int) := by
  refine ⟨s / 3600, s % 3600, s % 3600 / 60, s % 60, rfl, rfl, rfl, by omega, by omega, by omega, by omega, ?_, ?_, ?_, ?_⟩
  · rw [Int.tdiv_eq_ediv_of_nonneg (by omega)]; omega
  · rw [Int.tmod_eq_emod_of_nonneg (by omega)]; omega
  · rw [Int.tdiv_eq_ediv_of_nonneg (by omega)]; omega
  · rw [Int.tmod_eq_emod_of_nonneg (by omega)]; omega
theorem w_small {n : Nat} (h : n ≤ 100000000000000) : wrap64 (n : Int) = n ∧ IntKind.i64.wrap (n : Int) = n := by
  refine ⟨by unfold wrap64; omega, by rw [IntKind.wrap_i64]; omega⟩
/-- The number when k parts are in it. -/
def nn (F : Nat → Nat) (y : Nat) : Nat → Nat
  | 0 => y
  | k + 1 => 100 * nn F y k + F k
theorem nn_le {F : Nat → Nat} {y : Nat} (hy : y ≤ 2099) (hF : ∀ i, F i ≤ 99) (k : Nat) : nn F y k + 1 ≤ 2100 * 100 ^ k := by
  induction k with
  | zero => simp [nn]; omega
  | succ k ih =>
    have := hF k
    rw [nn, Nat.pow_succ, ← Nat.mul_assoc]
    omega
theorem nn_lt {F : Nat → Nat} {y : Nat} (hy : y ≤ 2099) (hF : ∀ i, F i ≤ 99) {k : Nat} (hk : k ≤ 5) : nn F y k ≤ 21000000000000 := by
  have h1 := nn_le hy hF k
  have h2 : 100 ^ k ≤ 100 ^ 5 := Nat.pow_le_pow_right (by omega) hk
  have h3 : (100 : Nat) ^ 5 = 10000000000 := by decide
  rw [h3] at h2
  omega
def prt (m d h mi se : Nat) : Nat → Nat
  | 0 => m | 1 => d | 2 => h | 3 => mi | 4 => se | _ => 0
theorem n_step {n p : Nat} (h : n ≤ 21000000000000) (hp : p ≤ 99) : wrap64 (100 * (n : Int)) = ((100 * n : Nat) : Int) ∧ wrap64 (((100 * n : Nat) : Int) + (p : Int)) = ((100 * n + p : Nat) : Int) := by
  refine ⟨by unfold wrap64; omega, by unfold wrap64; omega⟩
theorem long_add {y m d s N5 : Nat} (h : DayOk y m d) (hs : s < 86400) (hN : N5 = numT y m d (s / 3600) (s % 3600 / 60) (s % 60)) : ∀ W, (Op.stringOp .add (⟨(Lib.decDigits N5).toArray⟩ : ByteArray) (⟨#[90]⟩ : ByteArray)).run Tryd.prog W = .ok (.string (longB y m d s)) W := by
  obtain ⟨y0, y1, m0, m1, d0, d1⟩ := tm_bounds h
  have HL : (⟨(Lib.decDigits N5).toArray⟩ : ByteArray) ++ (⟨#[90]⟩ : ByteArray) = longB y m d s := by
    rw [hN, show (⟨#[90]⟩ : ByteArray) = ⟨([90] : List UInt8).toArray⟩ from rfl, ba_app, dec_num y0 y1 m1 d1 hs]
    rfl
  refine add_rule HL.symm ?_
  have := congrArg ByteArray.size HL
  rw [ByteArray.size_append] at this
  have e2 : (longB y m d s).size = 15 := rfl
  omega
theorem ix5_0 (x0 x1 x2 x3 x4 : Int) (w : World) : (Instr.index 41 (.agg #[.int .i64 x0, .int .i64 x1, .int .i64 x2, .int .i64 x3, .int .i64 x4]) (.int .i64 0)).run Tryd.prog w = .ok (.int .i64 x0) w := by kernel_rfl
theorem ix5_1 (x0 x1 x2 x3 x4 : Int) (w : World) : (Instr.index 41 (.agg #[.int .i64 x0, .int .i64 x1, .int .i64 x2, .int .i64 x3, .int .i64 x4]) (.int .i64 1)).run Tryd.prog w = .ok (.int .i64 x1) w := by kernel_rfl
theorem ix5_2 (x0 x1 x2 x3 x4 : Int) (w : World) : (Instr.index 41 (.agg #[.int .i64 x0, .int .i64 x1, .int .i64 x2, .int .i64 x3, .int .i64 x4]) (.int .i64 2)).run Tryd.prog w = .ok (.int .i64 x2) w := by kernel_rfl
theorem ix5_3 (x0 x1 x2 x3 x4 : Int) (w : World) : (Instr.index 41 (.agg #[.int .i64 x0, .int .i64 x1, .int .i64 x2, .int .i64 x3, .int .i64 x4]) (.int .i64 3)).run Tryd.prog w = .ok (.int .i64 x3) w := by kernel_rfl
theorem ix5_4 (x0 x1 x2 x3 x4 : Int) (w : World) : (Instr.index 41 (.agg #[.int .i64 x0, .int .i64 x1, .int .i64 x2, .int .i64 x3, .int .i64 x4]) (.int .i64 4)).run Tryd.prog w = .ok (.int .i64 x4) w := by kernel_rfl
theorem ix5 (m d h mi se : Nat) (k : Nat) (hk : k < 5) (w : World) : (Instr.index 41 (.agg #[.int .i64 (m : Int), .int .i64 (d : Int), .int .i64 (h : Int), .int .i64 (mi : Int), .int .i64 (se : Int)]) (.int .i64 (k : Int))).run Tryd.prog w = .ok (.int .i64 (prt m d h mi se k : Int)) w := by
  have : k = 0 ∨ k = 1 ∨ k = 2 ∨ k = 3 ∨ k = 4 := by omega
  rcases this with rfl | rfl | rfl | rfl | rfl
  · exact ix5_0 _ _ _ _ _ w
  · exact ix5_1 _ _ _ _ _ w
  · exact ix5_2 _ _ _ _ _ w
  · exact ix5_3 _ _ _ _ _ w
  · exact ix5_4 _ _ _ _ _ w

set_option maxHeartbeats 1600000 in
set_option maxRecDepth 100000 in
theorem implLong_yes (t : Int) (h : inT t) (w : World) (hT : MTab w) (hP : Tab w) : Calls Tryd.prog 16 #[.int .i64 t] w fun e w' => GivesLong t w e w' := by
  have HO := hide (isTime_any t w)
  rw [decide_eq_true h] at HO
  have HD := hide (implDayOf_yes t h w hT)
  have HP := hide hP
  clear h hT hP
  go_enter Tryd.func16, Tryd.ntmps16
  go_wp2_with (first | (go_at_call 31; refine HO.out.mono ?_; rintro e w1 ⟨rfl, hw⟩; obtain rfl := hw.symm) | (go_at_call 12; fail))
  refine HD.out.mono ?_
  rintro e w1 ⟨y, m, d, s, rfl, hI, hE⟩
  have HI := hide hI
  have HE := hide hE
  obtain ⟨hh, r, mi, se, a1, a2, a3, b1, b2, b3, b4, c1, c2, c3, c4⟩ := s_parts hI.s1
  have HC := hide (And.intro c1 (And.intro c2 (And.intro c3 c4)))
  clear c1 c2 c3 c4
  have HW := hide (And.intro (w_small (n := hh) (by omega)) (And.intro (w_small (n := r) (by omega)) (And.intro (w_small (n := mi) (by omega)) (w_small (n := se) (by omega)))))
  have HF : Hid (∀ i, prt m d hh mi se i ≤ 99) := fun i => by
    have := hI.m1
    have := Nat.le_trans hI.d1 (md_le y m)
    unfold prt; split <;> omega
  have Hle : Hid (∀ k, k ≤ 5 → nn (prt m d hh mi se) y k ≤ 21000000000000) := fun k hk => nn_lt hI.y1 HF.out hk
  have hN : nn (prt m d hh mi se) y 5 = numT y m d (s / 3600) (s % 3600 / 60) (s % 60) := by rw [← a1, ← a2, ← a3]; rfl
  have HIt := hide (itoa_any (nn (prt m d hh mi se) y 5) (by have := Hle.out 5 (by omega); omega) w1 (HP.out.ext hE))
  have hadd := long_add hI.toDayOk hI.s1 hN
  have HS : Hid (∀ k, nn (prt m d hh mi se) y (k + 1) = 100 * nn (prt m d hh mi se) y k + prt m d hh mi se k) := fun k => rfl
  have H0 : Hid (nn (prt m d hh mi se) y 0 = y) := rfl
  have HX : Hid (∀ k : Nat, k < 5 → ∀ W, (Instr.index 41 (.agg #[.int .i64 (m : Int), .int .i64 (d : Int), .int .i64 (hh : Int), .int .i64 (mi : Int), .int .i64 (se : Int)]) (.int .i64 (k : Int))).run Tryd.prog W = .ok (.int .i64 (prt m d hh mi se k : Int)) W) := fun k hk W => ix5 m d hh mi se k hk W
  generalize (⟨(Lib.decDigits (nn (prt m d hh mi se) y 5)).toArray⟩ : ByteArray) = SN at *
  generalize hLL : longB y m d s = L at *
  have HLL := hide hLL
  generalize prt m d hh mi se = F at *
  generalize nn F y = NN at *
  clear HP hI hE hN hLL a1 a2 a3 b1 b2 b3 b4
  obtain ⟨c1, c2, c3, c4⟩ := HC.out
  obtain ⟨⟨p1, q1⟩, ⟨p2, q2⟩, ⟨p3, q3⟩, ⟨p4, q4⟩⟩ := HW.out
  clear HC HW
  go_wp2
  clear c1 c2 c3 c4 p1 q1 p2 q2 p3 q3 p4 q4
  go_loop [11, 38] (fun nv iv => ∃ k : Nat, k ≤ 5 ∧ iv = .int .i64 (k : Int) ∧ nv = .int .i64 (NN k : Int)) (fun _ iv => 5 - (intOf iv).toNat)
  case atStart => exact ⟨0, by omega, rfl, by rw [H0.out]⟩
  case round =>
    obtain ⟨k, hk, rfl, rfl⟩ := hrel
    by_cases hlt : k < 5
    · have hix := HX.out k hlt
      have hl5 : (k : Int) < 5 := by omega
      have hs := HS.out k
      obtain ⟨e1, e2⟩ := n_step (Hle.out k hk) (HF.out k)
      rw [← hs] at e2
      clear hs
      generalize hA : 100 * NN k = A at *
      generalize hB : NN (k + 1) = B at *
      have HB := hide hB
      clear hA hB
      generalize NN k = C at *
      generalize F k = f at *
      go_wp2
      go_round
      case rel => exact ⟨k + 1, hlt, by clear e1 e2; go_num, (by rw [HB.out, ← e2])⟩
      case measure => clear e1 e2; simp [intOf]; omega
    · obtain rfl : k = 5 := by omega
      generalize NN 5 = N5 at *
      go_wp2_with (go_at_call 34; refine HIt.out.mono ?_; rintro e w2 ⟨rfl, hE2⟩; have HE2 := hide hE2; clear hE2)
      go_ret2
      exact ⟨y, m, d, s, (by rw [HLL.out]; rfl), HI.out, Ext.trans HE.out HE2.out⟩

theorem implLong_no (t : Int) (h : ¬ inT t) (w : World) : Calls Tryd.prog 16 #[.int .i64 t] w fun e w' => e = .returned (.tuple #[.string ⟨#[]⟩, .bool false]) ∧ w' = w := by
  have HO := hide (isTime_any t w)
  rw [decide_eq_false h] at HO
  clear h
  go_enter Tryd.func16, Tryd.ntmps16
  go_wp2_with (go_at_call 31; refine HO.out.mono ?_; rintro e w1 ⟨rfl, hw⟩; obtain rfl := hw.symm)
  go_ret2
  exact ⟨rfl, rfl⟩

/-- What ShortTime answers. -/
def shortOk (t : Int) : Prop := inT t ∧ t ≤ 2524607999
theorem IsDay.short {t : Int} {y m d s : Nat} (h : IsDay t y m d s) : y ≤ 2049 ↔ t ≤ 2524607999 := by
  have hs := h.s1
  have ht := h.t1
  obtain ⟨a1, a2, -, -⟩ := h.toDayOk.lt
  have y0 := h.y0
  unfold tmV at ht
  constructor
  · intro hy
    have := Yd_mono (k := y - 1950) (n := 100) (by omega)
    have e : Yd 100 = 36525 := rfl
    omega
  · intro hle
    by_cases hy : y ≤ 2049
    · exact hy
    · have := Yd_mono (k := 99) (n := y - 1950) (by omega)
      have e : Yd (99 + 1) = 36525 := rfl
      omega
def GivesShort (t : Int) (w : World) (e : Ending) (w' : World) : Prop := ∃ y m d s : Nat, e = .returned (.tuple #[.string (shortB y m d s), .bool true]) ∧ IsDay t y m d s ∧ Ext w w'

theorem long_cut (y m d s : Nat) : (longB y m d s).extract 2 15 = shortB y m d s := by
  apply ByteArray.ext
  rw [ByteArray.data_extract]
  show (longL y m d s).toArray.extract 2 15 = (shortL y m d s).toArray
  rw [List.extract_toArray]
  rfl

set_option maxHeartbeats 800000 in
theorem implShort_yes (t : Int) (h : inT t) (h2 : t ≤ 2524607999) (w : World) (hT : MTab w) (hP : Tab w) : Calls Tryd.prog 14 #[.int .i64 t] w fun e w' => GivesShort t w e w' := by
  have HD : Hid (∀ W, Ext w W → Calls Tryd.prog 12 #[.int .i64 t] W fun e w' => GivesDay t W e w') := fun W k => implDayOf_yes t h W (hT.ext k)
  have HL := hide (implLong_yes t h w hT hP)
  have H2 := hide h2
  clear h hT hP h2
  go_enter Tryd.func14, Tryd.ntmps14
  go_wp2_with fail
  refine HL.out.mono ?_
  rintro e w1 ⟨y, m, d, s, rfl, hI, hE⟩
  have HE := hide hE
  have HI := hide hI
  clear hI hE
  have hz : (longB y m d s).size = 15 := rfl
  have hx := long_cut y m d s
  generalize longB y m d s = L at *
  generalize hS : shortB y m d s = S at *
  have HS := hide hS
  clear hS
  go_wp2_with fail
  refine (HD.out _ HE.out).mono ?_
  rintro e w2 ⟨y2, m2, d2, s2, rfl, hI2, hE2⟩
  obtain ⟨hy, hm, hd, hs⟩ := HI.out.unique hI2
  subst hy hm hd hs
  have hle : ¬ (2049 : Int) < (y : Int) := by have := HI.out.short.2 H2.out; omega
  replace HE := hide (Ext.trans HE.out hE2)
  clear hI2 hE2
  go_wp2
  go_ret2
  exact ⟨y, m, d, s, (by rw [HS.out]; rfl), HI.out, HE.out⟩

set_option maxHeartbeats 800000 in
theorem implShort_no (t : Int) (h : ¬ (inT t ∧ t ≤ 2524607999)) (w : World) (hT : MTab w) (hP : Tab w) : Calls Tryd.prog 14 #[.int .i64 t] w fun e w' => e = .returned (.tuple #[.string ⟨#[]⟩, .bool false]) ∧ Ext w w' := by
  by_cases hi : inT t
  · have h2 : ¬ t ≤ 2524607999 := fun x => h ⟨hi, x⟩
    have HD : Hid (∀ W, Ext w W → Calls Tryd.prog 12 #[.int .i64 t] W fun e w' => GivesDay t W e w') := fun W k => implDayOf_yes t hi W (hT.ext k)
    have HL := hide (implLong_yes t hi w hT hP)
    have H2 := hide h2
    clear h hi hT hP h2
    go_enter Tryd.func14, Tryd.ntmps14
    go_wp2_with fail
    refine HL.out.mono ?_
    rintro e w1 ⟨y, m, d, s, rfl, hI, hE⟩
    have HE := hide hE
    have HI := hide hI
    clear hI hE
    generalize longB y m d s = L at *
    go_wp2_with fail
    refine (HD.out _ HE.out).mono ?_
    rintro e w2 ⟨y2, m2, d2, s2, rfl, hI2, hE2⟩
    have hle : (2049 : Int) < (y2 : Int) := by
      have := H2.out
      have h3 := hI2.short
      omega
    replace HE := hide (Ext.trans HE.out hE2)
    clear hI2 hE2
    go_wp2
    go_ret2
    exact ⟨rfl, HE.out⟩
  · have HL := hide (implLong_no t hi w)
    have HD := hide (implDayOf_no t hi w)
    clear h hi hT hP
    go_enter Tryd.func14, Tryd.ntmps14
    go_wp2_with fail
    refine HL.out.mono ?_
    rintro e w1 ⟨rfl, hw⟩
    obtain rfl := hw.symm
    go_wp2_with fail
    refine HD.out.mono ?_
    rintro e w1 ⟨rfl, hw⟩
    obtain rfl := hw.symm
    go_wp2
    go_ret2
    exact ⟨rfl, Ext.refl _⟩

/-! The model's texts. -/
theorem bseg_new2 (w : World) (x y : Int) : BSeg (w.alloc (.cells #[.int .u8 x, .int .u8 y] 5)) (some ⟨w.heap.size, 0, none⟩) w.heap.size 0 2 (fun i => if i = 0 then x else y) :=
  ⟨fun _ => rfl, fun i hi => by
    have : i = 0 ∨ i = 1 := by omega
    rcases this with rfl | rfl
    · exact (Blk.alloc w [.int .u8 x, .int .u8 y] 5 0 _ rfl).1
    · exact (Blk.alloc w [.int .u8 x, .int .u8 y] 5 1 _ rfl).1⟩
def twoB (n : Nat) : ByteArray := ⟨(two n).toArray⟩
theorem two_str (a b : Nat) : strOfNums (nums (fun i => if i = 0 then 48 + (a : Int) else 48 + (b : Int)) 2) = ⟨([UInt8.ofNat (48 + a), UInt8.ofNat (48 + b)] : List UInt8).toArray⟩ := by
  have e : (48 + (a : Int)).toNat = 48 + a := by omega
  have e' : (48 + (b : Int)).toNat = 48 + b := by omega
  show (⟨([UInt8.ofNat (48 + (a : Int)).toNat, UInt8.ofNat (48 + (b : Int)).toNat] : List UInt8).toArray⟩ : ByteArray) = _
  rw [e, e']
theorem two_nums {n : Nat} : ∃ q a b : Nat, a = n / 10 % 10 ∧ b = n % 10 ∧ Int.tdiv (n : Int) 10 = (q : Int) ∧ Int.tmod (q : Int) 10 = (a : Int) ∧ Int.tmod (n : Int) 10 = (b : Int) ∧ q = n / 10 := by
  refine ⟨n / 10, n / 10 % 10, n % 10, rfl, rfl, ?_, ?_, ?_, rfl⟩
  · rw [Int.tdiv_eq_ediv_of_nonneg (by omega)]; omega
  · rw [Int.tmod_eq_emod_of_nonneg (by omega)]; omega
  · rw [Int.tmod_eq_emod_of_nonneg (by omega)]; omega
theorem dig_wraps {k : Nat} (hk : k ≤ 10) : wrap64 (48 + (k : Int)) = 48 + k ∧ IntKind.i64.wrap (48 + (k : Int)) = 48 + k ∧ IntKind.u8.wrap (48 + (k : Int)) = 48 + k := by
  refine ⟨by unfold wrap64; omega, by rw [IntKind.wrap_i64]; omega, by rw [IntKind.wrap_u8]; omega⟩

set_option maxHeartbeats 800000 in
theorem l9Two_any (n : Nat) (hn : n ≤ 3000) (w : World) : Calls Tryd.prog 32 #[.int .i64 (n : Int)] w fun e w' => e = .returned (.string (twoB n)) ∧ Ext w w' := by
  obtain ⟨q, a, b, ha, hb, c1, c2, c3, hq⟩ := two_nums (n := n)
  have HR : Hid (strOfNums (nums (fun i => if i = 0 then 48 + (a : Int) else 48 + (b : Int)) 2) = twoB n) := by
    show _ = _
    rw [two_str, ha, hb]
    rfl
  have HW := hide (And.intro (dig_wraps (k := a) (by omega)) (And.intro (dig_wraps (k := b) (by omega)) (And.intro (w_small (n := q) (by omega)) (And.intro (w_small (n := a) (by omega)) (w_small (n := b) (by omega))))))
  clear ha hb hq
  obtain ⟨⟨e1, e2, e3⟩, ⟨f1, f2, f3⟩, ⟨g1, g2⟩, ⟨k1, k2⟩, ⟨l1, l2⟩⟩ := HW.out
  have hcv := conv_seg (cap := 2) (bseg_new2 w (48 + (a : Int)) (48 + (b : Int)))
  rw [HR.out] at hcv
  generalize twoB n = T at *
  clear HW HR
  go_enter Tryd.func32, Tryd.ntmps32
  go_wp2
  go_ret
  exact ⟨rfl, Ext.alloc _ _⟩

end Go.Proofs.YtjidlahgfkdipaaDoor
