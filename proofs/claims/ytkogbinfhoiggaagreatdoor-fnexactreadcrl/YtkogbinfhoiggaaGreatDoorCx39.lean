/- Walks: ReadTime of the program. -/
import Derived.Test.YtkogbinfhoiggaaGreatDoorCx35
namespace Go.Proofs.YtkogbinfhoiggaaGreatDoor
set_option linter.unusedVariables false
set_option linter.unusedSimpArgs false
open Go.RowKit Go.Sort
def Err (w : World) : Prop := ∃ tp p, w.var? Tryz.prog "strconv.ErrSyntax" = some #[.iface tp p]
theorem Err.ext {w w' : World} (h : Err w) (e : Ext w w') : Err w' := by
 obtain ⟨tp, p, h⟩ := h
 refine ⟨tp, p, ?_⟩
 unfold World.var? at *
 cases hg : Program.globalNamed Tryz.prog "strconv.ErrSyntax" with
 | none => simp [hg] at h
 | some g =>
  simp only [hg, Option.bind_some] at h ⊢
  have hlt : g < w.heap.size := by
   by_cases hlt : g < w.heap.size
   ·exact hlt
   ·rw [Array.getElem?_eq_none (by omega)] at h; simp at h
  rw [Below.block e g hlt]
  exact h
theorem atoi_any (s : ByteArray) (hs : s.size ≤ 15) (w : World) (hE : Err w) : Calls Tryz.prog 156 #[.string s] w fun e w' => ∃ x, e = .returned (.tuple #[.int .i64 (rdIa s.data.toList), x]) ∧ Ext w w' := by
 cases h : Lib.atoi s.data.toList with
 | some n =>
  refine (Tryz.strconv_Atoi s n (by omega) h w).mono ?_
  rintro e w' ⟨rfl, t, rfl⟩
  exact ⟨_, by unfold rdIa; rw [h]; rfl, Lib.bytesWorld_below _ _ _⟩
 | none =>
  obtain ⟨tp, p, hv⟩ := hE
  refine (Tryz.strconv_Atoi_err_var s (by omega) h tp p w hv).mono ?_
  rintro e w' ⟨N, rfl, -, -, hb⟩
  exact ⟨_, by unfold rdIa; rw [h]; rfl, hb⟩
def ptV (s : ByteArray) (i j : Int) : Int := rdIa (s.extract i.toNat j.toNat).data.toList
set_option maxHeartbeats 800000 in
theorem partOf_any (s : ByteArray) (i j : Int) (h0 : 0 ≤ i) (h1 : i ≤ j) (h2 : j ≤ (s.size : Int)) (hs : s.size ≤ 15) (w : World) (hE : Err w) : Calls Tryz.prog 149 #[.string s, .int .i64 i, .int .i64 j] w fun e w' => e = .returned (.int .i64 (ptV s i j)) ∧ Ext w w' := by
 obtain ⟨a, rfl⟩ := Int.eq_ofNat_of_zero_le h0
 obtain ⟨b, rfl⟩ := Int.eq_ofNat_of_zero_le (show 0 ≤ j by omega)
 have hz : (s.extract a b).size ≤ 15 := by rw [ByteArray.size_extract]; omega
 have HA := hide (atoi_any (s.extract a b) hz w hE)
 have hv : ptV s (a : Int) (b : Int) = rdIa (s.extract a b).data.toList := by unfold ptV; rw [Int.toNat_natCast, Int.toNat_natCast]
 rw [hv]
 have k1 : a ≤ b := by omega
 have k2 : b ≤ s.size := by omega
 generalize rdIa (s.extract a b).data.toList = V at *
 clear hv hE hz
 go_enter Tryz.func149, Tryz.ntmps149
 go_wp2_with (go_at_call 156; refine HA.out.mono ?_; rintro e w1 ⟨x, rfl, hE1⟩; have HE := hide hE1; clear hE1)
 go_ret
 exact ⟨rfl, HE.out⟩
theorem inT_tTm (y m d s : Int) : inT (tTm y m d s) := by
 cases h : tOk y m d s
 ·unfold tTm inT; rw [h]; simp
 ·obtain ⟨y', m', d', s', rfl, rfl, rfl, rfl, hD, hs⟩ := tOk_nat h
  rw [(tOk_of hD hs).2]
  exact IsDay.range ⟨hD, hs, rfl⟩
theorem isDay_tTm {y m d s : Int} (h : tOk y m d s = true) : IsDay (tTm y m d s) y.toNat m.toNat d.toNat s.toNat := by
 obtain ⟨y', m', d', s', rfl, rfl, rfl, rfl, hD, hs⟩ := tOk_nat h
 rw [(tOk_of hD hs).2]
 exact ⟨hD, hs, rfl⟩
def txOk (t : ByteArray) : Bool := match t.data.toList with
 | [b0, b1, b2, b3, b4, b5, b6, b7, b8, b9, b10, b11, b12, b13, b14] => rtOk b0 b1 b2 b3 b4 b5 b6 b7 b8 b9 b10 b11 b12 b13 b14
 | _ => false
def txV (t : ByteArray) : Int := match t.data.toList with
 | [b0, b1, b2, b3, b4, b5, b6, b7, b8, b9, b10, b11, b12, b13, b14] => rtV b0 b1 b2 b3 b4 b5 b6 b7 b8 b9 b10 b11 b12 b13 b14
 | _ => 0
theorem list15 {l : List UInt8} (h : l.length = 15) : ∃ b0 b1 b2 b3 b4 b5 b6 b7 b8 b9 b10 b11 b12 b13 b14, l = [b0, b1, b2, b3, b4, b5, b6, b7, b8, b9, b10, b11, b12, b13, b14] := by
 match l, h with
 | [b0, b1, b2, b3, b4, b5, b6, b7, b8, b9, b10, b11, b12, b13, b14], _ => exact ⟨b0, b1, b2, b3, b4, b5, b6, b7, b8, b9, b10, b11, b12, b13, b14, rfl⟩
theorem ba_of {t : ByteArray} {l : List UInt8} (h : t.data.toList = l) : t = ⟨l.toArray⟩ := by
 apply ByteArray.ext
 rw [← h]
theorem pt_list (l : List UInt8) (i j : Nat) : ptV ⟨l.toArray⟩ (i : Int) (j : Int) = rdIa ((l.take j).drop i) := by
 unfold ptV
 rw [ByteArray.data_extract, Int.toNat_natCast, Int.toNat_natCast]
 show rdIa (l.toArray.extract i j).toList = _
 rw [List.extract_toArray, List.extract_eq_take_drop]
 show rdIa ((l.drop i).take (j - i)) = _
 rw [List.drop_take]
theorem read_same {t : ByteArray} (ht : t.size = 15) {T : Int} {y m d s : Nat} (hT : T = tTm (ptV t 0 4) (ptV t 4 6) (ptV t 6 8) (ptV t 8 10 * 3600 + ptV t 10 12 * 60 + ptV t 12 14)) (hI : IsDay T y m d s) :
  (tOk (ptV t 0 4) (ptV t 4 6) (ptV t 6 8) (ptV t 8 10 * 3600 + ptV t 10 12 * 60 + ptV t 12 14) && (longB y m d s).toList == t.toList) = txOk t ∧ (txOk t = true → T = txV t) ∧ (txOk t = false → txV t = 0) := by
 obtain ⟨b0, b1, b2, b3, b4, b5, b6, b7, b8, b9, b10, b11, b12, b13, b14, hl⟩ := list15 (l := t.data.toList) (by rw [Array.length_toList]; exact ht)
 have e := ba_of hl
 have hp : Pts b0 b1 b2 b3 b4 b5 b6 b7 b8 b9 b10 b11 b12 b13 (ptV t 0 4) (ptV t 4 6) (ptV t 6 8) (ptV t 8 10 * 3600 + ptV t 10 12 * 60 + ptV t 12 14) := by
  have k := fun i j => pt_list [b0, b1, b2, b3, b4, b5, b6, b7, b8, b9, b10, b11, b12, b13, b14] i j
  rw [← e] at k
  have k1 := k 0 4
  have k2 := k 4 6
  have k3 := k 6 8
  have k4 := k 8 10
  have k5 := k 10 12
  have k6 := k 12 14
  refine ⟨k1, k2, k3, ?_⟩
  rw [show ptV t 8 10 = rdIa [b8, b9] from k4, show ptV t 10 12 = rdIa [b10, b11] from k5, show ptV t 12 14 = rdIa [b12, b13] from k6]
 have hok : txOk t = rtOk b0 b1 b2 b3 b4 b5 b6 b7 b8 b9 b10 b11 b12 b13 b14 := by unfold txOk; rw [hl]
 have hv : txV t = rtV b0 b1 b2 b3 b4 b5 b6 b7 b8 b9 b10 b11 b12 b13 b14 := by unfold txV; rw [hl]
 have heq : (longB y m d s).toList = t.toList ↔ longL y m d s = [b0, b1, b2, b3, b4, b5, b6, b7, b8, b9, b10, b11, b12, b13, b14] := by
  rw [Lib.toList_data, Lib.toList_data, hl]
  show (longL y m d s).toArray.toList = _ ↔ _
  rw [List.toList_toArray]
 rw [hok, hv]
 generalize ptV t 0 4 = y1 at *
 generalize ptV t 4 6 = m1 at *
 generalize ptV t 6 8 = d1 at *
 generalize ptV t 8 10 * 3600 + ptV t 10 12 * 60 + ptV t 12 14 = s1 at *
 have hz : rtOk b0 b1 b2 b3 b4 b5 b6 b7 b8 b9 b10 b11 b12 b13 b14 = false → rtV b0 b1 b2 b3 b4 b5 b6 b7 b8 b9 b10 b11 b12 b13 b14 = 0 := fun h => by unfold rtV; rw [h]; rfl
 cases hr : rtOk b0 b1 b2 b3 b4 b5 b6 b7 b8 b9 b10 b11 b12 b13 b14
 ·refine ⟨?_, (fun h => by cases h), fun _ => hz hr⟩
  cases ho : tOk y1 m1 d1 s1
  ·rfl
  ·rw [Bool.true_and]
   apply Bool.eq_false_iff.2
   intro hb
   have h3 := heq.1 (eq_of_beq hb)
   have := (read_long hI.toDayOk hI.s1 h3).1
   rw [hr] at this
   cases this
 ·obtain ⟨k1, k2, k3⟩ := long_read hp hr
  have hI2 := isDay_tTm k1
  rw [← hT] at hI2
  obtain ⟨rfl, rfl, rfl, rfl⟩ := hI.unique hI2
  refine ⟨?_, (fun _ => by rw [hT, k2]), (fun h => by cases h)⟩
  rw [k1, heq.2 k3]
  simp
theorem pt_lt (t : ByteArray) (i j : Int) (h : j.toNat - i.toNat ≤ 4) : -10000 < ptV t i j ∧ ptV t i j < 10000 := by
 unfold ptV
 refine rdI_lt ?_
 rw [Array.length_toList]
 show (t.extract i.toNat j.toNat).size ≤ 4
 rw [ByteArray.size_extract]
 omega
theorem sec_wraps {a b c : Int} (ha : -10000 < a ∧ a < 10000) (hb : -10000 < b ∧ b < 10000) (hc : -10000 < c ∧ c < 10000) : wrap64 (a * 3600) = a * 3600 ∧ wrap64 (b * 60) = b * 60 ∧ wrap64 (a * 3600 + b * 60) = a * 3600 + b * 60 ∧ wrap64 (a * 3600 + b * 60 + c) = a * 3600 + b * 60 + c := by
 refine ⟨by unfold wrap64; omega, by unfold wrap64; omega, by unfold wrap64; omega, by unfold wrap64; omega⟩
set_option maxHeartbeats 1600000 in
set_option maxRecDepth 100000 in
theorem readLong_any (t : ByteArray) (ht : t.size = 15) (w : World) (hT : MTab w) (hP : TabP w) (hEr : Err w) : Calls Tryz.prog 137 #[.string t] w fun e w' => e = .returned (.tuple #[.int .i64 (txV t), .bool (txOk t)]) ∧ Ext w w' := by
 have HR : Hid (∀ T y m d s, T = tTm (ptV t 0 4) (ptV t 4 6) (ptV t 6 8) (ptV t 8 10 * 3600 + ptV t 10 12 * 60 + ptV t 12 14) → IsDay T y m d s → (tOk (ptV t 0 4) (ptV t 4 6) (ptV t 6 8) (ptV t 8 10 * 3600 + ptV t 10 12 * 60 + ptV t 12 14) && (longB y m d s).toList == t.toList) = txOk t ∧ (txOk t = true → T = txV t) ∧ (txOk t = false → txV t = 0)) := fun T y m d s h1 h2 => read_same ht h1 h2
 have HPt : Hid (∀ i j W, 0 ≤ i → i ≤ j → j ≤ 15 → Ext w W → Calls Tryz.prog 149 #[.string t, .int .i64 i, .int .i64 j] W fun e w' => e = .returned (.int .i64 (ptV t i j)) ∧ Ext W w') := fun i j W h0 h1 h2 h => partOf_any t i j h0 h1 (by rw [ht]; exact h2) (by omega) W (hEr.ext h)
 have HTm : Hid (∀ y m d s W, Ext w W → Calls Tryz.prog 150 #[.int .i64 y, .int .i64 m, .int .i64 d, .int .i64 s] W fun e w' => e = .returned (.tuple #[.int .i64 (tTm y m d s), .bool (tOk y m d s)]) ∧ w' = W) := fun y m d s W h => implTimeOf_any y m d s W (hT.ext h)
 have HLo : Hid (∀ y m d s W, Ext w W → Calls Tryz.prog 148 #[.int .i64 (tTm y m d s)] W fun e w' => GivesLong (tTm y m d s) W e w') := fun y m d s W h => implLong_yes _ (inT_tTm y m d s) W (hT.ext h) (hP.ext h)
 obtain ⟨e1, e2, e3, e4⟩ := sec_wraps (pt_lt t 8 10 (by decide)) (pt_lt t 10 12 (by decide)) (pt_lt t 12 14 (by decide))
 generalize txOk t = OK at *
 generalize txV t = V at *
 generalize ptV t = P at *
 have HE := hide (Ext.refl w)
 clear hT hP hEr ht
 go_enter Tryz.func137, Tryz.ntmps137
 go_wp2_with (first | (go_at_call 149; refine (HPt.out _ _ _ (by decide) (by decide) (by decide) HE.out).mono ?_; rintro e w' ⟨rfl, hE'⟩; replace HE := hide (Ext.trans HE.out hE'); clear hE') | (go_at_call 150; refine (HTm.out _ _ _ _ _ HE.out).mono ?_; rintro e w2 ⟨rfl, hw⟩; obtain rfl := hw.symm) | (go_at_call 148; fail))
 refine (HLo.out _ _ _ _ _ HE.out).mono ?_
 rintro e w3 ⟨y, m, d, s, rfl, hI, hE3⟩
 obtain ⟨h1, h2, h3⟩ := HR.out _ y m d s rfl hI
 replace HE := hide (Ext.trans HE.out hE3)
 clear hI hE3 HR HPt HTm HLo e1 e2 e3 e4
 generalize tTm (P 0 4) (P 4 6) (P 6 8) (P 8 10 * 3600 + P 10 12 * 60 + P 12 14) = T at *
 generalize tOk (P 0 4) (P 4 6) (P 6 8) (P 8 10 * 3600 + P 10 12 * 60 + P 12 14) = B at *
 generalize longB y m d s = L at *
 cases B
 ·have hO : OK = false := by rw [← h1]; rfl
  have hV := h3 hO
  subst hO hV
  clear h1 h2 h3
  go_wp2
  go_ret2
  exact ⟨rfl, HE.out⟩
 ·cases hq : (L.toList == t.toList)
  ·have hO : OK = false := by rw [← h1, hq]; rfl
   have hV := h3 hO
   subst hO hV
   clear h1 h2 h3
   go_wp2
   go_ret2
   exact ⟨rfl, HE.out⟩
  ·have hO : OK = true := by rw [← h1, hq]; rfl
   have hV := h2 hO
   subst hO hV
   clear h1 h2 h3
   go_wp2
   go_ret2
   exact ⟨rfl, HE.out⟩
def cenB (s : ByteArray) : ByteArray := if Op.bytesLess s.toList [53, 48] then ⟨#[50, 48]⟩ else ⟨#[49, 57]⟩
theorem cen_any (s : ByteArray) (w : World) : Calls Tryz.prog 136 #[.string s] w fun e w' => e = .returned (.string (cenB s)) ∧ w' = w := by
 have hc : ∀ W, (Op.stringOp .lss s ⟨#[53, 48]⟩).run Tryz.prog W = .ok (.bool (Op.bytesLess s.toList [53, 48])) W := fun W => by
  have e : (⟨#[53, 48]⟩ : ByteArray).toList = [53, 48] := by rw [ByteArray.toList_eq]
  show Result.ok (Value.bool (Op.bytesLess s.toList (⟨#[53, 48]⟩ : ByteArray).toList)) W = _
  rw [e]
 unfold cenB
 cases hb : Op.bytesLess s.toList [53, 48]
 ·rw [hb] at hc
  go_enter Tryz.func136, Tryz.ntmps136
  go_wp2
  go_ret
  exact ⟨rfl, rfl⟩
 ·rw [hb] at hc
  go_enter Tryz.func136, Tryz.ntmps136
  go_wp2
  go_ret
  exact ⟨rfl, rfl⟩
def rdTx (s : ByteArray) : ByteArray := if s.size = 13 then cenB s ++ s else s
def rdOk (s : ByteArray) : Bool := (decide (s.size = 13) || decide (s.size = 15)) && txOk (rdTx s)
def rdV (s : ByteArray) : Int := if s.size = 13 ∨ s.size = 15 then txV (rdTx s) else 0
theorem cen_size (s : ByteArray) : (cenB s).size = 2 := by unfold cenB; split <;> rfl
set_option maxHeartbeats 1600000 in
theorem implRead_any (s : ByteArray) (w : World) (hT : MTab w) (hP : TabP w) (hEr : Err w) : Calls Tryz.prog 115 #[.string s] w fun e w' => e = .returned (.tuple #[.int .i64 (rdV s), .bool (rdOk s)]) ∧ Ext w w' := by
 by_cases h13 : s.size = 13
 ·have e1 : rdTx s = cenB s ++ s := by unfold rdTx; rw [if_pos h13]
  have e2 : rdOk s = txOk (cenB s ++ s) := by unfold rdOk; rw [e1]; simp [h13]
  have e3 : rdV s = txV (cenB s ++ s) := by unfold rdV; rw [e1, if_pos (Or.inl h13)]
  have hz : (cenB s ++ s).size = 15 := by rw [ByteArray.size_append, cen_size, h13]
  have hadd := add_rule (R := cenB s ++ s) rfl (by rw [cen_size, h13]; omega)
  have HC := hide (cen_any s w)
  rw [e2, e3]
  have HR := hide (readLong_any (cenB s ++ s) hz w hT hP hEr)
  have h13' : ((s.size : Int) == 13) = true := by simp; omega
  generalize txOk (cenB s ++ s) = OK at *
  generalize txV (cenB s ++ s) = V at *
  generalize cenB s ++ s = R at *
  generalize cenB s = C at *
  clear e1 e2 e3 hz hT hP hEr
  rw [show (s.size : Int) = 13 by omega] at h13'
  go_enter Tryz.func115, Tryz.ntmps115
  go_wp2_with (first | (go_at_call 136; refine HC.out.mono ?_; rintro e w1 ⟨rfl, hw⟩; obtain rfl := hw.symm) | (go_at_call 137; refine HR.out.mono ?_; rintro e w2 ⟨rfl, hE2⟩; have HE := hide hE2; clear hE2))
  go_ret2
  exact ⟨rfl, HE.out⟩
 ·by_cases h15 : s.size = 15
  ·have e1 : rdTx s = s := by unfold rdTx; rw [if_neg h13]
   have e2 : rdOk s = txOk s := by unfold rdOk; rw [e1]; simp [h15]
   have e3 : rdV s = txV s := by unfold rdV; rw [e1, if_pos (Or.inr h15)]
   rw [e2, e3]
   have HR := hide (readLong_any s h15 w hT hP hEr)
   generalize txOk s = OK at *
   generalize txV s = V at *
   clear e1 e2 e3 hT hP hEr h13
   go_enter Tryz.func115, Tryz.ntmps115
   go_wp2_with (first | (go_at_call 137; refine HR.out.mono ?_; rintro e w2 ⟨rfl, hE2⟩; have HE := hide hE2; clear hE2))
   go_ret2
   exact ⟨rfl, HE.out⟩
  ·have e2 : rdOk s = false := by unfold rdOk; simp [h13, h15]
   have e3 : rdV s = 0 := by unfold rdV; rw [if_neg (by omega)]
   rw [e2, e3]
   have k1 : ((s.size : Int) == 13) = false := by simp; omega
   have k2 : ((s.size : Int) == 15) = false := by simp; omega
   clear e2 e3 hT hP hEr h13 h15
   go_enter Tryz.func115, Tryz.ntmps115
   go_wp2
   go_ret2
   exact ⟨rfl, Ext.refl _⟩
end Go.Proofs.YtkogbinfhoiggaaGreatDoor
