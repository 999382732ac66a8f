/- Plain facts: texts of times by their bytes. Plain facts: texts of times are read back, and stand in the order of times. Where the parts of a written list of what is void stand; plain numbers. Walks: the program reads times and a list of what is void out of pieces. Walks of the law's marks: markIntS writes k, k+1, .. into a slice that may be written; heldIntS finds them there. Walks: marks in lists of strings; what marks may have turned. -/
import Derived.Test.YtkogbinfhoiggaaGreatDoorCx39
import Derived.Test.YtkogbinfhoiggaaGreatDoorCx38
namespace Go.Proofs.YtkogbinfhoiggaaGreatDoor
set_option linter.unusedVariables false
set_option linter.unusedSimpArgs false
section
open Go.RowKit Go.Sort
theorem bt_ext (s : ByteArray) (b i : Nat) (hb : b ≤ s.size) (hi : i < b) : bt (s.extract 0 b) i = bt s i := by
 have h1 : i < (s.extract 0 b).size := by rw [ByteArray.size_extract]; omega
 rw [← bt_get _ i h1, ← bt_get s i (by omega), ByteArray.getElem_extract]
 simp
theorem dig_cut (s : ByteArray) (b : Nat) (hb : b ≤ s.size) : digB (s.extract 0 b) = allN dgB s b := by
 have hz : (s.extract 0 b).size = b := by rw [ByteArray.size_extract]; omega
 unfold digB
 rw [hz]
 apply Bool.eq_iff_iff.2
 rw [allN_iff, allN_iff]
 constructor
 ·intro h i hi
  rw [← bt_ext s b i hb hi]
  exact h i hi
 ·intro h i hi
  rw [bt_ext s b i hb hi]
  exact h i hi
def vp (s : ByteArray) (i : Nat) : Nat := 10 * (bt s (2 * i) - 48) + (bt s (2 * i + 1) - 48)
theorem dgB_dgt (b : UInt8) : dgB b.toNat = decide (dgtA b) := by
 unfold dgB
 rw [← Bool.decide_and]
 exact decide_eq_decide.2 Iff.rfl
theorem allN14 {b0 b1 b2 b3 b4 b5 b6 b7 b8 b9 b10 b11 b12 b13 b14 : UInt8} : allN dgB ⟨#[b0, b1, b2, b3, b4, b5, b6, b7, b8, b9, b10, b11, b12, b13, b14]⟩ 14 = allD [b0, b1, b2, b3, b4, b5, b6, b7, b8, b9, b10, b11, b12, b13] := by
 apply Bool.eq_iff_iff.2
 rw [allN_iff, allD_iff]
 have k : ∀ b : UInt8, dgB b.toNat = true ↔ dgtA b := fun b => by rw [dgB_dgt, decide_eq_true_eq]
 constructor
 ·intro h
  exact ⟨(k _).1 (h 0 (by omega)), (k _).1 (h 1 (by omega)), (k _).1 (h 2 (by omega)), (k _).1 (h 3 (by omega)), (k _).1 (h 4 (by omega)), (k _).1 (h 5 (by omega)), (k _).1 (h 6 (by omega)), (k _).1 (h 7 (by omega)), (k _).1 (h 8 (by omega)), (k _).1 (h 9 (by omega)), (k _).1 (h 10 (by omega)), (k _).1 (h 11 (by omega)), (k _).1 (h 12 (by omega)), (k _).1 (h 13 (by omega))⟩
 ·rintro ⟨h0, h1, h2, h3, h4, h5, h6, h7, h8, h9, h10, h11, h12, h13⟩ i hi
  have : i = 0 ∨ i = 1 ∨ i = 2 ∨ i = 3 ∨ i = 4 ∨ i = 5 ∨ i = 6 ∨ i = 7 ∨ i = 8 ∨ i = 9 ∨ i = 10 ∨ i = 11 ∨ i = 12 ∨ i = 13 := by omega
  rcases this with rfl | rfl | rfl | rfl | rfl | rfl | rfl | rfl | rfl | rfl | rfl | rfl | rfl | rfl
  ·exact (k _).2 h0
  ·exact (k _).2 h1
  ·exact (k _).2 h2
  ·exact (k _).2 h3
  ·exact (k _).2 h4
  ·exact (k _).2 h5
  ·exact (k _).2 h6
  ·exact (k _).2 h7
  ·exact (k _).2 h8
  ·exact (k _).2 h9
  ·exact (k _).2 h10
  ·exact (k _).2 h11
  ·exact (k _).2 h12
  ·exact (k _).2 h13
theorem u90 (b : UInt8) : decide (b = 90) = decide (b.toNat = 90) := by
 apply decide_eq_decide.2
 exact ⟨fun h => by rw [h]; rfl, fun h => UInt8.toNat_inj.1 (h.trans rfl)⟩
def q15 (s : ByteArray) : Bool := decide (vp s 4 ≤ 23 ∧ vp s 5 ≤ 59 ∧ vp s 6 ≤ 59) && tOk ((100 * vp s 0 + vp s 1 : Nat) : Int) (vp s 2 : Int) (vp s 3 : Int) ((3600 * vp s 4 + 60 * vp s 5 + vp s 6 : Nat) : Int)
theorem tx15 {s : ByteArray} (h : s.size = 15) : txOk s = (decide (bt s 14 = 90) && (allN dgB s 14 && q15 s)) ∧ txV s = if txOk s then tTm ((100 * vp s 0 + vp s 1 : Nat) : Int) (vp s 2 : Int) (vp s 3 : Int) ((3600 * vp s 4 + 60 * vp s 5 + vp s 6 : Nat) : Int) else 0 := by
 obtain ⟨b0, b1, b2, b3, b4, b5, b6, b7, b8, b9, b10, b11, b12, b13, b14, hl⟩ := list15 (l := s.data.toList) (by rw [Array.length_toList]; exact h)
 obtain rfl := ba_of hl
 have e : txOk ⟨[b0, b1, b2, b3, b4, b5, b6, b7, b8, b9, b10, b11, b12, b13, b14].toArray⟩ = rtOk b0 b1 b2 b3 b4 b5 b6 b7 b8 b9 b10 b11 b12 b13 b14 := rfl
 refine ⟨?_, rfl⟩
 rw [e]
 unfold rtOk
 rw [u90, ← allN14]
 rfl
theorem list13 {l : List UInt8} (h : l.length = 13) : ∃ b0 b1 b2 b3 b4 b5 b6 b7 b8 b9 b10 b11 b12, l = [b0, b1, b2, b3, b4, b5, b6, b7, b8, b9, b10, b11, b12] := by
 match l, h with
 | [b0, b1, b2, b3, b4, b5, b6, b7, b8, b9, b10, b11, b12], _ => exact ⟨b0, b1, b2, b3, b4, b5, b6, b7, b8, b9, b10, b11, b12, rfl⟩
def yr2 (n : Nat) : Nat := if 50 ≤ n then 1900 + n else 2000 + n
def q13 (s : ByteArray) : Bool := decide (vp s 3 ≤ 23 ∧ vp s 4 ≤ 59 ∧ vp s 5 ≤ 59) && tOk (yr2 (vp s 0) : Int) (vp s 1 : Int) (vp s 2 : Int) ((3600 * vp s 3 + 60 * vp s 4 + vp s 5 : Nat) : Int)
theorem less_year {b0 b1 : UInt8} (h0 : dgtA b0) (h1 : dgtA b1) (r : List UInt8) : Op.bytesLess (b0 :: b1 :: r) [53, 48] = decide (v2 b0 b1 < 50) := by
 obtain ⟨a0, a1⟩ := h0
 obtain ⟨c0, c1⟩ := h1
 have e53 : (53 : UInt8).toNat = 53 := rfl
 have e48 : (48 : UInt8).toNat = 48 := rfl
 have hr : Op.bytesLess r [] = false := by cases r <;> rfl
 simp only [Op.bytesLess, hr, Bool.and_false, Bool.or_false]
 apply Bool.eq_iff_iff.2
 simp only [Bool.or_eq_true, Bool.and_eq_true, decide_eq_true_eq, beq_iff_eq, UInt8.lt_iff_toNat_lt, ← UInt8.toNat_inj, e53, e48]
 unfold v2
 omega
theorem l13_cat (b0 b1 b2 b3 b4 b5 b6 b7 b8 b9 b10 b11 b12 : UInt8) : ∀ x y : UInt8, (⟨#[x, y]⟩ : ByteArray) ++ (⟨[b0, b1, b2, b3, b4, b5, b6, b7, b8, b9, b10, b11, b12].toArray⟩ : ByteArray) = ⟨[x, y, b0, b1, b2, b3, b4, b5, b6, b7, b8, b9, b10, b11, b12].toArray⟩ := fun x y => by
 rw [show (⟨#[x, y]⟩ : ByteArray) = ⟨[x, y].toArray⟩ from rfl, ba_app]
 rfl
theorem l13_ok (b0 b1 b2 b3 b4 b5 b6 b7 b8 b9 b10 b11 b12 : UInt8) : ∀ x y : UInt8, txOk ⟨[x, y, b0, b1, b2, b3, b4, b5, b6, b7, b8, b9, b10, b11, b12].toArray⟩ = rtOk x y b0 b1 b2 b3 b4 b5 b6 b7 b8 b9 b10 b11 b12 := fun _ _ => rfl
theorem l13_v (b0 b1 b2 b3 b4 b5 b6 b7 b8 b9 b10 b11 b12 : UInt8) : ∀ x y : UInt8, txV ⟨[x, y, b0, b1, b2, b3, b4, b5, b6, b7, b8, b9, b10, b11, b12].toArray⟩ = rtV x y b0 b1 b2 b3 b4 b5 b6 b7 b8 b9 b10 b11 b12 := fun _ _ => rfl
theorem l13_dig (b0 b1 b2 b3 b4 b5 b6 b7 b8 b9 b10 b11 b12 : UInt8) : allN dgB ⟨[b0, b1, b2, b3, b4, b5, b6, b7, b8, b9, b10, b11, b12].toArray⟩ 12 = allD [b0, b1, b2, b3, b4, b5, b6, b7, b8, b9, b10, b11] := by
 have k : ∀ b : UInt8, dgB b.toNat = true ↔ dgtA b := fun b => by rw [dgB_dgt, decide_eq_true_eq]
 have k2 : allD [b0, b1, b2, b3, b4, b5, b6, b7, b8, b9, b10, b11] = true ↔ dgtA b0 ∧ dgtA b1 ∧ dgtA b2 ∧ dgtA b3 ∧ dgtA b4 ∧ dgtA b5 ∧ dgtA b6 ∧ dgtA b7 ∧ dgtA b8 ∧ dgtA b9 ∧ dgtA b10 ∧ dgtA b11 := by simp [allD]
 apply Bool.eq_iff_iff.2
 rw [allN_iff, k2]
 constructor
 ·intro h
  exact ⟨(k _).1 (h 0 (by omega)), (k _).1 (h 1 (by omega)), (k _).1 (h 2 (by omega)), (k _).1 (h 3 (by omega)), (k _).1 (h 4 (by omega)), (k _).1 (h 5 (by omega)), (k _).1 (h 6 (by omega)), (k _).1 (h 7 (by omega)), (k _).1 (h 8 (by omega)), (k _).1 (h 9 (by omega)), (k _).1 (h 10 (by omega)), (k _).1 (h 11 (by omega))⟩
 ·rintro ⟨h0, h1, h2, h3, h4, h5, h6, h7, h8, h9, h10, h11⟩ i hi
  have : i = 0 ∨ i = 1 ∨ i = 2 ∨ i = 3 ∨ i = 4 ∨ i = 5 ∨ i = 6 ∨ i = 7 ∨ i = 8 ∨ i = 9 ∨ i = 10 ∨ i = 11 := by omega
  rcases this with rfl | rfl | rfl | rfl | rfl | rfl | rfl | rfl | rfl | rfl | rfl | rfl
  ·exact (k _).2 h0
  ·exact (k _).2 h1
  ·exact (k _).2 h2
  ·exact (k _).2 h3
  ·exact (k _).2 h4
  ·exact (k _).2 h5
  ·exact (k _).2 h6
  ·exact (k _).2 h7
  ·exact (k _).2 h8
  ·exact (k _).2 h9
  ·exact (k _).2 h10
  ·exact (k _).2 h11
theorem l13_last (b0 b1 b2 b3 b4 b5 b6 b7 b8 b9 b10 b11 b12 : UInt8) : decide (bt ⟨[b0, b1, b2, b3, b4, b5, b6, b7, b8, b9, b10, b11, b12].toArray⟩ 12 = 90) = decide (b12 = 90) := (u90 b12).symm
theorem l13_cen (b0 b1 b2 b3 b4 b5 b6 b7 b8 b9 b10 b11 b12 : UInt8) : allD [b0, b1, b2, b3, b4, b5, b6, b7, b8, b9, b10, b11] = true → cenB ⟨[b0, b1, b2, b3, b4, b5, b6, b7, b8, b9, b10, b11, b12].toArray⟩ = if v2 b0 b1 < 50 then ⟨#[50, 48]⟩ else ⟨#[49, 57]⟩ := fun hd => by
 have hd2 : dgtA b0 ∧ dgtA b1 := by simp [allD] at hd; exact ⟨hd.1, hd.2.1⟩
 unfold cenB
 rw [Lib.toList_data]
 show (if Op.bytesLess [b0, b1, b2, b3, b4, b5, b6, b7, b8, b9, b10, b11, b12] [53, 48] = true then _ else _) = _
 rw [less_year hd2.1 hd2.2]
 by_cases hv : v2 b0 b1 < 50
 ·simp [hv]
 ·simp [hv]
theorem tx13 {s : ByteArray} (h : s.size = 13) : txOk (cenB s ++ s) = (decide (bt s 12 = 90) && (allN dgB s 12 && q13 s)) ∧ txV (cenB s ++ s) = if txOk (cenB s ++ s) then tTm (yr2 (vp s 0) : Int) (vp s 1 : Int) (vp s 2 : Int) ((3600 * vp s 3 + 60 * vp s 4 + vp s 5 : Nat) : Int) else 0 := by
 obtain ⟨b0, b1, b2, b3, b4, b5, b6, b7, b8, b9, b10, b11, b12, hl⟩ := list13 (l := s.data.toList) (by rw [Array.length_toList]; exact h)
 obtain rfl := ba_of hl
 have hcat := l13_cat b0 b1 b2 b3 b4 b5 b6 b7 b8 b9 b10 b11 b12
 have htx := l13_ok b0 b1 b2 b3 b4 b5 b6 b7 b8 b9 b10 b11 b12
 have htv := l13_v b0 b1 b2 b3 b4 b5 b6 b7 b8 b9 b10 b11 b12
 have hdig := l13_dig b0 b1 b2 b3 b4 b5 b6 b7 b8 b9 b10 b11 b12
 have h12 := l13_last b0 b1 b2 b3 b4 b5 b6 b7 b8 b9 b10 b11 b12
 have hcn := l13_cen b0 b1 b2 b3 b4 b5 b6 b7 b8 b9 b10 b11 b12
 have hadj : ∀ x y : UInt8, dgtA x → dgtA y → allD [x, y, b0, b1, b2, b3, b4, b5, b6, b7, b8, b9, b10, b11] = allD [b0, b1, b2, b3, b4, b5, b6, b7, b8, b9, b10, b11] := fun x y hx hy => by simp [allD, hx, hy]
 rw [h12, hdig]
 have hcc : cenB ⟨[b0, b1, b2, b3, b4, b5, b6, b7, b8, b9, b10, b11, b12].toArray⟩ = ⟨#[50, 48]⟩ ∨ cenB ⟨[b0, b1, b2, b3, b4, b5, b6, b7, b8, b9, b10, b11, b12].toArray⟩ = ⟨#[49, 57]⟩ := by
  unfold cenB
  split
  ·exact .inl rfl
  ·exact .inr rfl
 have p0 : vp ⟨[b0, b1, b2, b3, b4, b5, b6, b7, b8, b9, b10, b11, b12].toArray⟩ 0 = v2 b0 b1 := rfl
 have p1 : vp ⟨[b0, b1, b2, b3, b4, b5, b6, b7, b8, b9, b10, b11, b12].toArray⟩ 1 = v2 b2 b3 := rfl
 have p2 : vp ⟨[b0, b1, b2, b3, b4, b5, b6, b7, b8, b9, b10, b11, b12].toArray⟩ 2 = v2 b4 b5 := rfl
 have p3 : vp ⟨[b0, b1, b2, b3, b4, b5, b6, b7, b8, b9, b10, b11, b12].toArray⟩ 3 = v2 b6 b7 := rfl
 have p4 : vp ⟨[b0, b1, b2, b3, b4, b5, b6, b7, b8, b9, b10, b11, b12].toArray⟩ 4 = v2 b8 b9 := rfl
 have p5 : vp ⟨[b0, b1, b2, b3, b4, b5, b6, b7, b8, b9, b10, b11, b12].toArray⟩ 5 = v2 b10 b11 := rfl
 have c20 : v2 50 48 = 20 := by decide
 have c19 : v2 49 57 = 19 := by decide
 unfold q13
 rw [p0, p1, p2, p3, p4, p5]
 generalize (⟨[b0, b1, b2, b3, b4, b5, b6, b7, b8, b9, b10, b11, b12].toArray⟩ : ByteArray) = SS at *
 have d50 : dgtA 50 := by decide
 have d48 : dgtA 48 := by decide
 have d49 : dgtA 49 := by decide
 have d57 : dgtA 57 := by decide
 cases hd : allD [b0, b1, b2, b3, b4, b5, b6, b7, b8, b9, b10, b11]
 ·have hf : txOk (cenB SS ++ SS) = false := by
   rcases hcc with e | e
   ·rw [e, hcat, htx]; unfold rtOk; rw [hadj _ _ d50 d48, hd, Bool.false_and, Bool.and_false]
   ·rw [e, hcat, htx]; unfold rtOk; rw [hadj _ _ d49 d57, hd, Bool.false_and, Bool.and_false]
  refine ⟨by rw [hf, Bool.false_and, Bool.and_false], ?_⟩
  rcases hcc with e | e
  ·rw [hf]; rw [e, hcat, htx] at hf; rw [e, hcat, htv]; unfold rtV; rw [hf, if_neg Bool.false_ne_true, if_neg Bool.false_ne_true]
  ·rw [hf]; rw [e, hcat, htx] at hf; rw [e, hcat, htv]; unfold rtV; rw [hf, if_neg Bool.false_ne_true, if_neg Bool.false_ne_true]
 ·rw [hcn hd, Bool.true_and]
  by_cases hv : v2 b0 b1 < 50
  ·have hy : yr2 (v2 b0 b1) = rtY 50 48 b0 b1 := by
    unfold yr2 rtY
    rw [c20]
    generalize v2 b0 b1 = n at hv ⊢
    rw [if_neg (by omega : ¬ 50 ≤ n)]
   rw [if_pos hv, hcat, htx, htv]
   unfold rtV
   rw [hy]
   refine ⟨?_, by unfold rtS; rfl⟩
   unfold rtOk
   rw [hadj _ _ d50 d48, hd, Bool.true_and]
   unfold rtS
   rfl
  ·have hy : yr2 (v2 b0 b1) = rtY 49 57 b0 b1 := by
    unfold yr2 rtY
    rw [c19]
    generalize v2 b0 b1 = n at hv ⊢
    rw [if_pos (by omega : 50 ≤ n)]
   rw [if_neg hv, hcat, htx, htv]
   unfold rtV
   rw [hy]
   refine ⟨?_, by unfold rtS; rfl⟩
   unfold rtOk
   rw [hadj _ _ d49 d57, hd, Bool.true_and]
   unfold rtS
   rfl
theorem tx_long {t : Int} {y m d s : Nat} (h : IsDay t y m d s) : txOk (longB y m d s) = true ∧ txV (longB y m d s) = t := by
 obtain ⟨b0, b1, b2, b3, b4, b5, b6, b7, b8, b9, b10, b11, b12, b13, b14, hl⟩ := list15 (longL_len y m d s)
 obtain ⟨k1, k2⟩ := read_long h.toDayOk h.s1 hl
 have e : (longB y m d s).data.toList = longL y m d s := by show (longL y m d s).toArray.toList = _; rw [List.toList_toArray]
 unfold txOk txV
 rw [e, hl]
 exact ⟨k1, k2.trans h.t1.symm⟩
theorem rd_long {t : Int} {y m d s : Nat} (h : IsDay t y m d s) : rdOk (longB y m d s) = true ∧ rdV (longB y m d s) = t := by
 have hz : (longB y m d s).size = 15 := rfl
 obtain ⟨k1, k2⟩ := tx_long h
 have e1 : rdTx (longB y m d s) = longB y m d s := by unfold rdTx; rw [if_neg (by rw [hz]; omega)]
 refine ⟨?_, ?_⟩
 ·unfold rdOk; rw [e1, k1, hz]; rfl
 ·unfold rdV; rw [e1, k2, if_pos (Or.inr hz)]
theorem cen_short {y : Nat} (m d s : Nat) (h0 : 1950 ≤ y) (h1 : y ≤ 2049) : cenB (shortB y m d s) ++ shortB y m d s = longB y m d s := by
 have e : (shortB y m d s).toList = shortL y m d s := by rw [Lib.toList_data]; show (shortL y m d s).toArray.toList = _; rw [List.toList_toArray]
 have hb : shortL y m d s = UInt8.ofNat (48 + y / 10 % 10) :: UInt8.ofNat (48 + y % 10) :: restL m d s := rfl
 have e1 := ofNat_toNat (n := 48 + y / 10 % 10) (by omega)
 have e2 := ofNat_toNat (n := 48 + y % 10) (by omega)
 have hv : v2 (UInt8.ofNat (48 + y / 10 % 10)) (UInt8.ofNat (48 + y % 10)) = y % 100 := by unfold v2; rw [e1, e2]; omega
 have hl := less_year (b0 := UInt8.ofNat (48 + y / 10 % 10)) (b1 := UInt8.ofNat (48 + y % 10)) (by unfold dgtA; omega) (by unfold dgtA; omega) (restL m d s)
 have hL : longB y m d s = (⟨(two (y / 100)).toArray⟩ : ByteArray) ++ shortB y m d s := by
  unfold longB shortB longL shortL
  rw [ba_app]
 have hc : cenB (shortB y m d s) = ⟨(two (y / 100)).toArray⟩ := by
  unfold cenB
  rw [e, hb, hl, hv]
  by_cases hy : y % 100 < 50
  ·rw [if_pos (by simp [hy]), show y / 100 = 20 by omega]
   rfl
  ·rw [if_neg (by simp [hy]), show y / 100 = 19 by omega]
   rfl
 rw [hc, hL]
theorem rd_short {t : Int} {y m d s : Nat} (h : IsDay t y m d s) (h1 : y ≤ 2049) : rdOk (shortB y m d s) = true ∧ rdV (shortB y m d s) = t := by
 have hz : (shortB y m d s).size = 13 := rfl
 obtain ⟨k1, k2⟩ := tx_long h
 have e1 : rdTx (shortB y m d s) = longB y m d s := by unfold rdTx; rw [if_pos hz, cen_short m d s h.y0 h1]
 refine ⟨?_, ?_⟩
 ·unfold rdOk; rw [e1, k1, hz]; rfl
 ·unfold rdV; rw [e1, k2, if_pos (Or.inl hz)]
end
section
section
variable {x : Nat → It} {n : Nat}
theorem end_at (ht : treeV x n = true) {i : Nat} (hi : i < n) : 0 ≤ endF (fun j => (x j).kid) n 13 i := by
 obtain ⟨e, -, he, -⟩ := tree_part ht hi
 rw [he]
 exact Int.natCast_nonneg _
theorem end_leaf {q m : Nat} (hq : q < n) (h : (x q).kid = 0) : endF (fun j => (x j).kid) n (m + 1) q = ((q + 1 : Nat) : Int) := by
 rw [endF, if_neg (by omega)]
 show kidsF _ (x q).kid.toNat ((q : Int) + 1) = _
 rw [h]
 rfl
theorem flat_kpl (ht : treeV x n = true) {i K : Nat} (hi : i < n) (hK : (x i).kid.toNat = K) (hk : ∀ j, j < K → (x (i + 1 + j)).kid = 0) : (∀ j, j ≤ K → kpl x n i j = i + 1 + j) ∧ endF (fun j => (x j).kid) n 13 i = ((i + 1 + K : Nat) : Int) := by
 obtain ⟨he, hs⟩ := kpl_m (m := 12) (Nat.le_refl _) (end_at ht hi)
 rw [hK] at he hs
 have h : ∀ j, j ≤ K → kpl x n i j = i + 1 + j := fun j => by
  induction j with
  | zero => intro _; rfl
  | succ j ih =>
   intro hj
   have e := ih (by omega)
   obtain ⟨s1, s2, -, -⟩ := hs j (by omega)
   rw [e] at s1 s2
   rw [end_leaf s1 (hk j (by omega))] at s2
   omega
 exact ⟨h, by rw [he, h K (Nat.le_refl _)]⟩
theorem kpl_next (ht : treeV x n = true) {i j q e : Nat} (hi : i < n) (hj : j < (x i).kid.toNat) (hq : kpl x n i j = q) (he : endF (fun j => (x j).kid) n 13 q = ((e : Nat) : Int)) : kpl x n i (j + 1) = e := by
 obtain ⟨-, hs⟩ := kpl_m (m := 12) (Nat.le_refl _) (end_at ht hi)
 obtain ⟨s1, s2, -, -⟩ := hs j hj
 rw [hq] at s2
 have := endF_up (fun j => (x j).kid) n 1 12 q (by rw [s2]; omega)
 rw [show 12 + 1 = 13 from rfl, he, s2] at this
 omega
end
theorem stair (f : Nat → Nat) (D : Nat) : ∀ n a, f a ≤ D → D < f (a + n) → ∃ k, a ≤ k ∧ k < a + n ∧ f k ≤ D ∧ D < f (k + 1)
 | 0, a, h1, h2 => by rw [Nat.add_zero] at h2; omega
 | n + 1, a, h1, h2 => by
  by_cases h : D < f (a + n)
  ·obtain ⟨k, k1, k2, k3, k4⟩ := stair f D n a h1 h
   exact ⟨k, k1, by omega, k3, k4⟩
  ·exact ⟨a + n, by omega, by omega, by omega, h2⟩
theorem inT_day {t : Int} (h : inT t) : ∃ y m d s, IsDay t y m d s := by
 unfold inT at h
 obtain ⟨T, hT⟩ : ∃ T : Nat, t + 631152000 = (T : Int) := ⟨(t + 631152000).toNat, by omega⟩
 have hD : T / 86400 ≤ 54786 := by omega
 obtain ⟨k, -, k2, k3, k4⟩ := stair Yd (T / 86400) 150 0 (Nat.zero_le _) (by show T / 86400 < Yd 150; unfold Yd; omega)
 have hy := Yd_succ k
 obtain ⟨m, m1, m2, m3, m4⟩ := stair (Mb (1950 + k)) (T / 86400 - Yd k) 12 1 (by rw [Mb_one]; exact Nat.zero_le _) (by show _ < Mb (1950 + k) 13; rw [Mb_end]; omega)
 have hs := Mb_succ (1950 + k) m m1 (by omega)
 exact ⟨_, _, _, _, isDay_of (t := t) (D := T / 86400) (s := T % 86400) (k := k) (m := m) (r := T / 86400 - Yd k - Mb (1950 + k) m) (by omega) hD (by omega) (by omega) m1 (by omega) (by omega)⟩
theorem short_year {t : Int} {y m d s : Nat} (h : IsDay t y m d s) (ht : t ≤ 2524607999) : y ≤ 2049 := by
 have e := h.t1
 have h0 := h.y0
 unfold tmV days at e
 by_cases hy : y ≤ 2049
 ·exact hy
 ·have : Yd 100 ≤ Yd (y - 1950) := by unfold Yd; omega
  have h100 : Yd 100 = 36525 := rfl
  omega
theorem tiC_rd {g : Int → Nat × Nat × Nat × Nat} (hg : DayG g) {t : Int} (h : inT t) {u : It} (hu : ct u = tiC g t) : mdT u.tag = false ∧ u.kid = 0 ∧ rdOk (txS u) = true ∧ rdV (txS u) = t := by
 obtain ⟨y, m, d, s, hd⟩ := inT_day h
 have e := hg t y m d s hd
 unfold tiC at hu
 by_cases c : t ≤ 2524607999
 ·rw [if_pos c] at hu
  have h1 : u.tag = 23 := congrArg Ic.tag hu
  rw [txS_of hu]
  unfold stB
  rw [e]
  exact ⟨by unfold mdT; rw [h1]; decide, congrArg Ic.kid hu, rd_short hd (short_year hd c)⟩
 ·rw [if_neg c] at hu
  have h1 : u.tag = 24 := congrArg Ic.tag hu
  rw [txS_of hu]
  unfold ltB
  rw [e]
  exact ⟨by unfold mdT; rw [h1]; decide, congrArg Ic.kid hu, rd_long hd⟩
structure LayC (x : Nat → It) (n : Nat) (c : Cl) : Prop where
 r0 : mdT (x 0).tag = true
 rk : (x 0).kid.toNat = 2
 rz : kpl x n 0 1 = 8 + c.ni + c.nv
 a0 : mdT (x 1).tag = true
 ak : (x 1).kid.toNat = 4
 q0 : kpl x n 1 0 = 2
 q1 : kpl x n 1 1 = 3
 q2 : kpl x n 1 2 = 4 + c.ni
 q3 : kpl x n 1 3 = 7 + c.ni
 i2 : ct (x 2) = intC c.alg
 n0 : mdT (x 3).tag = true
 nk : (x 3).kid.toNat = c.ni
 np : ∀ j, j ≤ c.ni → kpl x n 3 j = 4 + j
 nt : ∀ j, j < c.ni → ct (x (4 + j)) = txC 12 (c.fi j)
 t0 : mdT (x (4 + c.ni)).tag = true
 tk : (x (4 + c.ni)).kid.toNat = 2
 tp : ∀ j, j ≤ 2 → kpl x n (4 + c.ni) j = 5 + c.ni + j
 t1 : mdT (x (5 + c.ni)).tag = false ∧ rdOk (txS (x (5 + c.ni))) = true ∧ rdV (txS (x (5 + c.ni))) = c.fr
 t2 : mdT (x (6 + c.ni)).tag = false ∧ rdOk (txS (x (6 + c.ni))) = true ∧ rdV (txS (x (6 + c.ni))) = c.to
 s0 : mdT (x (7 + c.ni)).tag = true
 sk : (x (7 + c.ni)).kid.toNat = c.nv
 sp : ∀ j, j ≤ c.nv → kpl x n (7 + c.ni) j = 8 + c.ni + j
 st : ∀ j, j < c.nv → ct (x (8 + c.ni + j)) = intC (c.fv j)
 b : ct (x (8 + c.ni + c.nv)) = ⟨3, 0, 0 :: (List.range c.ng).map c.fg⟩
theorem md48 {x : Nat → It} {i : Nat} {k : Int} {b : List Int} (h : ct (x i) = ⟨48, k, b⟩) : mdT (x i).tag = true := by
 have h1 : (x i).tag = 48 := congrArg Ic.tag h
 unfold mdT
 rw [h1]
 decide
theorem kd48 {x : Nat → It} {i k : Nat} {t : Int} {b : List Int} (h : ct (x i) = ⟨t, (k : Int), b⟩) : (x i).kid.toNat = k := by
 have h1 : (x i).kid = (k : Int) := congrArg Ic.kid h
 rw [h1]
 rfl
theorem layC {g : Int → Nat × Nat × Nat × Nat} (hg : DayG g) {x : Nat → It} {n : Nat} (ht : treeV x n = true) {c : Cl} (hO : ClOk c) (hn : n = (seC (clC g c) c.ng c.fg).length) (hA : AtI x 0 (seC (clC g c) c.ng c.fg)) : LayC x n c := by
 have hnm : (nmC c.ni c.fi).length = 1 + c.ni := by unfold nmC; rw [List.length_cons, List.length_map, List.length_range, Nat.add_comm]
 have hns : (nsC c.nv c.fv).length = 1 + c.nv := by unfold nsC; rw [List.length_cons, List.length_map, List.length_range, Nat.add_comm]
 have hcl : (clC g c).length = 7 + c.ni + c.nv := by
  unfold clC tmC
  simp only [List.length_cons, List.length_append, List.length_nil, hnm, hns]
  omega
 have hn' : n = 9 + c.ni + c.nv := by
  rw [hn]
  unfold seC
  simp only [List.length_cons, List.length_append, List.length_nil, hcl]
  omega
 unfold seC at hA
 obtain ⟨e0, h1⟩ := hA.tail
 rw [Nat.zero_add] at h1
 obtain ⟨eb, -⟩ := h1.right.tail
 rw [hcl, show 1 + (7 + c.ni + c.nv) = 8 + c.ni + c.nv by omega] at eb
 have h2 := h1.left
 unfold clC at h2
 obtain ⟨e1, h3⟩ := h2.tail
 obtain ⟨e2, -⟩ := h3.left.tail
 have h4 := h3.right
 rw [show 1 + 1 + [intC c.alg].length = 3 from rfl] at h4
 have h5 := h4.left
 unfold nmC at h5
 obtain ⟨e3, h6⟩ := h5.tail
 have h7 := h4.right
 rw [hnm, show 3 + (1 + c.ni) = 4 + c.ni by omega] at h7
 have h8 := h7.left
 unfold tmC at h8
 obtain ⟨e4, h9⟩ := h8.tail
 obtain ⟨e5, -⟩ := h9.left.tail
 obtain ⟨e6, -⟩ := h9.right.tail
 have h10 := h7.right
 have htl : (tmC g c.fr c.to).length = 3 := by unfold tmC; rfl
 rw [htl, show 4 + c.ni + 3 = 7 + c.ni by omega] at h10
 unfold nsC at h10
 obtain ⟨e7, h11⟩ := h10.tail
 rw [show 7 + c.ni + 1 = 8 + c.ni by omega] at h11
 rw [show 3 + 1 = 4 from rfl] at h6
 rw [show 4 + c.ni + 1 = 5 + c.ni by omega] at e5
 rw [show 4 + c.ni + 1 + [tiC g c.fr].length = 6 + c.ni by simp; omega] at e6
 have e0' : ct (x 0) = ⟨48, ((2 : Nat) : Int), []⟩ := e0
 have e1' : ct (x 1) = ⟨48, ((4 : Nat) : Int), []⟩ := e1
 have e2' : ct (x 2) = intC c.alg := e2
 have e4' : ct (x (4 + c.ni)) = ⟨48, ((2 : Nat) : Int), []⟩ := e4
 have nt : ∀ j, j < c.ni → ct (x (4 + j)) = txC 12 (c.fi j) := fun j hj => h6 j _ (by simp [hj])
 have st : ∀ j, j < c.nv → ct (x (8 + c.ni + j)) = intC (c.fv j) := fun j hj => h11 j _ (by simp [hj])
 have T1 := tiC_rd hg hO.fr e5
 have T2 := tiC_rd hg hO.to e6
 have k0 := kd48 e0'
 have k1 := kd48 e1'
 have k3 := kd48 e3
 have k4 := kd48 e4'
 have k7 := kd48 e7
 obtain ⟨np, ne⟩ := flat_kpl ht (i := 3) (by omega) k3 (fun j hj => by rw [show 3 + 1 + j = 4 + j by omega]; exact congrArg Ic.kid (nt j hj))
 obtain ⟨tp, te⟩ := flat_kpl ht (i := 4 + c.ni) (by omega) k4 (fun j hj => by
  have : j = 0 ∨ j = 1 := by omega
  rcases this with rfl | rfl
  ·rw [show 4 + c.ni + 1 + 0 = 5 + c.ni by omega]; exact T1.2.1
  ·rw [show 4 + c.ni + 1 + 1 = 6 + c.ni by omega]; exact T2.2.1)
 obtain ⟨sp, se⟩ := flat_kpl ht (i := 7 + c.ni) (by omega) k7 (fun j hj => by rw [show 7 + c.ni + 1 + j = 8 + c.ni + j by omega]; exact congrArg Ic.kid (st j hj))
 have q0 : kpl x n 1 0 = 2 := rfl
 have q1 : kpl x n 1 1 = 3 := kpl_next ht (by omega) (by omega) q0 (end_leaf (m := 12) (by omega) (congrArg Ic.kid e2'))
 have q2 : kpl x n 1 2 = 4 + c.ni := kpl_next ht (by omega) (by omega) q1 (by rw [ne, show 3 + 1 + c.ni = 4 + c.ni by omega])
 have q3 : kpl x n 1 3 = 7 + c.ni := kpl_next ht (by omega) (by omega) q2 (by rw [te, show 4 + c.ni + 1 + 2 = 7 + c.ni by omega])
 have q4 : kpl x n 1 4 = 8 + c.ni + c.nv := kpl_next ht (by omega) (by omega) q3 (by rw [se, show 7 + c.ni + 1 + c.nv = 8 + c.ni + c.nv by omega])
 have e1e : endF (fun j => (x j).kid) n 13 1 = ((8 + c.ni + c.nv : Nat) : Int) := by
  have := (kpl_m (m := 12) (Nat.le_refl _) (end_at ht (show 1 < n by omega))).1
  rw [k1, q4] at this
  exact this
 exact { r0 := md48 e0', rk := k0, rz := kpl_next ht (by omega) (by omega) (show kpl x n 0 0 = 1 from rfl) e1e, a0 := md48 e1', ak := k1, q0 := q0, q1 := q1, q2 := q2, q3 := q3, i2 := e2', n0 := md48 e3, nk := k3, np := np, nt := nt, t0 := md48 e4', tk := k4, tp := fun j hj => by rw [tp j hj]; omega, t1 := ⟨T1.1, T1.2.2⟩, t2 := ⟨T2.1, T2.2.2⟩, s0 := md48 e7, sk := k7, sp := fun j hj => by rw [sp j hj]; omega, st := st, b := eb }
end
section
open Go.RowKit
structure Tbl (w : World) : Prop where
 m : MTab w
 p : TabP w
 e : Err w
theorem Tbl.ext {w w' : World} (h : Tbl w) (e : Ext w w') : Tbl w' := ⟨h.m.ext e, h.p.ext e, h.e.ext e⟩
def TimP (t : It) : Prop := mdT t.tag = false ∧ rdOk (txS t) = true
def TimR (t : It) (u : Value) : Prop := u = .int .i64 (rdV (txS t))
set_option maxHeartbeats 1600000 in
set_option maxRecDepth 100000 in
theorem readTimePiece_any {x : Nat → It} {n : Nat} {w : World} {m B : Nat} {v : Value} {i : Nat} (hP : PieAt x n w m B v i) (hX : Rdx x n w) (hT : Tbl w) :
  Calls Tryz.prog 83 #[v] w (OrP w (TimP (x i)) (fun u _ => TimR (x i) u)) := by
 have HB := hide (readText_any hP hX)
 have HR : Hid (TimR (x i) (.int .i64 (rdV (txS (x i))))) := hide rfl
 have HT := hide hT
 have HP : Hid (TimP (x i) → TxtP (x i) ∧ rdOk (txS (x i)) = true) := hide (fun h => ⟨h.1, h.2⟩)
 clear hP hX hT
 obtain ⟨s, hs⟩ : ∃ s, txS (x i) = s := ⟨_, rfl⟩
 have Hs := hide hs
 rw [hs] at HP HR
 clear hs
 go_enter Tryz.func83, Tryz.ntmps83
 go_wp2_with fail
 refine HB.out.mono ?_
 rintro e w1 ⟨hE1, ⟨u, rfl, hu⟩ | ⟨⟨ch, rfl⟩, hno⟩⟩
 ·have hu' : u = .string (txS (x i)) := hu
  rw [Hs.out] at hu'
  subst hu'
  have HE1 := hide hE1
  have HC := hide (implRead_any s w1 (HT.out.m.ext hE1) (HT.out.p.ext hE1) (HT.out.e.ext hE1))
  clear hu hE1 HB
  generalize rdV s = z at *
  cases hb : rdOk s
  ·rw [hb] at HC
   have Hno : Hid (¬ TimP (x i)) := hide (fun h => by have := (HP.out h).2; rw [hb] at this; cases this)
   clear hb HP
   go_wp2_with fail
   refine HC.out.mono ?_
   rintro e w2 ⟨rfl, hE2⟩
   have HE2 := hide (HE1.out.trans hE2)
   clear hE2
   go_wp2_with fail
   refine (wantedInt_no _ _).mono ?_
   rintro e w3 ⟨rfl, hw⟩
   obtain rfl := hw.symm
   exact ⟨rfl, HE2.out, .inr ⟨⟨_, rfl⟩, Hno.out⟩⟩
  ·rw [hb] at HC
   clear hb HP
   go_wp2_with fail
   refine HC.out.mono ?_
   rintro e w2 ⟨rfl, hE2⟩
   have HE2 := hide (HE1.out.trans hE2)
   clear hE2
   go_wp2_with fail
   refine (wantedInt_yes _ _).mono ?_
   rintro e w3 ⟨rfl, hw⟩
   obtain rfl := hw.symm
   go_wp2
   go_ret
   exact ⟨HE2.out, .inl ⟨_, rfl, HR.out⟩⟩
 ·exact ⟨rfl, hE1, .inr ⟨⟨_, rfl⟩, fun h => hno (HP.out h).1⟩⟩
def Nox (_ : Nat) : Prop := False
theorem grw_nox {w w' : World} (h : Ext w w') : Grw Nox w w' := .of_ext h
set_option maxHeartbeats 3200000 in
set_option maxRecDepth 100000 in
theorem readTimes_any {x : Nat → It} {n : Nat} {w : World} {m B : Nat} {v : Value} {i : Nat} (hP : PieAt x n w (m + 1) B v i) (hX : Rdx x n w) (hT : Tbl w) (hK : (x i).kid.toNat ≤ 300) :
  Calls Tryz.prog 50 #[v] w (OrP w ((mdT (x i).tag = true ∧ 2 ≤ (x i).kid.toNat) ∧ TimP (x (kpl x n i 0)) ∧ TimP (x (kpl x n i 1))) (fun u _ => ∃ a b, u = .tuple #[a, b] ∧ TimR (x (kpl x n i 0)) a ∧ TimR (x (kpl x n i 1)) b ∧ mdT (x i).tag = true ∧ 2 ≤ (x i).kid.toNat)) := by
 have HB := hide (partsOf_any hP 2 (by decide) hK)
 have HX := hide hX
 have HT := hide hT
 clear hX hP hT
 go_enter Tryz.func50, Tryz.ntmps50
 go_wp2_with fail
 refine HB.out.mono ?_
 rintro e w1 ⟨hE1, ⟨u, rfl, ⟨b, hb, hl, rfl, hc⟩, h1, h2⟩ | ⟨⟨ch, rfl⟩, hno⟩⟩
 ·obtain ⟨u0, c0, p0⟩ := hc 0 (by omega)
  obtain ⟨u1, c1, p1⟩ := hc 1 (by omega)
  have HE1 := hide hE1
  have H12 := hide (And.intro h1 h2)
  have HP0 : Hid (∀ W, Ext w1 W → Calls Tryz.prog 83 #[u0] W (OrP W (TimP (x (kpl x n i 0))) (fun u _ => TimR (x (kpl x n i 0)) u))) := hide (fun W h => readTimePiece_any (p0.ext h) (HX.out.ext (hE1.trans h)) (HT.out.ext (hE1.trans h)))
  have HP1 : Hid (∀ W, Ext w1 W → Calls Tryz.prog 83 #[u1] W (OrP W (TimP (x (kpl x n i 1))) (fun u _ => TimR (x (kpl x n i 1)) u))) := hide (fun W h => readTimePiece_any (p1.ext h) (HX.out.ext (hE1.trans h)) (HT.out.ext (hE1.trans h)))
  have d0 := fun p : ReC Nox w1 => cell_reC c0 (fun h => h) p
  have d1 := fun p : ReC Nox w1 => cell_reC c1 (fun h => h) p
  obtain ⟨K, hKe⟩ : ∃ K, (x i).kid.toNat = K := ⟨_, rfl⟩
  rw [hKe] at h2
  rw [hKe]
  have i0 : 0 < K := by omega
  have i1 : (1 : Int) < (K : Int) := by omega
  clear hE1 hc p0 p1 c0 c1 h1 hKe HB
  go_wp2_with fail
  refine anyK_begin Nox 10 rfl (by kernel_rfl) ?_
  refine anyK_take 0 3 7 rfl (by decide) (by kernel_rfl) (fun _ _ d _ _ h => by cases d <;> exact h) ?_
  repeat (refine headC_step (fun K hK => ?_); go_simp; refine hK _ ?_; clear hK K)
  refine headC_nil ?_
  refine anyK_take 4 3 4 rfl (by decide) (by kernel_rfl) (fun _ _ d _ _ h => by cases d <;> exact h) ?_
  repeat (refine headC_step (fun K hK => ?_); go_simp; refine hK _ ?_; clear hK K)
  refine headC_nil ?_
  clear d0 d1
  refine anyK_one 3 (by kernel_rfl) ?_
  refine stepK_run rfl ?_
  intro w3 h3 K2 hK2
  go_simp
  refine (HP0.out w3 h3).mono ?_
  rintro e w4 ⟨hE4, ⟨a, rfl, ha⟩ | ⟨⟨ch, rfl⟩, hno⟩⟩
  ·have Ha := hide ha
   have HE4 := hide (h3.trans hE4)
   try go_simp
   refine hK2 _ _ (grw_nox HE4.out) ?_
   clear hK2 K2 h3 hE4 ha
   refine anyK_one 7 (by kernel_rfl) ?_
   refine stepK_run rfl ?_
   intro w5 h5 K2 hK2
   go_simp
   refine (HP1.out w5 (HE4.out.trans h5)).mono ?_
   rintro e w6 ⟨hE6, ⟨b', rfl, hb'⟩ | ⟨⟨ch, rfl⟩, hno⟩⟩
   ·have Hb := hide hb'
    have HE6 := hide (HE4.out.trans (h5.trans hE6))
    try go_simp
    refine hK2 _ _ (grw_nox HE6.out) ?_
    clear hK2 K2 h5 hE6 hb'
    refine anyK_take 8 2 0 rfl (by decide) (by kernel_rfl) (fun _ _ d _ _ h => by cases d <;> exact h) ?_
    repeat (refine headC_step (fun K hK => ?_); go_simp; refine hK _ ?_; clear hK K)
    refine headC_nil ?_
    refine anyK_done (by kernel_rfl) ?_ 0
    intro w7 h7
    have HE7 := hide (HE1.out.trans (HE6.out.trans h7))
    clear h7
    go_wp2
    go_ret2
    exact ⟨HE7.out, .inl ⟨_, rfl, _, _, rfl, Ha.out, Hb.out, H12.out.1, H12.out.2⟩⟩
   ·try go_simp
    exact ⟨rfl, HE1.out.trans (HE4.out.trans (h5.trans hE6)), .inr ⟨⟨_, rfl⟩, fun h => hno h.2.2⟩⟩
  ·try go_simp
   exact ⟨rfl, HE1.out.trans (h3.trans hE4), .inr ⟨⟨_, rfl⟩, fun h => hno h.2.1⟩⟩
 ·exact ⟨rfl, hE1, .inr ⟨⟨_, rfl⟩, fun h => hno h.1⟩⟩
set_option maxHeartbeats 400000 in
theorem markIntS_any (a : Option Addr) (g off n cap : Nat) (f : Nat → Int) (k : Int) (w : World) (hs : Own w a g off n f) (hn : n ≤ 1048576) (hk0 : 0 ≤ k) (hk1 : k ≤ 1073741824) :
  Calls Tryz.prog 32 #[.slice a n cap, .int .i64 k] w fun e w' => e = .returned (.int .i64 (k + n)) ∧ Own w' a g off n (fun i => k + i) ∧ Touch g w w' := by
 go_enter Tryz.func32, Tryz.ntmps32
 go_wp2
 go_loopw [1, 5] (fun t i wr => ∃ j : Nat, j ≤ n ∧ i = .int .i64 j ∧ t = .int .i64 (k + j) ∧ Own wr a g off n (fun i => if i < j then k + i else f i) ∧ Touch g w wr) (fun _ i _ => n - (intOf i).toNat)
 case atStart => exact ⟨0, Nat.zero_le _, rfl, by go_num, hs.congr (fun i _ => by simp), Touch.refl _ _⟩
 case round =>
  obtain ⟨j, hj, rfl, rfl, hO, hT⟩ := hrel
  by_cases hlt : j < n
  ·obtain rfl := hs.at' (by omega)
   have hc := hO.cell j hlt
   have hf := hO.free j hlt
   have hjn : (j : Int) < (n : Int) := by omega
   have hO' := (hO.set hlt (k + j)).congr (f' := fun i => if i < j + 1 then k + i else f i) (fun i _ => by
    by_cases e : i = j
    ·subst e; simp
    ·by_cases h : i < j
     ·simp [e, h, show i < j + 1 by omega]
     ·simp [e, h, show ¬ i < j + 1 by omega])
   have hT' := hT.set (off + j) (.int .i64 (k + j))
   clear hO hT
   go_wp2
   go_roundw
   case rel => exact ⟨j + 1, by omega, by go_num, by go_num, hO', hT'⟩
   case measure => simp [intOf]; omega
  ·obtain rfl : j = n := by omega
   go_wp2
   go_ret
   exact ⟨rfl, hO.congr (fun i hi => by simp [hi]), hT⟩
set_option maxHeartbeats 400000 in
theorem heldIntS_any (a : Option Addr) (g off n cap : Nat) (k : Int) (w : World) (hs : Seg w a g off n (fun i => k + i)) (hn : n ≤ 1048576) (hk0 : 0 ≤ k) (hk1 : k ≤ 1073741824) :
  Calls Tryz.prog 34 #[.slice a n cap, .int .i64 k] w fun e w' => e = .returned (.int .i64 (k + n)) ∧ w' = w := by
 go_enter Tryz.func34, Tryz.ntmps34
 go_wp2
 go_loop [1, 5] (fun t i => ∃ j : Nat, j ≤ n ∧ i = .int .i64 j ∧ t = .int .i64 (k + j)) (fun _ i => n - (intOf i).toNat)
 case atStart => exact ⟨0, Nat.zero_le _, rfl, by go_num⟩
 case round =>
  obtain ⟨j, hj, rfl, rfl⟩ := hrel
  by_cases hlt : j < n
  ·obtain rfl := hs.at' (by omega)
   have hc := hs.cell j hlt
   have hjn : (j : Int) < (n : Int) := by omega
   go_wp2
   go_round
   case rel => exact ⟨j + 1, by omega, by go_num, by go_num⟩
   case measure => simp [intOf]; omega
  ·obtain rfl : j = n := by omega
   go_wp2
   go_ret
   exact ⟨rfl, rfl⟩
structure Mkw (S T : Nat) (w w' : World) : Prop where
 os : w'.os = w.os
 tape : w'.tape = w.tape
 output : w'.output = w.output
 size : w.heap.size ≤ w'.heap.size
 same : ∀ q, q < w.heap.size → (q < S ∨ T ≤ q) → w'.heap[q]? = w.heap[q]?
theorem Mkw.refl (S T : Nat) (w : World) : Mkw S T w w := ⟨rfl, rfl, rfl, Nat.le_refl _, fun _ _ _ => rfl⟩
theorem Mkw.trans {S T : Nat} {a b c : World} (h : Mkw S T a b) (k : Mkw S T b c) : Mkw S T a c :=
 ⟨k.os.trans h.os, k.tape.trans h.tape, k.output.trans h.output, Nat.le_trans h.size k.size, fun q h1 h2 => (k.same q (Nat.lt_of_lt_of_le h1 h.size) h2).trans (h.same q h1 h2)⟩
theorem Mkw.of_ext {S T : Nat} {a b : World} (h : Ext a b) : Mkw S T a b := ⟨h.os, h.tape, h.output, Below.size h, fun q h1 _ => Below.block h q h1⟩
theorem Mkw.of_touch {S T g : Nat} {a b : World} (h : Touch g a b) (h1 : S ≤ g) (h2 : g < T) : Mkw S T a b :=
 ⟨h.grown.os, h.grown.tape, h.grown.output, h.grown.size, fun q k1 k2 => h.grown.block q k1 (by simp; omega)⟩
theorem Mkw.below {S T B : Nat} {w0 a b : World} (h : Mkw S T a b) (k : Below B w0 a) (hB : B ≤ S) (hs : B ≤ a.heap.size) : Below B w0 b :=
 ⟨h.os.trans k.os, h.tape.trans k.tape, h.output.trans k.output, Nat.le_trans (Below.size k) h.size, fun q hq => (h.same q (by omega) (.inl (by omega))).trans (Below.block k q hq)⟩
structure SAny (w : World) (a : Option Addr) (g off n : Nat) : Prop where
 at' : 0 < n → a = some ⟨g, off, none⟩
 cell : ∀ i, i < n → ∃ s, w.cell? ⟨g, off + i, none⟩ = some (.string s)
 free : ∀ i, i < n → w.frozen? ⟨g, off + i, none⟩ = false
theorem SAny.lt {w : World} {a : Option Addr} {g off n : Nat} (h : SAny w a g off n) (hn : 0 < n) : g < w.heap.size := by
 obtain ⟨s, hs⟩ := h.cell 0 hn
 exact World.block_lt_of_cell? _ _ hs
theorem SAny.of_blk {w w' : World} {a : Option Addr} {g off n : Nat} (h : SAny w a g off n) (e : 0 < n → w'.heap[g]? = w.heap[g]?) : SAny w' a g off n :=
 ⟨h.at', fun i hi => by
  obtain ⟨s, hs⟩ := h.cell i hi
  exact ⟨s, (World.cell?_of_block (a := ⟨g, off + i, none⟩) (e (by omega))).trans hs⟩, fun i hi => (World.frozen?_of_block (a := ⟨g, off + i, none⟩) (e (by omega))).trans (h.free i hi)⟩
theorem SAny.of_all {w w' : World} {a : Option Addr} {g off n : Nat} (h : SAny w a g off n) (e : Ext w w') : SAny w' a g off n :=
 h.of_blk (fun h0 => Below.block e g (h.lt h0))
theorem SAny.set {w : World} {a : Option Addr} {g off n : Nat} (h : SAny w a g off n) {k : Nat} (hk : k < n) (x : ByteArray) : SAny (w.setCell ⟨g, off + k, none⟩ (.string x)) a g off n := by
 refine ⟨h.at', fun i hi => ?_, fun i hi => by rw [World.frozen?_setCell]; exact h.free i hi⟩
 obtain ⟨s, hs⟩ := h.cell i hi
 by_cases e : i = k
 ·subst e
  exact ⟨x, World.cell?_setCell_same _ _ _ hs⟩
 ·exact ⟨s, by rw [World.cell?_setCell_other _ _ _ _ (fun h => by have := congrArg Addr.off h; simp at this; omega), hs]⟩
theorem Mkw.set {S T g : Nat} {w wr : World} (h : Mkw S T w wr) (i : Nat) (v : Value) (h1 : S ≤ g) (h2 : g < T) : Mkw S T w (wr.setCell ⟨g, i, none⟩ v) :=
 h.trans ⟨rfl, rfl, rfl, by simp [World.setCell], fun q k1 k2 => Below.heap_setCell _ _ _ _ (by show q ≠ g; omega)⟩
theorem bseg_new1 (w : World) (x : Int) : BSeg (w.alloc (.cells #[.int .u8 x] 5)) (some ⟨w.heap.size, 0, none⟩) w.heap.size 0 1 (fun _ => x) :=
 ⟨fun _ => rfl, fun i hi => by
  obtain rfl : i = 0 := by omega
  exact (Blk.alloc w [.int .u8 x] 5 0 _ rfl).1⟩
theorem str1_size (x : Int) : (strOfNums (nums (fun _ => x) 1)).size = 1 := rfl
theorem cat_size (a b : ByteArray) : (a ++ b).size = a.size + b.size := by simp
theorem w64_small {n : Nat} (h : n ≤ 1099511627776) : wrap64 (n : Int) = n ∧ IntKind.i64.wrap (n : Int) = n := by
 constructor
 ·unfold wrap64; omega
 ·rw [IntKind.wrap_i64]; omega
theorem mt_wraps {r : Nat} (h : r ≤ 10) : wrap64 (48 + (r : Int)) = 48 + r ∧ IntKind.i64.wrap (48 + (r : Int)) = 48 + r ∧ IntKind.u8.wrap (48 + (r : Int)) = 48 + r := by
 refine ⟨by unfold wrap64; omega, by rw [IntKind.wrap_i64]; omega, by rw [IntKind.wrap_u8]; omega⟩
theorem mt_nums {j : Nat} (h : 0 < j) (h1 : j ≤ 1099511627776) : ∃ q r : Nat, q < j ∧ Int.tdiv (j : Int) 10 = (q : Int) ∧ Int.tmod (j : Int) 10 = (r : Int) ∧ wrap64 (48 + (r : Int)) = 48 + r ∧ IntKind.i64.wrap (48 + (r : Int)) = 48 + r ∧ IntKind.u8.wrap (48 + (r : Int)) = 48 + r ∧ wrap64 (q : Int) = q ∧ IntKind.i64.wrap (q : Int) = q ∧ wrap64 (r : Int) = r ∧ IntKind.i64.wrap (r : Int) = r := by
 have a := w64_small (n := j / 10) (by omega)
 have b := w64_small (n := j % 10) (by omega)
 have c := mt_wraps (r := j % 10) (by omega)
 refine ⟨j / 10, j % 10, by omega, ?_, ?_, c.1, c.2.1, c.2.2, a.1, a.2, b.1, b.2⟩
 ·clear a b c
  rw [Int.tdiv_eq_ediv_of_nonneg (by omega)]; omega
 ·clear a b c
  rw [Int.tmod_eq_emod_of_nonneg (by omega)]; omega
end
end Go.Proofs.YtkogbinfhoiggaaGreatDoor
