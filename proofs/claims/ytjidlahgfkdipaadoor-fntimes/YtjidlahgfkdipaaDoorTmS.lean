/- Plain facts: texts of times by their bytes. -/
import Derived.Test.YtjidlahgfkdipaaDoorTrd
import Derived.Test.YtjidlahgfkdipaaDoorHom
namespace Go.Proofs.YtjidlahgfkdipaaDoor
set_option linter.unusedVariables false
set_option linter.unusedSimpArgs false
open Go.RowKit Go.Sort

theorem bt_ext (s : ByteArray) (b i : Nat) (hb : b ≤ s.size) (hi : i < b) : bt (s.extract 0 b) i = bt s i := by
  have h1 : i < (s.extract 0 b).size := by rw [ByteArray.size_extract]; omega
  rw [← bt_get _ i h1, ← bt_get s i (by omega), ByteArray.getElem_extract]
  simp
theorem dig_cut (s : ByteArray) (b : Nat) (hb : b ≤ s.size) : digB (s.extract 0 b) = allN dgB s b := by
  have hz : (s.extract 0 b).size = b := by rw [ByteArray.size_extract]; omega
  unfold digB
  rw [hz]
  apply Bool.eq_iff_iff.2
  rw [allN_iff, allN_iff]
  constructor
  · intro h i hi
    rw [← bt_ext s b i hb hi]
    exact h i hi
  · intro h i hi
    rw [bt_ext s b i hb hi]
    exact h i hi

/-- The number of a pair of bytes. -/
def vp (s : ByteArray) (i : Nat) : Nat := 10 * (bt s (2 * i) - 48) + (bt s (2 * i + 1) - 48)

theorem dgB_dgt (b : UInt8) : dgB b.toNat = decide (dgt b) := by
  unfold dgB
  rw [← Bool.decide_and]
  exact decide_eq_decide.2 Iff.rfl
theorem allN14 {b0 b1 b2 b3 b4 b5 b6 b7 b8 b9 b10 b11 b12 b13 b14 : UInt8} : allN dgB ⟨#[b0, b1, b2, b3, b4, b5, b6, b7, b8, b9, b10, b11, b12, b13, b14]⟩ 14 = allD [b0, b1, b2, b3, b4, b5, b6, b7, b8, b9, b10, b11, b12, b13] := by
  apply Bool.eq_iff_iff.2
  rw [allN_iff, allD_iff]
  have k : ∀ b : UInt8, dgB b.toNat = true ↔ dgt b := fun b => by rw [dgB_dgt, decide_eq_true_eq]
  constructor
  · intro h
    exact ⟨(k _).1 (h 0 (by omega)), (k _).1 (h 1 (by omega)), (k _).1 (h 2 (by omega)), (k _).1 (h 3 (by omega)), (k _).1 (h 4 (by omega)), (k _).1 (h 5 (by omega)), (k _).1 (h 6 (by omega)), (k _).1 (h 7 (by omega)), (k _).1 (h 8 (by omega)), (k _).1 (h 9 (by omega)), (k _).1 (h 10 (by omega)), (k _).1 (h 11 (by omega)), (k _).1 (h 12 (by omega)), (k _).1 (h 13 (by omega))⟩
  · rintro ⟨h0, h1, h2, h3, h4, h5, h6, h7, h8, h9, h10, h11, h12, h13⟩ i hi
    have : i = 0 ∨ i = 1 ∨ i = 2 ∨ i = 3 ∨ i = 4 ∨ i = 5 ∨ i = 6 ∨ i = 7 ∨ i = 8 ∨ i = 9 ∨ i = 10 ∨ i = 11 ∨ i = 12 ∨ i = 13 := by omega
    rcases this with rfl | rfl | rfl | rfl | rfl | rfl | rfl | rfl | rfl | rfl | rfl | rfl | rfl | rfl
    · exact (k _).2 h0
    · exact (k _).2 h1
    · exact (k _).2 h2
    · exact (k _).2 h3
    · exact (k _).2 h4
    · exact (k _).2 h5
    · exact (k _).2 h6
    · exact (k _).2 h7
    · exact (k _).2 h8
    · exact (k _).2 h9
    · exact (k _).2 h10
    · exact (k _).2 h11
    · exact (k _).2 h12
    · exact (k _).2 h13
theorem u90 (b : UInt8) : decide (b = 90) = decide (b.toNat = 90) := by
  apply decide_eq_decide.2
  exact ⟨fun h => by rw [h]; rfl, fun h => UInt8.toNat_inj.1 (h.trans rfl)⟩

/-- A text of fifteen bytes. -/
def q15 (s : ByteArray) : Bool := decide (vp s 4 ≤ 23 ∧ vp s 5 ≤ 59 ∧ vp s 6 ≤ 59) && tOk ((100 * vp s 0 + vp s 1 : Nat) : Int) (vp s 2 : Int) (vp s 3 : Int) ((3600 * vp s 4 + 60 * vp s 5 + vp s 6 : Nat) : Int)
theorem tx15 {s : ByteArray} (h : s.size = 15) : txOk s = (decide (bt s 14 = 90) && (allN dgB s 14 && q15 s)) ∧ txV s = if txOk s then tTm ((100 * vp s 0 + vp s 1 : Nat) : Int) (vp s 2 : Int) (vp s 3 : Int) ((3600 * vp s 4 + 60 * vp s 5 + vp s 6 : Nat) : Int) else 0 := by
  obtain ⟨b0, b1, b2, b3, b4, b5, b6, b7, b8, b9, b10, b11, b12, b13, b14, hl⟩ := list15 (l := s.data.toList) (by rw [Array.length_toList]; exact h)
  obtain rfl := ba_of hl
  have e : txOk ⟨[b0, b1, b2, b3, b4, b5, b6, b7, b8, b9, b10, b11, b12, b13, b14].toArray⟩ = rtOk b0 b1 b2 b3 b4 b5 b6 b7 b8 b9 b10 b11 b12 b13 b14 := rfl
  refine ⟨?_, rfl⟩
  rw [e]
  unfold rtOk
  rw [u90, ← allN14]
  rfl

theorem list13 {l : List UInt8} (h : l.length = 13) : ∃ b0 b1 b2 b3 b4 b5 b6 b7 b8 b9 b10 b11 b12, l = [b0, b1, b2, b3, b4, b5, b6, b7, b8, b9, b10, b11, b12] := by
  match l, h with
  | [b0, b1, b2, b3, b4, b5, b6, b7, b8, b9, b10, b11, b12], _ => exact ⟨b0, b1, b2, b3, b4, b5, b6, b7, b8, b9, b10, b11, b12, rfl⟩
/-- The year that two digits tell. -/
def yr2 (n : Nat) : Nat := if 50 ≤ n then 1900 + n else 2000 + n
def q13 (s : ByteArray) : Bool := decide (vp s 3 ≤ 23 ∧ vp s 4 ≤ 59 ∧ vp s 5 ≤ 59) && tOk (yr2 (vp s 0) : Int) (vp s 1 : Int) (vp s 2 : Int) ((3600 * vp s 3 + 60 * vp s 4 + vp s 5 : Nat) : Int)
theorem less_year {b0 b1 : UInt8} (h0 : dgt b0) (h1 : dgt b1) (r : List UInt8) : Op.bytesLess (b0 :: b1 :: r) [53, 48] = decide (v2 b0 b1 < 50) := by
  obtain ⟨a0, a1⟩ := h0
  obtain ⟨c0, c1⟩ := h1
  have e53 : (53 : UInt8).toNat = 53 := rfl
  have e48 : (48 : UInt8).toNat = 48 := rfl
  have hr : Op.bytesLess r [] = false := by cases r <;> rfl
  simp only [Op.bytesLess, hr, Bool.and_false, Bool.or_false]
  apply Bool.eq_iff_iff.2
  simp only [Bool.or_eq_true, Bool.and_eq_true, decide_eq_true_eq, beq_iff_eq, UInt8.lt_iff_toNat_lt, ← UInt8.toNat_inj, e53, e48]
  unfold v2
  omega

theorem l13_cat (b0 b1 b2 b3 b4 b5 b6 b7 b8 b9 b10 b11 b12 : UInt8) : ∀ x y : UInt8, (⟨#[x, y]⟩ : ByteArray) ++ (⟨[b0, b1, b2, b3, b4, b5, b6, b7, b8, b9, b10, b11, b12].toArray⟩ : ByteArray) = ⟨[x, y, b0, b1, b2, b3, b4, b5, b6, b7, b8, b9, b10, b11, b12].toArray⟩ := fun x y => by
  rw [show (⟨#[x, y]⟩ : ByteArray) = ⟨[x, y].toArray⟩ from rfl, ba_app]
  rfl
theorem l13_ok (b0 b1 b2 b3 b4 b5 b6 b7 b8 b9 b10 b11 b12 : UInt8) : ∀ x y : UInt8, txOk ⟨[x, y, b0, b1, b2, b3, b4, b5, b6, b7, b8, b9, b10, b11, b12].toArray⟩ = rtOk x y b0 b1 b2 b3 b4 b5 b6 b7 b8 b9 b10 b11 b12 := fun _ _ => rfl
theorem l13_v (b0 b1 b2 b3 b4 b5 b6 b7 b8 b9 b10 b11 b12 : UInt8) : ∀ x y : UInt8, txV ⟨[x, y, b0, b1, b2, b3, b4, b5, b6, b7, b8, b9, b10, b11, b12].toArray⟩ = rtV x y b0 b1 b2 b3 b4 b5 b6 b7 b8 b9 b10 b11 b12 := fun _ _ => rfl
theorem l13_dig (b0 b1 b2 b3 b4 b5 b6 b7 b8 b9 b10 b11 b12 : UInt8) : allN dgB ⟨[b0, b1, b2, b3, b4, b5, b6, b7, b8, b9, b10, b11, b12].toArray⟩ 12 = allD [b0, b1, b2, b3, b4, b5, b6, b7, b8, b9, b10, b11] := by
  have k : ∀ b : UInt8, dgB b.toNat = true ↔ dgt b := fun b => by rw [dgB_dgt, decide_eq_true_eq]
  have k2 : allD [b0, b1, b2, b3, b4, b5, b6, b7, b8, b9, b10, b11] = true ↔ dgt b0 ∧ dgt b1 ∧ dgt b2 ∧ dgt b3 ∧ dgt b4 ∧ dgt b5 ∧ dgt b6 ∧ dgt b7 ∧ dgt b8 ∧ dgt b9 ∧ dgt b10 ∧ dgt b11 := by simp [allD]
  apply Bool.eq_iff_iff.2
  rw [allN_iff, k2]
  constructor
  · intro h
    exact ⟨(k _).1 (h 0 (by omega)), (k _).1 (h 1 (by omega)), (k _).1 (h 2 (by omega)), (k _).1 (h 3 (by omega)), (k _).1 (h 4 (by omega)), (k _).1 (h 5 (by omega)), (k _).1 (h 6 (by omega)), (k _).1 (h 7 (by omega)), (k _).1 (h 8 (by omega)), (k _).1 (h 9 (by omega)), (k _).1 (h 10 (by omega)), (k _).1 (h 11 (by omega))⟩
  · rintro ⟨h0, h1, h2, h3, h4, h5, h6, h7, h8, h9, h10, h11⟩ i hi
    have : i = 0 ∨ i = 1 ∨ i = 2 ∨ i = 3 ∨ i = 4 ∨ i = 5 ∨ i = 6 ∨ i = 7 ∨ i = 8 ∨ i = 9 ∨ i = 10 ∨ i = 11 := by omega
    rcases this with rfl | rfl | rfl | rfl | rfl | rfl | rfl | rfl | rfl | rfl | rfl | rfl
    · exact (k _).2 h0
    · exact (k _).2 h1
    · exact (k _).2 h2
    · exact (k _).2 h3
    · exact (k _).2 h4
    · exact (k _).2 h5
    · exact (k _).2 h6
    · exact (k _).2 h7
    · exact (k _).2 h8
    · exact (k _).2 h9
    · exact (k _).2 h10
    · exact (k _).2 h11
theorem l13_last (b0 b1 b2 b3 b4 b5 b6 b7 b8 b9 b10 b11 b12 : UInt8) : decide (bt ⟨[b0, b1, b2, b3, b4, b5, b6, b7, b8, b9, b10, b11, b12].toArray⟩ 12 = 90) = decide (b12 = 90) := (u90 b12).symm
theorem l13_cen (b0 b1 b2 b3 b4 b5 b6 b7 b8 b9 b10 b11 b12 : UInt8) : allD [b0, b1, b2, b3, b4, b5, b6, b7, b8, b9, b10, b11] = true → cenB ⟨[b0, b1, b2, b3, b4, b5, b6, b7, b8, b9, b10, b11, b12].toArray⟩ = if v2 b0 b1 < 50 then ⟨#[50, 48]⟩ else ⟨#[49, 57]⟩ := fun hd => by
  have hd2 : dgt b0 ∧ dgt b1 := by simp [allD] at hd; exact ⟨hd.1, hd.2.1⟩
  unfold cenB
  rw [Lib.toList_data]
  show (if Op.bytesLess [b0, b1, b2, b3, b4, b5, b6, b7, b8, b9, b10, b11, b12] [53, 48] = true then _ else _) = _
  rw [less_year hd2.1 hd2.2]
  by_cases hv : v2 b0 b1 < 50
  · simp [hv]
  · simp [hv]
theorem tx13 {s : ByteArray} (h : s.size = 13) : txOk (cenB s ++ s) = (decide (bt s 12 = 90) && (allN dgB s 12 && q13 s)) ∧ txV (cenB s ++ s) = if txOk (cenB s ++ s) then tTm (yr2 (vp s 0) : Int) (vp s 1 : Int) (vp s 2 : Int) ((3600 * vp s 3 + 60 * vp s 4 + vp s 5 : Nat) : Int) else 0 := by
  obtain ⟨b0, b1, b2, b3, b4, b5, b6, b7, b8, b9, b10, b11, b12, hl⟩ := list13 (l := s.data.toList) (by rw [Array.length_toList]; exact h)
  obtain rfl := ba_of hl
  have hcat := l13_cat b0 b1 b2 b3 b4 b5 b6 b7 b8 b9 b10 b11 b12
  have htx := l13_ok b0 b1 b2 b3 b4 b5 b6 b7 b8 b9 b10 b11 b12
  have htv := l13_v b0 b1 b2 b3 b4 b5 b6 b7 b8 b9 b10 b11 b12
  have hdig := l13_dig b0 b1 b2 b3 b4 b5 b6 b7 b8 b9 b10 b11 b12
  have h12 := l13_last b0 b1 b2 b3 b4 b5 b6 b7 b8 b9 b10 b11 b12
  have hcn := l13_cen b0 b1 b2 b3 b4 b5 b6 b7 b8 b9 b10 b11 b12
  have hadj : ∀ x y : UInt8, dgt x → dgt y → allD [x, y, b0, b1, b2, b3, b4, b5, b6, b7, b8, b9, b10, b11] = allD [b0, b1, b2, b3, b4, b5, b6, b7, b8, b9, b10, b11] := fun x y hx hy => by simp [allD, hx, hy]
  rw [h12, hdig]
  have hcc : cenB ⟨[b0, b1, b2, b3, b4, b5, b6, b7, b8, b9, b10, b11, b12].toArray⟩ = ⟨#[50, 48]⟩ ∨ cenB ⟨[b0, b1, b2, b3, b4, b5, b6, b7, b8, b9, b10, b11, b12].toArray⟩ = ⟨#[49, 57]⟩ := by
    unfold cenB
    split
    · exact .inl rfl
    · exact .inr rfl
  have p0 : vp ⟨[b0, b1, b2, b3, b4, b5, b6, b7, b8, b9, b10, b11, b12].toArray⟩ 0 = v2 b0 b1 := rfl
  have p1 : vp ⟨[b0, b1, b2, b3, b4, b5, b6, b7, b8, b9, b10, b11, b12].toArray⟩ 1 = v2 b2 b3 := rfl
  have p2 : vp ⟨[b0, b1, b2, b3, b4, b5, b6, b7, b8, b9, b10, b11, b12].toArray⟩ 2 = v2 b4 b5 := rfl
  have p3 : vp ⟨[b0, b1, b2, b3, b4, b5, b6, b7, b8, b9, b10, b11, b12].toArray⟩ 3 = v2 b6 b7 := rfl
  have p4 : vp ⟨[b0, b1, b2, b3, b4, b5, b6, b7, b8, b9, b10, b11, b12].toArray⟩ 4 = v2 b8 b9 := rfl
  have p5 : vp ⟨[b0, b1, b2, b3, b4, b5, b6, b7, b8, b9, b10, b11, b12].toArray⟩ 5 = v2 b10 b11 := rfl
  have c20 : v2 50 48 = 20 := by decide
  have c19 : v2 49 57 = 19 := by decide
  unfold q13
  rw [p0, p1, p2, p3, p4, p5]
  generalize (⟨[b0, b1, b2, b3, b4, b5, b6, b7, b8, b9, b10, b11, b12].toArray⟩ : ByteArray) = SS at *
  have d50 : dgt 50 := by decide
  have d48 : dgt 48 := by decide
  have d49 : dgt 49 := by decide
  have d57 : dgt 57 := by decide
  cases hd : allD [b0, b1, b2, b3, b4, b5, b6, b7, b8, b9, b10, b11]
  · have hf : txOk (cenB SS ++ SS) = false := by
      rcases hcc with e | e
      · rw [e, hcat, htx]; unfold rtOk; rw [hadj _ _ d50 d48, hd, Bool.false_and, Bool.and_false]
      · rw [e, hcat, htx]; unfold rtOk; rw [hadj _ _ d49 d57, hd, Bool.false_and, Bool.and_false]
    refine ⟨by rw [hf, Bool.false_and, Bool.and_false], ?_⟩
    rcases hcc with e | e
    · rw [hf]; rw [e, hcat, htx] at hf; rw [e, hcat, htv]; unfold rtV; rw [hf, if_neg Bool.false_ne_true, if_neg Bool.false_ne_true]
    · rw [hf]; rw [e, hcat, htx] at hf; rw [e, hcat, htv]; unfold rtV; rw [hf, if_neg Bool.false_ne_true, if_neg Bool.false_ne_true]
  · rw [hcn hd, Bool.true_and]
    by_cases hv : v2 b0 b1 < 50
    · have hy : yr2 (v2 b0 b1) = rtY 50 48 b0 b1 := by
        unfold yr2 rtY
        rw [c20]
        generalize v2 b0 b1 = n at hv ⊢
        rw [if_neg (by omega : ¬ 50 ≤ n)]
      rw [if_pos hv, hcat, htx, htv]
      unfold rtV
      rw [hy]
      refine ⟨?_, by unfold rtS; rfl⟩
      unfold rtOk
      rw [hadj _ _ d50 d48, hd, Bool.true_and]
      unfold rtS
      rfl
    · have hy : yr2 (v2 b0 b1) = rtY 49 57 b0 b1 := by
        unfold yr2 rtY
        rw [c19]
        generalize v2 b0 b1 = n at hv ⊢
        rw [if_pos (by omega : 50 ≤ n)]
      rw [if_neg hv, hcat, htx, htv]
      unfold rtV
      rw [hy]
      refine ⟨?_, by unfold rtS; rfl⟩
      unfold rtOk
      rw [hadj _ _ d49 d57, hd, Bool.true_and]
      unfold rtS
      rfl

end Go.Proofs.YtjidlahgfkdipaaDoor
