/- Plain facts: texts of times are read back, and stand in the order of times. -/
import Derived.Test.YtjidlahgfkdipaaDoorTmS
namespace Go.Proofs.YtjidlahgfkdipaaDoor
set_option linter.unusedVariables false
set_option linter.unusedSimpArgs false
open Go.RowKit Go.Sort

theorem tx_long {t : Int} {y m d s : Nat} (h : IsDay t y m d s) : txOk (longB y m d s) = true ∧ txV (longB y m d s) = t := by
  obtain ⟨b0, b1, b2, b3, b4, b5, b6, b7, b8, b9, b10, b11, b12, b13, b14, hl⟩ := list15 (longL_len y m d s)
  obtain ⟨k1, k2⟩ := read_long h.toDayOk h.s1 hl
  have e : (longB y m d s).data.toList = longL y m d s := by show (longL y m d s).toArray.toList = _; rw [List.toList_toArray]
  unfold txOk txV
  rw [e, hl]
  exact ⟨k1, k2.trans h.t1.symm⟩
theorem rd_long {t : Int} {y m d s : Nat} (h : IsDay t y m d s) : rdOk (longB y m d s) = true ∧ rdV (longB y m d s) = t := by
  have hz : (longB y m d s).size = 15 := rfl
  obtain ⟨k1, k2⟩ := tx_long h
  have e1 : rdT (longB y m d s) = longB y m d s := by unfold rdT; rw [if_neg (by rw [hz]; omega)]
  refine ⟨?_, ?_⟩
  · unfold rdOk; rw [e1, k1, hz]; rfl
  · unfold rdV; rw [e1, k2, if_pos (Or.inr hz)]
theorem cen_short {y : Nat} (m d s : Nat) (h0 : 1950 ≤ y) (h1 : y ≤ 2049) : cenB (shortB y m d s) ++ shortB y m d s = longB y m d s := by
  have e : (shortB y m d s).toList = shortL y m d s := by rw [Lib.toList_data]; show (shortL y m d s).toArray.toList = _; rw [List.toList_toArray]
  have hb : shortL y m d s = UInt8.ofNat (48 + y / 10 % 10) :: UInt8.ofNat (48 + y % 10) :: restL m d s := rfl
  have e1 := ofNat_toNat (n := 48 + y / 10 % 10) (by omega)
  have e2 := ofNat_toNat (n := 48 + y % 10) (by omega)
  have hv : v2 (UInt8.ofNat (48 + y / 10 % 10)) (UInt8.ofNat (48 + y % 10)) = y % 100 := by unfold v2; rw [e1, e2]; omega
  have hl := less_year (b0 := UInt8.ofNat (48 + y / 10 % 10)) (b1 := UInt8.ofNat (48 + y % 10)) (by unfold dgt; omega) (by unfold dgt; omega) (restL m d s)
  have hL : longB y m d s = (⟨(two (y / 100)).toArray⟩ : ByteArray) ++ shortB y m d s := by
    unfold longB shortB longL shortL
    rw [ba_app]
  have hc : cenB (shortB y m d s) = ⟨(two (y / 100)).toArray⟩ := by
    unfold cenB
    rw [e, hb, hl, hv]
    by_cases hy : y % 100 < 50
    · rw [if_pos (by simp [hy]), show y / 100 = 20 by omega]
      rfl
    · rw [if_neg (by simp [hy]), show y / 100 = 19 by omega]
      rfl
  rw [hc, hL]
theorem rd_short {t : Int} {y m d s : Nat} (h : IsDay t y m d s) (h1 : y ≤ 2049) : rdOk (shortB y m d s) = true ∧ rdV (shortB y m d s) = t := by
  have hz : (shortB y m d s).size = 13 := rfl
  obtain ⟨k1, k2⟩ := tx_long h
  have e1 : rdT (shortB y m d s) = longB y m d s := by unfold rdT; rw [if_pos hz, cen_short m d s h.y0 h1]
  refine ⟨?_, ?_⟩
  · unfold rdOk; rw [e1, k1, hz]; rfl
  · unfold rdV; rw [e1, k2, if_pos (Or.inl hz)]

theorem less_asymm : ∀ (a b : List UInt8), Op.bytesLess a b = true → Op.bytesLess b a = false ∧ a ≠ b
  | [], [] => fun h => by simp [Op.bytesLess] at h
  | [], b :: r => fun _ => ⟨by simp [Op.bytesLess], by simp⟩
  | a :: l, [] => fun h => by simp [Op.bytesLess] at h
  | a :: l, b :: r => fun h => by
    simp only [Op.bytesLess, Bool.or_eq_true, Bool.and_eq_true, decide_eq_true_eq, beq_iff_eq] at h
    rcases h with h | ⟨rfl, h⟩
    · have h2 : a.toNat < b.toNat := UInt8.lt_iff_toNat_lt.1 h
      refine ⟨?_, fun e => ?_⟩
      · simp only [Op.bytesLess, Bool.or_eq_false_iff, Bool.and_eq_false_iff, decide_eq_false_iff_not]
        refine ⟨fun k => ?_, Or.inl ?_⟩
        · have := UInt8.lt_iff_toNat_lt.1 k; omega
        · apply Bool.eq_false_iff.2
          intro k
          rw [eq_of_beq k] at h2
          omega
      · injection e with e1 e2
        rw [e1] at h2
        omega
    · obtain ⟨k1, k2⟩ := less_asymm l r h
      refine ⟨?_, fun e => ?_⟩
      · simp only [Op.bytesLess, Bool.or_eq_false_iff, Bool.and_eq_false_iff, decide_eq_false_iff_not]
        refine ⟨fun k => ?_, Or.inr k1⟩
        have := UInt8.lt_iff_toNat_lt.1 k; omega
      · injection e with e1 e2
        exact k2 e2
theorem two_less {a b : Nat} (h : a < b) (hb : b < 100) (l r : List UInt8) : Op.bytesLess (two a ++ l) (two b ++ r) = true := by
  have a1 := ofNat_toNat (n := 48 + a / 10 % 10) (by omega)
  have a2 := ofNat_toNat (n := 48 + a % 10) (by omega)
  have b1 := ofNat_toNat (n := 48 + b / 10 % 10) (by omega)
  have b2 := ofNat_toNat (n := 48 + b % 10) (by omega)
  show Op.bytesLess (UInt8.ofNat (48 + a / 10 % 10) :: UInt8.ofNat (48 + a % 10) :: l) (UInt8.ofNat (48 + b / 10 % 10) :: UInt8.ofNat (48 + b % 10) :: r) = true
  simp only [Op.bytesLess, Bool.or_eq_true, Bool.and_eq_true, decide_eq_true_eq, beq_iff_eq, UInt8.lt_iff_toNat_lt, ← UInt8.toNat_inj, a1, a2, b1, b2]
  omega
theorem two_same (a : Nat) (l r : List UInt8) : Op.bytesLess (two a ++ l) (two a ++ r) = Op.bytesLess l r := by
  show Op.bytesLess (UInt8.ofNat (48 + a / 10 % 10) :: UInt8.ofNat (48 + a % 10) :: l) (UInt8.ofNat (48 + a / 10 % 10) :: UInt8.ofNat (48 + a % 10) :: r) = _
  have e : ∀ x : UInt8, decide (x < x) = false := fun x => decide_eq_false (fun h => by have := UInt8.lt_iff_toNat_lt.1 h; omega)
  simp only [Op.bytesLess, e, beq_self_eq_true, Bool.true_and, Bool.false_or]
theorem year_less {y y' : Nat} (h : y < y') (h1 : y' ≤ 2099) (l r : List UInt8) : Op.bytesLess (two (y / 100) ++ (two y ++ l)) (two (y' / 100) ++ (two y' ++ r)) = true := by
  by_cases e : y / 100 = y' / 100
  · rw [e, two_same, ← two_mod y, ← two_mod y']
    exact two_less (by omega) (by omega) _ _
  · exact two_less (by omega) (by omega) _ _
theorem sec_less {s s' : Nat} (h : s < s') (h1 : s' < 86400) : Op.bytesLess (two (s / 3600) ++ (two (s / 60 % 60) ++ (two (s % 60) ++ [90]))) (two (s' / 3600) ++ (two (s' / 60 % 60) ++ (two (s' % 60) ++ [90]))) = true := by
  by_cases e : s / 3600 = s' / 3600
  · rw [e, two_same]
    by_cases e2 : s / 60 % 60 = s' / 60 % 60
    · rw [e2, two_same]
      exact two_less (by omega) (by omega) _ _
    · exact two_less (by omega) (by omega) _ _
  · exact two_less (by omega) (by omega) _ _
/-- Texts stand in the order of times. -/
theorem text_less {t t' : Int} {y m d s y' m' d' s' : Nat} (h : IsDay t y m d s) (h' : IsDay t' y' m' d' s') (ht : t < t') : Op.bytesLess (longL y m d s) (longL y' m' d' s') = true := by
  have e := h.t1
  have e' := h'.t1
  have a := h.s1
  have a' := h'.s1
  have m1 := h'.m1
  have d1 := Nat.le_trans h'.d1 (md_le y' m')
  unfold tmV at e e'
  unfold longL restL
  by_cases hd : days y m d = days y' m' d'
  · obtain ⟨rfl, rfl, rfl⟩ := h.toDayOk.unique h'.toDayOk hd
    rw [two_same, two_same, two_same, two_same]
    exact sec_less (by omega) a'
  · rcases h.toDayOk.less h'.toDayOk (by omega) with k | ⟨rfl, k | ⟨rfl, k⟩⟩
    · exact year_less k h'.y1 _ _
    · rw [two_same, two_same]
      exact two_less k (by omega) _ _
    · rw [two_same, two_same, two_same]
      exact two_less k (by omega) _ _
/-- What the law's comparison of two texts tells. -/
theorem gtr_long {t t' : Int} {y m d s y' m' d' s' : Nat} (h : IsDay t y m d s) (h' : IsDay t' y' m' d' s') (ht : t ≤ t') : (!(Op.bytesLess (longB y' m' d' s').toList (longB y m d s).toList || (longB y' m' d' s').toList == (longB y m d s).toList)) = decide (t < t') := by
  have e : (longB y m d s).toList = longL y m d s := by rw [Lib.toList_data]; show (longL y m d s).toArray.toList = _; rw [List.toList_toArray]
  have e' : (longB y' m' d' s').toList = longL y' m' d' s' := by rw [Lib.toList_data]; show (longL y' m' d' s').toArray.toList = _; rw [List.toList_toArray]
  rw [e, e']
  by_cases hl : t < t'
  · obtain ⟨k1, k2⟩ := less_asymm _ _ (text_less h h' hl)
    rw [k1, decide_eq_true hl, Bool.false_or]
    have : (longL y' m' d' s' == longL y m d s) = false := by
      apply Bool.eq_false_iff.2
      intro k
      exact k2 (eq_of_beq k).symm
    rw [this]
    rfl
  · obtain rfl : t = t' := by omega
    obtain ⟨rfl, rfl, rfl, rfl⟩ := h.unique h'
    rw [decide_eq_false hl, beq_self_eq_true, Bool.or_true]
    rfl

end Go.Proofs.YtjidlahgfkdipaaDoor
