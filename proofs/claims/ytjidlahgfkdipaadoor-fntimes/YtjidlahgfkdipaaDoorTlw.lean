/- Walk: the law FnTimes. -/
import Derived.Test.YtjidlahgfkdipaaDoorTrd
import Derived.Test.YtjidlahgfkdipaaDoorTmW
import Derived.Test.YtjidlahgfkdipaaDoorTdr
import Derived.Test.YtjidlahgfkdipaaDoorWspT
import Derived.Laws.Cover1
namespace Go.Proofs.YtjidlahgfkdipaaDoor
set_option linter.unusedVariables false
set_option linter.unusedSimpArgs false
open Go.RowKit Go.Sort

theorem sp_self {t : Int} (h : inT t) : spV t t = 0 := by
  unfold spV
  rw [if_pos ⟨h, h, Int.le_refl t⟩]
  omega
theorem sp_next {t : Int} (h : inT t) (h2 : inT (t + 1)) : spV t (t + 1) = 1 := by
  unfold spV
  rw [if_pos ⟨h, h2, by omega⟩]
  omega
theorem wi_self {t : Int} (h : inT t) : wiB t t t = true := decide_eq_true ⟨h, h, Int.le_refl t, Int.le_refl t⟩
theorem wi_next (t : Int) : wiB (t + 1) t t = false := decide_eq_false (fun x => by have := x.2.2.2; omega)
theorem gtr_parts {x y : ByteArray} {c : Bool} (h : (!(Op.bytesLess x.toList y.toList || x.toList == y.toList)) = c) : (c = true → Op.bytesLess x.toList y.toList = false ∧ (x.toList == y.toList) = false) := by
  intro hc
  rw [hc] at h
  cases h1 : Op.bytesLess x.toList y.toList <;> cases h2 : (x.toList == y.toList) <;> simp [h1, h2] at h ⊢

/-- The end of the law, behind the texts. -/
theorem prod_facts {x z : Int} (x0 : 0 ≤ x) (x1 : x ≤ 255) (z0 : 0 ≤ z) (z1 : z ≤ 255) {t : Int} (ht : inT t) : ∃ p, x * z = p ∧ 0 ≤ p ∧ p ≤ 65025 ∧ wrap64 p = p ∧ IntKind.i64.wrap p = p ∧ wrap64 (t + p) = t + p ∧ IntKind.i64.wrap (t + p) = t + p := by
  refine ⟨x * z, rfl, Int.mul_nonneg x0 z0, ?_, ?_⟩
  · have h1 : x * z ≤ 255 * z := Int.mul_le_mul_of_nonneg_right x1 z0
    omega
  · have p0 := Int.mul_nonneg x0 z0
    have h1 : x * z ≤ 255 * z := Int.mul_le_mul_of_nonneg_right x1 z0
    obtain ⟨a, b⟩ := ht
    generalize x * z = p at *
    refine ⟨by unfold wrap64; omega, by rw [IntKind.wrap_i64]; omega, by unfold wrap64; omega, by rw [IntKind.wrap_i64]; omega⟩

set_option maxHeartbeats 6400000 in
set_option maxRecDepth 100000 in
theorem lawTimes_any (a : Option Addr) (b off n cap : Nat) (f : Nat → Int) (w : World) (hs : BSeg w a b off n f) (hB : ∀ i, i < n → 0 ≤ f i ∧ f i ≤ 255) (hT : Tab w ∧ Err w ∧ MTab w) :
    Calls Tryd.prog 8 #[.slice a n cap] w fun e w' => e = .returned (.bool true) ∧ Below w.heap.size w w' := by
  by_cases hn : n ≤ 1048576
  · have HDr := hide (drawDayOf_any a b off n cap f w hs hB hn)
    have HAt : Hid (∀ (i : Nat) W, Ext w W → i ≤ 1000 → Calls Tryd.prog 21 #[.slice a n cap, .int .i64 i] W fun e w' => ∃ x, e = .returned (.int .i64 x) ∧ 0 ≤ x ∧ x ≤ 255 ∧ w' = W) := fun i W h hi => at_any a b off n cap f i W (hs.of_all h) hB hn hi
    have HD : Hid (∀ t W, inT t → Ext w W → Calls Tryd.prog 12 #[.int .i64 t] W fun e w' => GivesDay t W e w') := fun t W h k => implDayOf_yes t h W (hT.2.2.ext k)
    have HTm : Hid (∀ y m d s W, tOk y m d s = true → Ext w W → Calls Tryd.prog 10 #[.int .i64 y, .int .i64 m, .int .i64 d, .int .i64 s] W fun e w' => e = .returned (.tuple #[.int .i64 (tTm y m d s), .bool true]) ∧ w' = W) := fun y m d s W h k => by
      have := implTimeOf_any y m d s W (hT.2.2.ext k)
      rw [h] at this
      exact this
    have HLo : Hid (∀ t W, inT t → Ext w W → Calls Tryd.prog 16 #[.int .i64 t] W fun e w' => GivesLong t W e w') := fun t W h k => implLong_yes t h W (hT.2.2.ext k) (hT.1.ext k)
    have HSh : Hid (∀ t W, inT t → t ≤ 2524607999 → Ext w W → Calls Tryd.prog 14 #[.int .i64 t] W fun e w' => GivesShort t W e w') := fun t W h h2 k => implShort_yes t h h2 W (hT.2.2.ext k) (hT.1.ext k)
    have HSn : Hid (∀ t W, ¬ (inT t ∧ t ≤ 2524607999) → Ext w W → Calls Tryd.prog 14 #[.int .i64 t] W fun e w' => e = .returned (.tuple #[.string ⟨#[]⟩, .bool false]) ∧ Ext W w') := fun t W h k => implShort_no t h W (hT.2.2.ext k) (hT.1.ext k)
    have HRd : Hid (∀ s V W, rdOk s = true → rdV s = V → Ext w W → Calls Tryd.prog 18 #[.string s] W fun e w' => e = .returned (.tuple #[.int .i64 V, .bool true]) ∧ Ext W w') := fun s V W h h2 k => by
      have := implRead_any s W (hT.2.2.ext k) (hT.1.ext k) (hT.2.1.ext k)
      rw [h, h2] at this
      exact this
    have HBg := hide (big_any a n cap w hn)
    clear hs hB hT
    go_enter Tryd.func8, Tryd.ntmps8
    go_wp2_with fail
    refine HBg.out.mono ?_
    rintro e w1 ⟨rfl, hw⟩
    obtain rfl := hw.symm
    go_wp2_with fail
    refine HDr.out.mono ?_
    rintro e w2 ⟨t, rfl, t0, t1, E2⟩
    have HE := hide E2
    clear E2 HBg HDr
    by_cases hi : inT t
    · have Hi := hide hi
      have c1 : ¬ t < -631152000 := by have := hi.1; omega
      have c2 : ¬ 4102444799 < t := by have := hi.2; omega
      clear hi t0 t1
      go_wp2_with fail
      refine (HD.out t _ Hi.out HE.out).mono ?_
      rintro e w3 ⟨y, m, d, s, rfl, hI, E3⟩
      replace HE := hide (HE.out.trans E3)
      have HI := hide hI
      obtain ⟨ko, kv⟩ := tOk_of hI.toDayOk hI.s1
      rw [← hI.t1] at kv
      have HT1 := HTm.out (y : Int) m d s
      rw [kv] at HT1
      replace HT1 : Hid (∀ W, Ext w W → Calls Tryd.prog 10 #[.int .i64 (y : Int), .int .i64 (m : Int), .int .i64 (d : Int), .int .i64 (s : Int)] W fun e w' => e = .returned (.tuple #[.int .i64 t, .bool true]) ∧ w' = W) := fun W k => HT1 W ko k
      have tt : (t != t) = false := by simp
      clear E3 hI ko kv HTm
      go_wp2_with fail
      refine (HT1.out _ HE.out).mono ?_
      rintro e w4 ⟨rfl, hw⟩
      obtain rfl := hw.symm
      go_wp2_with fail
      refine (HLo.out t _ Hi.out HE.out).mono ?_
      rintro e w5 ⟨y2, m2, d2, s2, rfl, hI2, E5⟩
      obtain ⟨e1, e2, e3, e4⟩ := HI.out.unique hI2
      subst e1 e2 e3 e4
      replace HE := hide (HE.out.trans E5)
      clear E5 hI2 HT1
      have HR1 : Hid (∀ W, Ext w W → Calls Tryd.prog 18 #[.string (longB y m d s)] W fun e w' => e = .returned (.tuple #[.int .i64 t, .bool true]) ∧ Ext W w') := fun W k => HRd.out _ _ W (rd_long HI.out).1 (rd_long HI.out).2 k
      have hz : (longB y m d s).size = 15 := rfl
      generalize hL : longB y m d s = L at *
      have HL := hide hL
      clear hL
      go_wp2_with fail
      refine (HR1.out _ HE.out).mono ?_
      rintro e w6 ⟨rfl, E6⟩
      replace HE := hide (HE.out.trans E6)
      have hz2 : ((L.size : Int) != 15) = false := by rw [hz]; rfl
      clear E6 HR1
      by_cases h49 : t ≤ 2524607999
      · have hy : (y : Int) < 2050 := by have := HI.out.short.2 h49; omega
        have H49 := hide h49
        clear h49
        go_wp2_with fail
        refine (HSh.out t _ Hi.out H49.out HE.out).mono ?_
        rintro e w7 ⟨y2, m2, d2, s2, rfl, hI2, E7⟩
        obtain ⟨e1, e2, e3, e4⟩ := HI.out.unique hI2
        subst e1 e2 e3 e4
        replace HE := hide (HE.out.trans E7)
        clear E7 hI2
        have HR2 : Hid (∀ W, Ext w W → Calls Tryd.prog 18 #[.string (shortB y m d s)] W fun e w' => e = .returned (.tuple #[.int .i64 t, .bool true]) ∧ Ext W w') := fun W k => HRd.out _ _ W (rd_short HI.out (HI.out.short.2 H49.out)).1 (rd_short HI.out (HI.out.short.2 H49.out)).2 k
        generalize shortB y m d s = S at *
        go_wp2_with fail
        refine (HR2.out _ HE.out).mono ?_
        rintro e w8 ⟨rfl, E8⟩
        replace HE := hide (HE.out.trans E8)
        clear E8 HR2 hy hz hz2
        go_wp2_with fail
        refine (HAt.out 0 _ HE.out (by omega)).mono ?_
        rintro e w10 ⟨x, rfl, x0, x1, hw⟩
        obtain rfl := hw.symm
        go_wp2_with fail
        refine (HAt.out 1 _ HE.out (by omega)).mono ?_
        rintro e w11 ⟨z, rfl, z0, z1, hw⟩
        obtain rfl := hw.symm
        obtain ⟨p, hp, p0, p1, u1, u2, u3, u4⟩ := prod_facts x0 x1 z0 z1 Hi.out
        have v1 : wrap64 (x * z) = p := by rw [hp]; exact u1
        have v2' : IntKind.i64.wrap (x * z) = p := by rw [hp]; exact u2
        have Hp0 := hide p0
        clear hp p0 p1 x0 x1 z0 z1 u1 u2
        by_cases ho : inT (t + p)
        · have Ho := hide ho
          clear ho
          go_wp2_with fail
          refine (HLo.out (t + p) _ Ho.out HE.out).mono ?_
          rintro e w12 ⟨y3, m3, d3, s3, rfl, hI3, E12⟩
          replace HE := hide (HE.out.trans E12)
          have Hg := hide (gtr_long HI.out hI3 (show t ≤ t + p by have := Hp0.out; omega))
          rw [HL.out] at Hg
          have HQ : Hid (¬ t < t + p → longB y3 m3 d3 s3 = L) := fun hl => by
            have e : t + p = t := by have := Hp0.out; omega
            rw [e] at hI3
            obtain ⟨rfl, rfl, rfl, rfl⟩ := HI.out.unique hI3
            exact HL.out
          clear E12 hI3
          generalize longB y3 m3 d3 s3 = L2 at *
          by_cases hlt : t < t + p
          · obtain ⟨k1, k2⟩ := gtr_parts Hg.out (decide_eq_true hlt)
            clear Hg HQ
            go_wp2_with fail
            refine (implSpan_any t t _).mono ?_
            rintro e w20 ⟨rfl, hw⟩
            obtain rfl := hw.symm
            rw [sp_self Hi.out]
            go_wp2_with fail
            refine (implWithin_any t t t _).mono ?_
            rintro e w21 ⟨rfl, hw⟩
            obtain rfl := hw.symm
            rw [wi_self Hi.out]
            by_cases hM : t = 4102444799
            · have hM' : (t == 4102444799) = true := by simp [hM]
              clear hM
              go_wp2
              go_ret
              exact ⟨rfl, HE.out⟩
            · have hM' : (t == 4102444799) = false := by simp [hM]
              have hnx : wrap64 (t + 1) = t + 1 := by have h1 := Hi.out.1; have h2 := Hi.out.2; unfold wrap64; omega
              have Hn : Hid (inT (t + 1)) := ⟨by have := Hi.out.1; omega, by have := Hi.out.2; omega⟩
              clear hM
              go_wp2_with fail
              refine (implSpan_any t (t + 1) _).mono ?_
              rintro e w22 ⟨rfl, hw⟩
              obtain rfl := hw.symm
              rw [sp_next Hi.out Hn.out]
              go_wp2_with fail
              refine (implWithin_any (t + 1) t t _).mono ?_
              rintro e w23 ⟨rfl, hw⟩
              obtain rfl := hw.symm
              rw [wi_next]
              go_wp2
              go_ret
              exact ⟨rfl, HE.out⟩
          · have hLL := HQ.out hlt
            subst hLL
            have k2 : (L2.toList == L2.toList) = true := by simp
            clear Hg HQ
            go_wp2_with fail
            refine (implSpan_any t t _).mono ?_
            rintro e w20 ⟨rfl, hw⟩
            obtain rfl := hw.symm
            rw [sp_self Hi.out]
            go_wp2_with fail
            refine (implWithin_any t t t _).mono ?_
            rintro e w21 ⟨rfl, hw⟩
            obtain rfl := hw.symm
            rw [wi_self Hi.out]
            by_cases hM : t = 4102444799
            · have hM' : (t == 4102444799) = true := by simp [hM]
              clear hM
              go_wp2
              go_ret
              exact ⟨rfl, HE.out⟩
            · have hM' : (t == 4102444799) = false := by simp [hM]
              have hnx : wrap64 (t + 1) = t + 1 := by have h1 := Hi.out.1; have h2 := Hi.out.2; unfold wrap64; omega
              have Hn : Hid (inT (t + 1)) := ⟨by have := Hi.out.1; omega, by have := Hi.out.2; omega⟩
              clear hM
              go_wp2_with fail
              refine (implSpan_any t (t + 1) _).mono ?_
              rintro e w22 ⟨rfl, hw⟩
              obtain rfl := hw.symm
              rw [sp_next Hi.out Hn.out]
              go_wp2_with fail
              refine (implWithin_any (t + 1) t t _).mono ?_
              rintro e w23 ⟨rfl, hw⟩
              obtain rfl := hw.symm
              rw [wi_next]
              go_wp2
              go_ret
              exact ⟨rfl, HE.out⟩
        · skip
          have Ho := hide ho
          clear ho
          go_wp2_with fail
          refine (implLong_no (t + p) Ho.out _).mono ?_
          rintro e w12 ⟨rfl, hw⟩
          obtain rfl := hw.symm
          go_wp2_with fail
          refine (implSpan_any t t _).mono ?_
          rintro e w20 ⟨rfl, hw⟩
          obtain rfl := hw.symm
          rw [sp_self Hi.out]
          go_wp2_with fail
          refine (implWithin_any t t t _).mono ?_
          rintro e w21 ⟨rfl, hw⟩
          obtain rfl := hw.symm
          rw [wi_self Hi.out]
          by_cases hM : t = 4102444799
          · have hM' : (t == 4102444799) = true := by simp [hM]
            clear hM
            go_wp2
            go_ret
            exact ⟨rfl, HE.out⟩
          · have hM' : (t == 4102444799) = false := by simp [hM]
            have hnx : wrap64 (t + 1) = t + 1 := by have h1 := Hi.out.1; have h2 := Hi.out.2; unfold wrap64; omega
            have Hn : Hid (inT (t + 1)) := ⟨by have := Hi.out.1; omega, by have := Hi.out.2; omega⟩
            clear hM
            go_wp2_with fail
            refine (implSpan_any t (t + 1) _).mono ?_
            rintro e w22 ⟨rfl, hw⟩
            obtain rfl := hw.symm
            rw [sp_next Hi.out Hn.out]
            go_wp2_with fail
            refine (implWithin_any (t + 1) t t _).mono ?_
            rintro e w23 ⟨rfl, hw⟩
            obtain rfl := hw.symm
            rw [wi_next]
            go_wp2
            go_ret
            exact ⟨rfl, HE.out⟩
      · have hy : ¬ (y : Int) < 2050 := by have := HI.out.short; omega
        have H49 := hide h49
        clear h49
        go_wp2_with fail
        refine (HSn.out t _ (fun h => by have := H49.out; have := h.2; omega) HE.out).mono ?_
        rintro e w7 ⟨rfl, E7⟩
        replace HE := hide (HE.out.trans E7)
        clear E7
        go_wp2_with fail
        refine (HAt.out 0 _ HE.out (by omega)).mono ?_
        rintro e w10 ⟨x, rfl, x0, x1, hw⟩
        obtain rfl := hw.symm
        go_wp2_with fail
        refine (HAt.out 1 _ HE.out (by omega)).mono ?_
        rintro e w11 ⟨z, rfl, z0, z1, hw⟩
        obtain rfl := hw.symm
        obtain ⟨p, hp, p0, p1, u1, u2, u3, u4⟩ := prod_facts x0 x1 z0 z1 Hi.out
        have v1 : wrap64 (x * z) = p := by rw [hp]; exact u1
        have v2' : IntKind.i64.wrap (x * z) = p := by rw [hp]; exact u2
        have Hp0 := hide p0
        clear hp p0 p1 x0 x1 z0 z1 u1 u2
        by_cases ho : inT (t + p)
        · have Ho := hide ho
          clear ho
          go_wp2_with fail
          refine (HLo.out (t + p) _ Ho.out HE.out).mono ?_
          rintro e w12 ⟨y3, m3, d3, s3, rfl, hI3, E12⟩
          replace HE := hide (HE.out.trans E12)
          have Hg := hide (gtr_long HI.out hI3 (show t ≤ t + p by have := Hp0.out; omega))
          rw [HL.out] at Hg
          have HQ : Hid (¬ t < t + p → longB y3 m3 d3 s3 = L) := fun hl => by
            have e : t + p = t := by have := Hp0.out; omega
            rw [e] at hI3
            obtain ⟨rfl, rfl, rfl, rfl⟩ := HI.out.unique hI3
            exact HL.out
          clear E12 hI3
          generalize longB y3 m3 d3 s3 = L2 at *
          by_cases hlt : t < t + p
          · obtain ⟨k1, k2⟩ := gtr_parts Hg.out (decide_eq_true hlt)
            clear Hg HQ
            go_wp2_with fail
            refine (implSpan_any t t _).mono ?_
            rintro e w20 ⟨rfl, hw⟩
            obtain rfl := hw.symm
            rw [sp_self Hi.out]
            go_wp2_with fail
            refine (implWithin_any t t t _).mono ?_
            rintro e w21 ⟨rfl, hw⟩
            obtain rfl := hw.symm
            rw [wi_self Hi.out]
            by_cases hM : t = 4102444799
            · have hM' : (t == 4102444799) = true := by simp [hM]
              clear hM
              go_wp2
              go_ret
              exact ⟨rfl, HE.out⟩
            · have hM' : (t == 4102444799) = false := by simp [hM]
              have hnx : wrap64 (t + 1) = t + 1 := by have h1 := Hi.out.1; have h2 := Hi.out.2; unfold wrap64; omega
              have Hn : Hid (inT (t + 1)) := ⟨by have := Hi.out.1; omega, by have := Hi.out.2; omega⟩
              clear hM
              go_wp2_with fail
              refine (implSpan_any t (t + 1) _).mono ?_
              rintro e w22 ⟨rfl, hw⟩
              obtain rfl := hw.symm
              rw [sp_next Hi.out Hn.out]
              go_wp2_with fail
              refine (implWithin_any (t + 1) t t _).mono ?_
              rintro e w23 ⟨rfl, hw⟩
              obtain rfl := hw.symm
              rw [wi_next]
              go_wp2
              go_ret
              exact ⟨rfl, HE.out⟩
          · have hLL := HQ.out hlt
            subst hLL
            have k2 : (L2.toList == L2.toList) = true := by simp
            clear Hg HQ
            go_wp2_with fail
            refine (implSpan_any t t _).mono ?_
            rintro e w20 ⟨rfl, hw⟩
            obtain rfl := hw.symm
            rw [sp_self Hi.out]
            go_wp2_with fail
            refine (implWithin_any t t t _).mono ?_
            rintro e w21 ⟨rfl, hw⟩
            obtain rfl := hw.symm
            rw [wi_self Hi.out]
            by_cases hM : t = 4102444799
            · have hM' : (t == 4102444799) = true := by simp [hM]
              clear hM
              go_wp2
              go_ret
              exact ⟨rfl, HE.out⟩
            · have hM' : (t == 4102444799) = false := by simp [hM]
              have hnx : wrap64 (t + 1) = t + 1 := by have h1 := Hi.out.1; have h2 := Hi.out.2; unfold wrap64; omega
              have Hn : Hid (inT (t + 1)) := ⟨by have := Hi.out.1; omega, by have := Hi.out.2; omega⟩
              clear hM
              go_wp2_with fail
              refine (implSpan_any t (t + 1) _).mono ?_
              rintro e w22 ⟨rfl, hw⟩
              obtain rfl := hw.symm
              rw [sp_next Hi.out Hn.out]
              go_wp2_with fail
              refine (implWithin_any (t + 1) t t _).mono ?_
              rintro e w23 ⟨rfl, hw⟩
              obtain rfl := hw.symm
              rw [wi_next]
              go_wp2
              go_ret
              exact ⟨rfl, HE.out⟩
        · skip
          have Ho := hide ho
          clear ho
          go_wp2_with fail
          refine (implLong_no (t + p) Ho.out _).mono ?_
          rintro e w12 ⟨rfl, hw⟩
          obtain rfl := hw.symm
          go_wp2_with fail
          refine (implSpan_any t t _).mono ?_
          rintro e w20 ⟨rfl, hw⟩
          obtain rfl := hw.symm
          rw [sp_self Hi.out]
          go_wp2_with fail
          refine (implWithin_any t t t _).mono ?_
          rintro e w21 ⟨rfl, hw⟩
          obtain rfl := hw.symm
          rw [wi_self Hi.out]
          by_cases hM : t = 4102444799
          · have hM' : (t == 4102444799) = true := by simp [hM]
            clear hM
            go_wp2
            go_ret
            exact ⟨rfl, HE.out⟩
          · have hM' : (t == 4102444799) = false := by simp [hM]
            have hnx : wrap64 (t + 1) = t + 1 := by have h1 := Hi.out.1; have h2 := Hi.out.2; unfold wrap64; omega
            have Hn : Hid (inT (t + 1)) := ⟨by have := Hi.out.1; omega, by have := Hi.out.2; omega⟩
            clear hM
            go_wp2_with fail
            refine (implSpan_any t (t + 1) _).mono ?_
            rintro e w22 ⟨rfl, hw⟩
            obtain rfl := hw.symm
            rw [sp_next Hi.out Hn.out]
            go_wp2_with fail
            refine (implWithin_any (t + 1) t t _).mono ?_
            rintro e w23 ⟨rfl, hw⟩
            obtain rfl := hw.symm
            rw [wi_next]
            go_wp2
            go_ret
            exact ⟨rfl, HE.out⟩
    · have Hi := hide hi
      have hc : t < -631152000 ∨ (¬ t < -631152000 ∧ 4102444799 < t) := by
        by_cases h : t < -631152000
        · exact .inl h
        · exact .inr ⟨h, by
            by_cases k : 4102444799 < t
            · exact k
            · exact absurd ⟨by omega, by omega⟩ hi⟩
      clear hi t0 t1
      rcases hc with c1 | ⟨c1, c2⟩
      all_goals
        go_wp2_with fail
        refine (implDayOf_no t Hi.out _).mono ?_
        rintro e w3 ⟨rfl, hw⟩
        obtain rfl := hw.symm
        go_wp2
        go_ret
        exact ⟨rfl, HE.out⟩
  · go_enter Tryd.func8, Tryd.ntmps8
    go_wp2_with fail
    refine (big_long a n cap w hn).mono ?_
    rintro e w1 ⟨rfl, hw⟩
    obtain rfl := hw.symm
    go_wp2
    go_ret
    exact ⟨rfl, Below.refl _ _⟩

end Go.Proofs.YtjidlahgfkdipaaDoor
