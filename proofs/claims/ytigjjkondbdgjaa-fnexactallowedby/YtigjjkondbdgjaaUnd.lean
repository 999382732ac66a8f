/- Walks: Under of both. -/
import Derived.Test.YtigjjkondbdgjaaMat
namespace Go.Proofs.Ytigjjkondbdgjaa
set_option linter.unusedVariables false
set_option linter.unusedSimpArgs false
open Go.RowKit

/-- h ends with a dot and b. -/
def sufB (b h : ByteArray) : Bool := decide (b.size < h.size) && (eqS (h.extract (h.size - b.size) h.size) b && (bt h (h.size - b.size - 1) == 46))
def undB (b h : ByteArray) : Bool := hostB b && (hostB h && (eqS b h || sufB b h))

theorem data_inj {a b : ByteArray} (h : a.data.toList = b.data.toList) : a = b := ByteArray.ext (Array.ext' h)

theorem suf_alt (b h : ByteArray) : (decide (b.size + 1 ≤ h.size) && eqS (h.extract (h.size - (b.size + 1)) h.size) (⟨#[46]⟩ ++ b)) = sufB b h := by
  unfold sufB
  by_cases hl : b.size < h.size
  · rw [decide_eq_true (show b.size + 1 ≤ h.size by omega), decide_eq_true hl, Bool.true_and, Bool.true_and]
    have hz := Lib.size_eq h
    have hk : h.size - (b.size + 1) < h.data.toList.length := by omega
    have e1 : (h.extract (h.size - (b.size + 1)) h.size).data.toList = h.data.toList[h.size - (b.size + 1)] :: (h.extract (h.size - b.size) h.size).data.toList := by
      rw [Lib.extract_data, Lib.extract_data, List.take_of_length_le (by simp), List.take_of_length_le (by simp), List.drop_eq_getElem_cons hk]
      congr 2
      omega
    have hb := bt_list h _ hk
    rw [show h.size - b.size - 1 = h.size - (b.size + 1) by omega, ← hb]
    have e2 : ((⟨#[46]⟩ : ByteArray) ++ b).data.toList = 46 :: b.data.toList := by simp
    unfold eqS
    rw [ByteArray.toList_eq, ByteArray.toList_eq, ByteArray.toList_eq, ByteArray.toList_eq, e1, e2]
    generalize h.data.toList[h.size - (b.size + 1)] = x
    generalize (h.extract (h.size - b.size) h.size).data.toList = l
    have hx : (x == 46) = (x.toNat == 46) := by
      cases e : (x.toNat == 46)
      · cases e' : (x == 46)
        · rfl
        · rw [beq_iff_eq.1 e'] at e; simp at e
      · rw [beq_iff_eq] at e ⊢
        exact UInt8.toNat.inj e
    rw [List.cons_beq_cons, hx, Bool.and_comm]
  · rw [decide_eq_false (show ¬ b.size + 1 ≤ h.size by omega), decide_eq_false hl, Bool.false_and, Bool.false_and]

set_option maxHeartbeats 1000000 in
theorem hasSuffix0_any (s p : ByteArray) (hs : s.size ≤ 4194304) (hp : p.size ≤ 4194304) (w : World) :
    Calls Try.prog 78 #[.string s, .string p] w fun e w' => e = .returned (.bool (decide (p.size ≤ s.size) && eqS (s.extract (s.size - p.size) s.size) p)) ∧ w' = w := by
  by_cases h : p.size ≤ s.size
  · have g1 : (p.size : Int) ≤ s.size := by omega
    have g2 : (0 : Int) ≤ (s.size : Int) - p.size := by omega
    have g3 : (s.size : Int) - p.size ≤ s.size := by omega
    have g4 : ((s.size : Int) - p.size).toNat = s.size - p.size := by omega
    rw [decide_eq_true h, Bool.true_and]
    go_enter Try.func78, Try.ntmps78
    go_wp2
    go_ret
    exact ⟨rfl, rfl⟩
  · have g1 : ¬ (p.size : Int) ≤ s.size := by omega
    rw [decide_eq_false h, Bool.false_and]
    go_enter Try.func78, Try.ntmps78
    go_wp2
    go_ret
    exact ⟨rfl, rfl⟩

set_option maxHeartbeats 1000000 in
theorem hasSuffix_any (s p : ByteArray) (hs : s.size ≤ 4194304) (hp : p.size ≤ 4194304) (w : World) :
    Calls Try.prog 76 #[.string s, .string p] w fun e w' => e = .returned (.bool (decide (p.size ≤ s.size) && eqS (s.extract (s.size - p.size) s.size) p)) ∧ w' = w := by
  have H := hide (hasSuffix0_any s p hs hp w)
  generalize (decide (p.size ≤ s.size) && eqS (s.extract (s.size - p.size) s.size) p) = r at *
  go_enter Try.func76, Try.ntmps76
  go_wp2_with (go_at_call 78; refine H.out.mono ?_; rintro e w' ⟨rfl, rfl⟩)
  go_ret
  exact ⟨rfl, rfl⟩

set_option maxHeartbeats 1600000 in
set_option maxRecDepth 100000 in
theorem implUnder_any (b h : ByteArray) (hp : b.size ≤ 2097152) (hh : h.size ≤ 2097152) (w : World) :
    Calls Try.prog 62 #[.string b, .string h] w fun e w' => e = .returned (.bool (undB b h)) ∧ Ext w w' := by
  have H1 := hide (implHostOk_any b hp w)
  have H2 : Hid (∀ w, Calls Try.prog 30 #[.string h] w fun e w' => e = .returned (.bool (hostB h)) ∧ Ext w w') := fun w => implHostOk_any h hh w
  have hz : ((⟨#[46]⟩ : ByteArray) ++ b).size = b.size + 1 := by rw [ByteArray.size_append]; show 1 + _ = _; omega
  have H3 : Hid (∀ w, Calls Try.prog 76 #[.string h, .string (⟨#[46]⟩ ++ b)] w fun e w' => e = .returned (.bool (sufB b h)) ∧ w' = w) := fun w => by
    rw [← suf_alt, ← hz]
    exact hasSuffix_any h (⟨#[46]⟩ ++ b) (by omega) (by omega) w
  have HV : Hid (undB b h = (hostB b && (hostB h && (eqS b h || sufB b h)))) := rfl
  clear hz
  cases e1 : hostB b
  · rw [e1] at H1 HV
    go_enter Try.func62, Try.ntmps62
    go_wp2_with fail
    refine H1.out.mono ?_
    rintro e w1 ⟨rfl, hE⟩
    have HE := hide hE
    clear hE
    go_wp2
    go_ret
    exact ⟨ret_bool (by rw [HV.out]; rfl), HE.out⟩
  · rw [e1] at H1 HV
    go_enter Try.func62, Try.ntmps62
    go_wp2_with fail
    refine H1.out.mono ?_
    rintro e w1 ⟨rfl, hE⟩
    have HE := hide hE
    clear hE
    go_wp2_with fail
    refine (H2.out _).mono ?_
    rintro e w2 ⟨rfl, hE⟩
    have HE2 := hide hE
    clear hE
    cases e2 : hostB h
    · rw [e2] at HV
      go_wp2
      go_ret
      exact ⟨ret_bool (by rw [HV.out]; rfl), Ext.trans HE.out HE2.out⟩
    · rw [e2] at HV
      have hq : (h.toList == b.toList) = eqS b h := eqS_comm h b
      cases e3 : eqS b h
      · rw [e3] at HV hq
        go_wp2_with (go_at_call 76; refine (H3.out _).mono ?_; rintro e w3 ⟨rfl, rfl⟩)
        go_ret
        exact ⟨ret_bool (by rw [HV.out]; rfl), Ext.trans HE.out HE2.out⟩
      · rw [e3] at HV hq
        go_wp2
        go_ret
        exact ⟨ret_bool (by rw [HV.out]; rfl), Ext.trans HE.out HE2.out⟩

set_option maxHeartbeats 1600000 in
set_option maxRecDepth 100000 in
theorem specUnder_any (b h : ByteArray) (hp : b.size ≤ 2097152) (hh : h.size ≤ 2097152) (w : World) :
    Calls Try.prog 26 #[.string b, .string h] w fun e w' => e = .returned (.bool (undB b h)) ∧ Ext w w' := by
  have H1 := hide (specHostOk_any b hp w)
  have H2 : Hid (∀ w, Calls Try.prog 25 #[.string h] w fun e w' => e = .returned (.bool (hostB h)) ∧ Ext w w') := fun w => specHostOk_any h hh w
  have HV : Hid (undB b h = (hostB b && (hostB h && (eqS b h || sufB b h)))) := rfl
  cases e1 : hostB b
  · rw [e1] at H1 HV
    go_enter Try.func26, Try.ntmps26
    go_wp2_with fail
    refine H1.out.mono ?_
    rintro e w1 ⟨rfl, hE⟩
    have HE := hide hE
    clear hE
    go_wp2
    go_ret
    exact ⟨ret_bool (by rw [HV.out]; rfl), HE.out⟩
  · rw [e1] at H1 HV
    go_enter Try.func26, Try.ntmps26
    go_wp2_with fail
    refine H1.out.mono ?_
    rintro e w1 ⟨rfl, hE⟩
    have HE := hide hE
    clear hE
    go_wp2_with fail
    refine (H2.out _).mono ?_
    rintro e w2 ⟨rfl, hE⟩
    have HE2 := hide hE
    clear hE
    cases e2 : hostB h
    · rw [e2] at HV
      go_wp2
      go_ret
      exact ⟨ret_bool (by rw [HV.out]; rfl), Ext.trans HE.out HE2.out⟩
    · rw [e2] at HV
      have hq : (b.toList == h.toList) = eqS b h := rfl
      cases e3 : eqS b h
      · rw [e3] at HV hq
        by_cases hl : b.size < h.size
        · have g1 : (0 : Int) < (h.size : Int) - b.size := by omega
          have g2 : (0 : Int) ≤ (h.size : Int) - b.size := by omega
          have g3 : (h.size : Int) - b.size ≤ h.size := by omega
          have g4 : ((h.size : Int) - b.size).toNat = h.size - b.size := by omega
          have g5 : (0 : Int) ≤ (h.size : Int) - b.size - 1 := by omega
          have g6 : (h.size : Int) - b.size - 1 < h.size := by omega
          have g7 : ((h.size : Int) - b.size - 1).toNat = h.size - b.size - 1 := by omega
          have hb := bt_get h (h.size - b.size - 1) (by omega)
          have hx : ((h.extract (h.size - b.size) h.size).toList == b.toList) = eqS (h.extract (h.size - b.size) h.size) b := rfl
          have HS : Hid (sufB b h = (eqS (h.extract (h.size - b.size) h.size) b && (bt h (h.size - b.size - 1) == 46))) := by show _ = _; unfold sufB; rw [decide_eq_true hl, Bool.true_and]
          cases e4 : eqS (h.extract (h.size - b.size) h.size) b
          · rw [e4] at hx HS
            go_wp2
            go_ret
            exact ⟨ret_bool (by rw [HV.out, HS.out]; rfl), Ext.trans HE.out HE2.out⟩
          · rw [e4] at hx HS
            generalize bt h (h.size - b.size - 1) = c at *
            have HC : Hid (((c : Int) == 46) = (c == 46)) := by
              show _ = _
              cases e : (c == 46)
              · simp at e ⊢; omega
              · simp at e ⊢; omega
            go_wp2
            go_ret
            exact ⟨ret_bool (by rw [HV.out, HS.out, ← HC.out]; rfl), Ext.trans HE.out HE2.out⟩
        · have g1 : ¬ (0 : Int) < (h.size : Int) - b.size := by omega
          have HS : Hid (sufB b h = false) := by show _ = _; unfold sufB; rw [decide_eq_false hl, Bool.false_and]
          go_wp2
          go_ret
          exact ⟨ret_bool (by rw [HV.out, HS.out]; rfl), Ext.trans HE.out HE2.out⟩
      · rw [e3] at HV hq
        go_wp2
        go_ret
        exact ⟨ret_bool (by rw [HV.out]; rfl), Ext.trans HE.out HE2.out⟩

end Go.Proofs.Ytigjjkondbdgjaa
