/- Walks: HostOk of both, digits. -/
import Derived.Test.YtigjjkondbdgjaaHok
namespace Go.Proofs.Ytigjjkondbdgjaa
set_option linter.unusedVariables false
set_option linter.unusedSimpArgs false
open Go.RowKit

theorem digB_no {s : ByteArray} {k : Nat} (hk : k < s.size) (h : dgB (bt s k) = false) : digB s = false := allN_false hk h

set_option maxHeartbeats 800000 in
set_option maxRecDepth 100000 in
theorem l8Digits_any (s : ByteArray) (hs : s.size ≤ 1048576) (w : World) :
    Calls Try.prog 56 #[.string s] w fun e w' => e = .returned (.bool (digB s && decide (0 < s.size))) ∧ w' = w := by
  go_enter Try.func56, Try.ntmps56
  go_wp2
  go_loop [3] (fun i => ∃ k : Nat, k ≤ s.size ∧ i = .int .i64 k ∧ ∀ j, j < k → dgB (bt s j) = true) (fun i => s.size - (intOf i).toNat)
  case atStart => exact ⟨0, Nat.zero_le _, rfl, fun j hj => absurd hj (Nat.not_lt_zero _)⟩
  case round =>
    obtain ⟨k, hk, rfl, hd⟩ := hrel
    have HD := hide hd
    clear hd
    by_cases hlt : k < s.size
    · have hb := bt_get s k hlt
      have hkn : (k : Int) < (s.size : Int) := by omega
      have h2 := bt_lt s k
      have HC : Hid (∀ b, dgB (bt s k) = b → (b = true → ∀ j, j < k + 1 → dgB (bt s j) = true) ∧ (b = false → digB s = false)) := by
        intro b hb
        refine ⟨fun h j hj => ?_, fun h => digB_no hlt (hb.trans h)⟩
        by_cases e : j = k
        · subst e; exact hb.trans h
        · exact HD.out j (by omega)
      clear HD
      generalize bt s k = c at *
      have H2 := hide (dgB_i c)
      cases e2 : dgB c
      · have hb2 : (decide (48 ≤ (c : Int)) && decide ((c : Int) ≤ 57)) = false := H2.out.trans e2
        have HK := hide ((HC.out false e2).2 rfl)
        clear HC H2 e2
        go_wp2_with (go_at_call 71; refine (l1In_any _ _ _ _).mono ?_; rintro e w' ⟨rfl, rfl⟩)
        go_ret
        exact ⟨ret_bool (by rw [HK.out]; rfl), rfl⟩
      · have hb2 : (decide (48 ≤ (c : Int)) && decide ((c : Int) ≤ 57)) = true := H2.out.trans e2
        have HK := hide ((HC.out true e2).1 rfl)
        clear HC H2 e2
        go_wp2_with (go_at_call 71; refine (l1In_any _ _ _ _).mono ?_; rintro e w' ⟨rfl, rfl⟩)
        go_round
        case rel => exact ⟨k + 1, by omega, by go_num, HK.out⟩
        case measure => simp [intOf]; omega
    · obtain rfl : k = s.size := by omega
      have HF : Hid (digB s = true) := (allN_iff _ _ _).2 HD.out
      clear HD
      go_wp2
      go_ret
      refine ⟨ret_bool ?_, rfl⟩
      rw [HF.out, Bool.true_and]
      first | done | (apply decide_eq_decide.2; omega)

set_option maxHeartbeats 800000 in
set_option maxRecDepth 100000 in
theorem allDecimal_any (s : ByteArray) (hs : s.size ≤ 1048576) (w : World) :
    Calls Try.prog 59 #[.string s] w fun e w' => e = .returned (.bool (digB s)) ∧ Ext w w' := by
  have HI := hide (Itr.start (Ext.refl w) s)
  go_enter Try.func59, Try.ntmps59
  go_wp2
  go_loopw [] (fun wr => ∃ p : Nat, p ≤ s.size ∧ Itr w wr w.heap.size s p ∧ ∀ j, j < p → dgB (bt s j) = true) (fun wr => s.size - wr.iterPos w.heap.size)
  case atStart => exact ⟨0, Nat.zero_le _, HI.out, fun j hj => absurd hj (Nat.not_lt_zero _)⟩
  case round =>
    clear HI
    obtain ⟨p, hp, hI, hd⟩ := hrel
    have HD := hide hd
    clear hd
    by_cases hlt : p < s.size
    · obtain ⟨r, q, hR⟩ := rn_at s p hlt
      have hnx : ∀ ty, (Instr.next (.pointer (some ⟨w.heap.size, 0, none⟩)) true ty).run Try.prog wr = _ := fun ty => hR.next hI.blk hlt ty
      have HM : Hid (wr.iterPos w.heap.size = p) := hI.pos
      have HR := hide hR
      have h2 := hR.le
      have HI := hide (hI.step (p + q))
      clear hI hR
      generalize wr.iterAt w.heap.size s (p + q) = w2 at *
      have HC : Hid (∀ b, dgB r = b → (b = true → ∀ j, j < p + q → dgB (bt s j) = true) ∧ (b = false → digB s = false)) := by
        intro b hb
        by_cases h6 : r < 128
        · obtain ⟨rfl, h7⟩ := HR.out.low h6
          refine ⟨fun h j hj => ?_, fun h => digB_no hlt (by rw [← h7]; exact hb.trans h)⟩
          by_cases e : j = p
          · subst e; rw [← h7]; exact hb.trans h
          · exact HD.out j (by omega)
        · refine ⟨fun h => ?_, fun h => digB_no hlt ?_⟩
          · exfalso
            subst h
            simp only [dgB, Bool.or_eq_true, Bool.and_eq_true, decide_eq_true_eq, beq_iff_eq] at hb
            omega
          · have h8 := HR.out.high (by omega) p (Nat.le_refl _) (by have := HR.out.pos; omega)
            generalize bt s p = x at *
            simp only [dgB, Bool.and_eq_false_iff, decide_eq_false_iff_not]
            omega
      clear HD
      cases e2 : dgB r
      · have HK := hide ((HC.out false e2).2 rfl)
        clear HC
        go_wp2_with (go_at_call 74; refine (isDecimal_any _ _).mono ?_; rintro e w' ⟨rfl, rfl⟩)
        go_ret
        exact ⟨ret_bool HK.out.symm, HI.out.ext⟩
      · have HK := hide ((HC.out true e2).1 rfl)
        clear HC
        go_wp2_with (go_at_call 74; refine (isDecimal_any _ _).mono ?_; rintro e w' ⟨rfl, rfl⟩)
        go_roundw
        case rel => exact ⟨p + q, HR.out.fits, HI.out, HK.out⟩
        case measure => rw [HM.out, HI.out.pos]; have := HR.out.pos; omega
    · obtain rfl : p = s.size := by omega
      have hnx : ∀ ty, (Instr.next (.pointer (some ⟨w.heap.size, 0, none⟩)) true ty).run Try.prog wr = _ := fun ty => Lib.run_next_end_at wr w.heap.size s s.size ty hI.blk hlt
      have HE := hide hI.ext
      have HK : Hid (digB s = true) := (allN_iff _ _ _).2 HD.out
      clear hI HD
      go_wp2
      go_ret
      exact ⟨ret_bool HK.out.symm, HE.out⟩

theorem partsFrom_size (s : ByteArray) (m : Nat) : ∀ n k fr, k + n = s.size → fr ≤ k → ∀ x ∈ partsFrom s m n k fr, x.size ≤ s.size
  | 0, k, fr, hk, hf, x, hx => by
    simp only [partsFrom, List.mem_singleton] at hx
    subst hx
    simp
  | n + 1, k, fr, hk, hf, x, hx => by
    unfold partsFrom at hx
    split at hx
    · rcases List.mem_cons.1 hx with rfl | hx
      · simp; omega
      · exact partsFrom_size s m n _ _ (by omega) (Nat.le_refl _) x hx
    · exact partsFrom_size s m n _ _ (by omega) (by omega) x hx
theorem nth_mem {L : List ByteArray} {i : Nat} (h : i < L.length) : nth L i ∈ L := by
  unfold nth
  rw [List.getD_eq_getElem?_getD, List.getElem?_eq_getElem h]
  exact List.getElem_mem _
theorem nth_size {s : ByteArray} {m i : Nat} (h : i < (parts s m).length) : (nth (parts s m) i).size ≤ s.size :=
  partsFrom_size s m _ _ _ (by omega) (Nat.le_refl _) _ (nth_mem h)

theorem all_nth {L : List ByteArray} : L.all labB = true ↔ ∀ i, i < L.length → labB (nth L i) = true := by
  rw [List.all_eq_true]
  constructor
  · exact fun h i hi => h _ (nth_mem hi)
  · intro h x hx
    obtain ⟨i, hi, rfl⟩ := List.getElem_of_mem hx
    have := h i hi
    unfold nth at this
    rwa [List.getD_eq_getElem?_getD, List.getElem?_eq_getElem hi] at this
theorem hostL_no {L : List ByteArray} {i : Nat} (hi : i < L.length) (h : labB (nth L i) = false) : hostL L = false := by
  unfold hostL
  cases e : L.all labB
  · rfl
  · rw [all_nth.1 e i hi] at h; cases h

theorem hostL_end {L : List ByteArray} (h : ∀ i, i < L.length → labB (nth L i) = true) : hostL L = (decide (L.length ≤ 8) && !digB (nth L (L.length - 1))) := by
  unfold hostL
  rw [all_nth.2 h, Bool.true_and]
theorem labB_pos {s : ByteArray} (h : labB s = true) : 0 < s.size := by
  unfold labB at h
  simp only [Bool.and_eq_true, decide_eq_true_eq] at h
  omega

set_option maxHeartbeats 1600000 in
set_option maxRecDepth 100000 in
theorem specHostOk_any (s : ByteArray) (hs : s.size ≤ 2097152) (w : World) :
    Calls Try.prog 25 #[.string s] w fun e w' => e = .returned (.bool (hostB s)) ∧ Ext w w' := by
  by_cases h80 : s.size ≤ 80
  · have g1 : ¬ (80 : Int) < (s.size : Int) := by omega
    have HH : Hid (hostB s = hostL (parts s 46)) := by show _ = _; unfold hostB; simp [h80]
    go_enter Try.func25, Try.ntmps25
    go_wp2_with fail
    refine (l8Parts_any s 46 (by omega) (by omega) w).mono ?_
    rintro e w1 ⟨g, cap, rfl, hC, hE⟩
    have HN := hide (parts_ne s 46)
    have HM := hide (parts_le s 46)
    have HZ : Hid (∀ i, i < (parts s 46).length → (nth (parts s 46) i).size ≤ s.size) := fun i => nth_size
    have HC := hide hC
    have HE := hide hE
    clear hC hE
    generalize parts s 46 = L at *
    have hLm : L.length ≤ 81 := by have := HM.out; omega
    go_wp2
    go_loop [4] (fun i => ∃ k : Nat, k ≤ L.length ∧ i = .int .i64 k ∧ ∀ j, j < k → labB (nth L j) = true) (fun i => L.length - (intOf i).toNat)
    case atStart => exact ⟨0, Nat.zero_le _, rfl, fun j hj => absurd hj (Nat.not_lt_zero _)⟩
    case round =>
      obtain ⟨k, hk, rfl, hd⟩ := hrel
      have HD := hide hd
      clear hd
      by_cases hlt : k < L.length
      · have hkn : (k : Int) < (L.length : Int) := by omega
        have hc := HC.out k hlt
        have HS := hide (HZ.out k hlt)
        have HQ : Hid (∀ b, labB (nth L k) = b → (b = true → ∀ j, j < k + 1 → labB (nth L j) = true) ∧ (b = false → hostL L = false)) := by
          intro b hb
          refine ⟨fun h j hj => ?_, fun h => hostL_no hlt (hb.trans h)⟩
          by_cases e : j = k
          · subst e; exact hb.trans h
          · exact HD.out j (by omega)
        clear HD
        generalize nth L k = x at *
        have HL := hide (l8Label_any x (by have := HS.out; omega) w1)
        cases e1 : labB x
        · have HK := hide ((HQ.out false e1).2 rfl)
          rw [e1] at HL
          clear HQ
          go_wp2_with (go_at_call 55; refine HL.out.mono ?_; rintro e w' ⟨rfl, rfl⟩)
          go_ret
          exact ⟨ret_bool (by rw [HH.out, HK.out]), HE.out⟩
        · have HK := hide ((HQ.out true e1).1 rfl)
          rw [e1] at HL
          clear HQ
          go_wp2_with (go_at_call 55; refine HL.out.mono ?_; rintro e w' ⟨rfl, rfl⟩)
          go_round
          case rel => exact ⟨k + 1, by omega, by go_num, HK.out⟩
          case measure => simp [intOf]; omega
      · obtain rfl : k = L.length := by omega
        have HF := hide (hostL_end HD.out)
        have h1 := HN.out
        by_cases h8 : L.length ≤ 8
        · have g8 : (L.length : Int) ≤ 8 := by omega
          have hc := HC.out (L.length - 1) (by omega)
          have hq : (0 : Int) ≤ (L.length : Int) - 1 := by omega
          have hq1 : (L.length : Int) - 1 < (L.length : Int) := by omega
          have hq2 : ((L.length : Int) - 1).toNat = L.length - 1 := by omega
          have HL := hide (l8Digits_any (nth L (L.length - 1)) (by have := HZ.out (L.length - 1) (by omega); omega) w1)
          have HP : Hid (decide (0 < (nth L (L.length - 1)).size) = true) := decide_eq_true (labB_pos (HD.out (L.length - 1) (by omega)))
          rw [HP.out, Bool.and_true] at HL
          clear HD HP HC
          generalize nth L (L.length - 1) = x at *
          generalize digB x = b at *
          have hq3 : wrap64 ((L.length : Int) - 1) = (L.length : Int) - 1 := by unfold wrap64; omega
          go_wp2_with (go_at_call 56; refine HL.out.mono ?_; rintro e w' ⟨rfl, rfl⟩)
          go_ret
          exact ⟨ret_bool (by rw [HH.out, HF.out]; simp [h8]), HE.out⟩
        · have g8 : ¬ (L.length : Int) ≤ 8 := by omega
          go_wp2
          go_ret
          exact ⟨ret_bool (by rw [HH.out, HF.out]; simp [h8]), HE.out⟩
  · have g1 : (80 : Int) < (s.size : Int) := by omega
    go_enter Try.func25, Try.ntmps25
    go_wp2
    go_ret
    exact ⟨ret_bool (by simp [hostB, h80]), Ext.refl _⟩

set_option maxHeartbeats 1600000 in
set_option maxRecDepth 100000 in
theorem implHostOk_any (s : ByteArray) (hs : s.size ≤ 2097152) (w : World) :
    Calls Try.prog 30 #[.string s] w fun e w' => e = .returned (.bool (hostB s)) ∧ Ext w w' := by
  by_cases h80 : s.size ≤ 80
  · have g1 : ¬ (80 : Int) < (s.size : Int) := by omega
    have HH : Hid (hostB s = hostL (parts s 46)) := by show _ = _; unfold hostB; simp [h80]
    go_enter Try.func30, Try.ntmps30
    go_wp2_with fail
    refine (pieces_any s (by omega) w).mono ?_
    rintro e w1 ⟨g, cap, rfl, hC, hE⟩
    have HN := hide (parts_ne s 46)
    have HM := hide (parts_le s 46)
    have HZ : Hid (∀ i, i < (parts s 46).length → (nth (parts s 46) i).size ≤ s.size) := fun i => nth_size
    have HC := hide hC
    have HE := hide hE
    have HG : Hid (g < w1.heap.size) := World.block_lt_of_cell? _ _ (HC.out 0 (by have := HN.out; omega))
    clear hC hE
    generalize parts s 46 = L at *
    have hLm : L.length ≤ 81 := by have := HM.out; omega
    by_cases h8 : L.length ≤ 8
    · have g8 : ¬ (8 : Int) < (L.length : Int) := by omega
      go_wp2
      go_loopw [16] (fun i wr => ∃ k : Nat, k ≤ L.length ∧ i = .int .i64 k ∧ (∀ j, j < k → labB (nth L j) = true) ∧ Ext w1 wr) (fun i _ => L.length - (intOf i).toNat)
      case atStart => exact ⟨0, Nat.zero_le _, rfl, fun j hj => absurd hj (Nat.not_lt_zero _), Ext.refl _⟩
      case round =>
        obtain ⟨k, hk, rfl, hd, hx⟩ := hrel
        have HD := hide hd
        have HX := hide hx
        clear hd hx
        by_cases hlt : k < L.length
        · have hkn : (k : Int) < (L.length : Int) := by omega
          have hc : wr.cell? ⟨g, k, none⟩ = some (.string (nth L k)) := (Below.cell HX.out (p := ⟨g, k, none⟩) HG.out).trans (HC.out k hlt)
          have HS := hide (HZ.out k hlt)
          have HQ : Hid (∀ b, labB (nth L k) = b → (b = true → ∀ j, j < k + 1 → labB (nth L j) = true) ∧ (b = false → hostL L = false)) := by
            intro b hb
            refine ⟨fun h j hj => ?_, fun h => hostL_no hlt (hb.trans h)⟩
            by_cases e : j = k
            · subst e; exact hb.trans h
            · exact HD.out j (by omega)
          clear HD
          generalize nth L k = x at *
          have HL := hide (labelOk_any x (by have := HS.out; omega) wr)
          cases e1 : labB x
          · have HK := hide ((HQ.out false e1).2 rfl)
            rw [e1] at HL
            clear HQ
            go_wp2_with (go_at_call 58; refine HL.out.mono ?_; rintro e w2 ⟨rfl, hE2⟩; have HE2 := hide hE2; clear hE2)
            go_ret
            exact ⟨ret_bool (by rw [HH.out, HK.out]), Ext.trans HE.out (Ext.trans HX.out HE2.out)⟩
          · have HK := hide ((HQ.out true e1).1 rfl)
            rw [e1] at HL
            clear HQ
            go_wp2_with (go_at_call 58; refine HL.out.mono ?_; rintro e w2 ⟨rfl, hE2⟩; have HE2 := hide hE2; clear hE2)
            go_roundw
            case rel => exact ⟨k + 1, by omega, by go_num, HK.out, Ext.trans HX.out HE2.out⟩
            case measure => simp [intOf]; omega
        · obtain rfl : k = L.length := by omega
          have HF := hide (hostL_end HD.out)
          have h1 := HN.out
          have hc : wr.cell? ⟨g, L.length - 1, none⟩ = some (.string (nth L (L.length - 1))) := (Below.cell HX.out (p := ⟨g, L.length - 1, none⟩) HG.out).trans (HC.out (L.length - 1) (by omega))
          have hq : (0 : Int) ≤ (L.length : Int) - 1 := by omega
          have hq1 : (L.length : Int) - 1 < (L.length : Int) := by omega
          have hq2 : ((L.length : Int) - 1).toNat = L.length - 1 := by omega
          have HL := hide (allDecimal_any (nth L (L.length - 1)) (by have := HZ.out (L.length - 1) (by omega); omega) wr)
          clear HD HC
          generalize nth L (L.length - 1) = x at *
          generalize digB x = b at *
          have hq3 : wrap64 ((L.length : Int) - 1) = (L.length : Int) - 1 := by unfold wrap64; omega
          go_wp2_with (go_at_call 59; refine HL.out.mono ?_; rintro e w2 ⟨rfl, hE2⟩; have HE2 := hide hE2; clear hE2)
          go_ret
          exact ⟨ret_bool (by rw [HH.out, HF.out]; simp [h8]), Ext.trans HE.out (Ext.trans HX.out HE2.out)⟩
    · have g8 : (8 : Int) < (L.length : Int) := by omega
      go_wp2
      go_ret
      exact ⟨ret_bool (by rw [HH.out]; simp [hostL, h8]), HE.out⟩
  · have g1 : (80 : Int) < (s.size : Int) := by omega
    go_enter Try.func30, Try.ntmps30
    go_wp2
    go_ret
    exact ⟨ret_bool (by simp [hostB, h80]), Ext.refl _⟩

end Go.Proofs.Ytigjjkondbdgjaa
