/- Walks: labels and HostOk of both. -/
import Derived.Test.YtigjjkondbdgjaaHos
namespace Go.Proofs.Ytigjjkondbdgjaa
set_option linter.unusedVariables false
set_option linter.unusedSimpArgs false
open Go.RowKit

/-- The first n bytes are all such. -/
def allN (P : Nat → Bool) (s : ByteArray) : Nat → Bool
  | 0 => true
  | n + 1 => allN P s n && P (bt s n)
theorem allN_iff (P : Nat → Bool) (s : ByteArray) (n : Nat) : allN P s n = true ↔ ∀ i, i < n → P (bt s i) = true := by
  induction n with
  | zero => simp [allN]
  | succ n ih =>
    rw [allN, Bool.and_eq_true, ih]
    constructor
    · rintro ⟨h, h0⟩ i hi
      by_cases e : i = n
      · subst e; exact h0
      · exact h i (by omega)
    · intro h
      exact ⟨fun i hi => h i (by omega), h n (by omega)⟩
theorem allN_false {P : Nat → Bool} {s : ByteArray} {n k : Nat} (hk : k < n) (h : P (bt s k) = false) : allN P s n = false := by
  cases e : allN P s n with
  | false => rfl
  | true => rw [(allN_iff P s n).1 e k hk] at h; cases h

def smB (c : Nat) : Bool := decide (97 ≤ c) && decide (c ≤ 122)
def dgB (c : Nat) : Bool := decide (48 ≤ c) && decide (c ≤ 57)
def chB (c : Nat) : Bool := smB c || dgB c || c == 45
/-- A label. -/
def labB (s : ByteArray) : Bool := allN chB s s.size && (decide (1 ≤ s.size) && decide (s.size ≤ 20) && (bt s 0 != 45) && (bt s (s.size - 1) != 45))
def digB (s : ByteArray) : Bool := allN dgB s s.size
/-- A host. -/
def hostL (L : List ByteArray) : Bool := L.all labB && (decide (L.length ≤ 8) && !digB (nth L (L.length - 1)))
def hostB (s : ByteArray) : Bool := decide (s.size ≤ 80) && hostL (parts s 46)

theorem smB_i (c : Nat) : (decide (97 ≤ (c : Int)) && decide ((c : Int) ≤ 122)) = smB c := by
  unfold smB
  congr 1 <;> · apply decide_eq_decide.2; omega
theorem dgB_i (c : Nat) : (decide (48 ≤ (c : Int)) && decide ((c : Int) ≤ 57)) = dgB c := by
  unfold dgB
  congr 1 <;> · apply decide_eq_decide.2; omega

theorem isSmall_any (r : Nat) (w : World) :
    Calls Try.prog 73 #[.int .i32 (r : Int)] w fun e w' => e = .returned (.bool (smB r)) ∧ w' = w := by
  have H := hide (smB_i r)
  by_cases h1 : (97 : Int) ≤ r
  · by_cases h2 : (r : Int) ≤ 122
    · go_enter Try.func73, Try.ntmps73
      go_wp2
      go_ret
      exact ⟨ret_bool (by rw [← H.out]; simp [h1, h2]), rfl⟩
    · go_enter Try.func73, Try.ntmps73
      go_wp2
      go_ret
      exact ⟨ret_bool (by rw [← H.out]; simp [h1, h2]), rfl⟩
  · go_enter Try.func73, Try.ntmps73
    go_wp2
    go_ret
    exact ⟨ret_bool (by rw [← H.out]; simp; omega), rfl⟩

theorem isDecimal_any (r : Nat) (w : World) :
    Calls Try.prog 74 #[.int .i32 (r : Int)] w fun e w' => e = .returned (.bool (dgB r)) ∧ w' = w := by
  have H := hide (dgB_i r)
  by_cases h1 : (48 : Int) ≤ r
  · by_cases h2 : (r : Int) ≤ 57
    · go_enter Try.func74, Try.ntmps74
      go_wp2
      go_ret
      exact ⟨ret_bool (by rw [← H.out]; simp [h1, h2]), rfl⟩
    · go_enter Try.func74, Try.ntmps74
      go_wp2
      go_ret
      exact ⟨ret_bool (by rw [← H.out]; simp [h1, h2]), rfl⟩
  · go_enter Try.func74, Try.ntmps74
    go_wp2
    go_ret
    exact ⟨ret_bool (by rw [← H.out]; simp; omega), rfl⟩

theorem labB_no {s : ByteArray} {k : Nat} (hk : k < s.size) (h : chB (bt s k) = false) : labB s = false := by
  unfold labB
  rw [allN_false hk h, Bool.false_and]
theorem labB_end {s : ByteArray} (h : ∀ i, i < s.size → chB (bt s i) = true) : labB s = (decide (1 ≤ s.size) && decide (s.size ≤ 20) && (bt s 0 != 45) && (bt s (s.size - 1) != 45)) := by
  unfold labB
  rw [(allN_iff chB s s.size).2 h, Bool.true_and]

set_option maxHeartbeats 1600000 in
set_option maxRecDepth 100000 in
theorem l8Label_any (s : ByteArray) (hs : s.size ≤ 1048576) (w : World) :
    Calls Try.prog 55 #[.string s] w fun e w' => e = .returned (.bool (labB s)) ∧ w' = w := by
  go_enter Try.func55, Try.ntmps55
  go_wp2
  go_loop [3] (fun i => ∃ k : Nat, k ≤ s.size ∧ i = .int .i64 k ∧ ∀ j, j < k → chB (bt s j) = true) (fun i => s.size - (intOf i).toNat)
  case atStart => exact ⟨0, Nat.zero_le _, rfl, fun j hj => absurd hj (Nat.not_lt_zero _)⟩
  case round =>
    obtain ⟨k, hk, rfl, hd⟩ := hrel
    have HD := hide hd
    clear hd
    by_cases hlt : k < s.size
    · have hb := bt_get s k hlt
      have hkn : (k : Int) < (s.size : Int) := by omega
      have h2 := bt_lt s k
      have HC : Hid (∀ b, chB (bt s k) = b → (b = true → ∀ j, j < k + 1 → chB (bt s j) = true) ∧ (b = false → labB s = false)) := by
        intro b hb
        refine ⟨fun h j hj => ?_, fun h => labB_no hlt (hb.trans h)⟩
        by_cases e : j = k
        · subst e; exact hb.trans h
        · exact HD.out j (by omega)
      clear HD
      generalize bt s k = c at *
      have H1 := hide (smB_i c)
      have H2 := hide (dgB_i c)
      cases e1 : smB c
      · have hb1 : (decide (97 ≤ (c : Int)) && decide ((c : Int) ≤ 122)) = false := H1.out.trans e1
        cases e2 : dgB c
        · have hb2 : (decide (48 ≤ (c : Int)) && decide ((c : Int) ≤ 57)) = false := H2.out.trans e2
          by_cases e3 : c = 45
          · have HK := hide ((HC.out true (by simp [chB, e3])).1 rfl)
            subst e3
            clear HC H1 H2 e1 e2
            go_wp2_with (go_at_call 71; refine (l1In_any _ _ _ _).mono ?_; rintro e w' ⟨rfl, rfl⟩)
            go_round
            case rel => exact ⟨k + 1, by omega, by go_num, HK.out⟩
            case measure => simp [intOf]; omega
          · have HK := hide ((HC.out false (by simp [chB, e1, e2, e3])).2 rfl)
            have hne : ((c : Int) != 45) = true := by simp; omega
            clear HC H1 H2 e1 e2
            go_wp2_with (go_at_call 71; refine (l1In_any _ _ _ _).mono ?_; rintro e w' ⟨rfl, rfl⟩)
            go_ret
            exact ⟨ret_bool HK.out.symm, rfl⟩
        · have hb2 : (decide (48 ≤ (c : Int)) && decide ((c : Int) ≤ 57)) = true := H2.out.trans e2
          have HK := hide ((HC.out true (by simp [chB, e2])).1 rfl)
          clear HC H1 H2 e1 e2
          go_wp2_with (go_at_call 71; refine (l1In_any _ _ _ _).mono ?_; rintro e w' ⟨rfl, rfl⟩)
          go_round
          case rel => exact ⟨k + 1, by omega, by go_num, HK.out⟩
          case measure => simp [intOf]; omega
      · have hb1 : (decide (97 ≤ (c : Int)) && decide ((c : Int) ≤ 122)) = true := H1.out.trans e1
        have HK := hide ((HC.out true (by simp [chB, e1])).1 rfl)
        clear HC H1 H2 e1
        go_wp2_with (go_at_call 71; refine (l1In_any _ _ _ _).mono ?_; rintro e w' ⟨rfl, rfl⟩)
        go_round
        case rel => exact ⟨k + 1, by omega, by go_num, HK.out⟩
        case measure => simp [intOf]; omega
    · obtain rfl : k = s.size := by omega
      have HF := hide (labB_end HD.out)
      clear HD
      by_cases h1 : 1 ≤ s.size
      · by_cases h20 : s.size ≤ 20
        · have hin : (decide ((1 : Int) ≤ (s.size : Int)) && decide ((s.size : Int) ≤ 20)) = true := by simp; omega
          have hb0 := bt_get s 0 (by omega)
          have hbn := bt_get s (s.size - 1) (by omega)
          have hp : (0 : Int) < (s.size : Int) := by omega
          have hq : (0 : Int) ≤ (s.size : Int) - 1 := by omega
          have hq1 : (s.size : Int) - 1 < (s.size : Int) := by omega
          have hq2 : ((s.size : Int) - 1).toNat = s.size - 1 := by omega
          have hF := HF.out
          simp only [h1, h20, decide_true, Bool.true_and] at hF
          have HF2 := hide hF
          clear HF hF
          generalize bt s 0 = c0 at *
          generalize bt s (s.size - 1) = c1 at *
          by_cases e0 : c0 = 45
          · subst e0
            go_wp2_with (go_at_call 71; refine (l1In_any _ _ _ _).mono ?_; rintro e w' ⟨rfl, rfl⟩)
            go_ret
            exact ⟨ret_bool (by rw [HF2.out]; rfl), rfl⟩
          · have hne0 : ((c0 : Int) != 45) = true := by simp; omega
            have Hz : Hid ((c0 != 45) = true) := by show _ = true; simp [e0]
            go_wp2_with (go_at_call 71; refine (l1In_any _ _ _ _).mono ?_; rintro e w' ⟨rfl, rfl⟩)
            go_ret
            refine ⟨ret_bool ?_, rfl⟩
            rw [HF2.out, Hz.out, Bool.true_and]
            by_cases e : c1 = 45
            · subst e; rfl
            · have : ((c1 : Int) != 45) = true := by simp; omega
              rw [this]; simp [e]
        · have hin : (decide ((1 : Int) ≤ (s.size : Int)) && decide ((s.size : Int) ≤ 20)) = false := by simp; omega
          go_wp2_with (go_at_call 71; refine (l1In_any _ _ _ _).mono ?_; rintro e w' ⟨rfl, rfl⟩)
          go_ret
          exact ⟨ret_bool (by rw [HF.out]; simp [h20]), rfl⟩
      · have hin : (decide ((1 : Int) ≤ (s.size : Int)) && decide ((s.size : Int) ≤ 20)) = false := by simp; omega
        go_wp2_with (go_at_call 71; refine (l1In_any _ _ _ _).mono ?_; rintro e w' ⟨rfl, rfl⟩)
        go_ret
        exact ⟨ret_bool (by rw [HF.out]; simp [h1]), rfl⟩

set_option maxHeartbeats 1600000 in
set_option maxRecDepth 100000 in
theorem labelOk_any (s : ByteArray) (hs : s.size ≤ 1048576) (w : World) :
    Calls Try.prog 58 #[.string s] w fun e w' => e = .returned (.bool (labB s)) ∧ Ext w w' := by
  by_cases h1 : 1 ≤ s.size
  · have g1 : ¬ (s.size : Int) < 1 := by omega
    by_cases h20 : s.size ≤ 20
    · have g2 : ¬ (20 : Int) < (s.size : Int) := by omega
      have hb0 := bt_get s 0 (by omega)
      have hbn := bt_get s (s.size - 1) (by omega)
      have hp : (0 : Int) < (s.size : Int) := by omega
      have hq : (0 : Int) ≤ (s.size : Int) - 1 := by omega
      have hq1 : (s.size : Int) - 1 < (s.size : Int) := by omega
      have hq2 : ((s.size : Int) - 1).toNat = s.size - 1 := by omega
      have HF : Hid (labB s = (allN chB s s.size && ((bt s 0 != 45) && (bt s (s.size - 1) != 45)))) := by
        show _ = _
        unfold labB
        simp only [h1, h20, decide_true, Bool.true_and]
      generalize bt s 0 = c0 at *
      generalize bt s (s.size - 1) = c1 at *
      by_cases e0 : c0 = 45
      · subst e0
        go_enter Try.func58, Try.ntmps58
        go_wp2
        go_ret
        exact ⟨ret_bool (by rw [HF.out]; simp), Ext.refl _⟩
      · have hne0 : ((c0 : Int) == 45) = false := by simp; omega
        by_cases e1 : c1 = 45
        · subst e1
          go_enter Try.func58, Try.ntmps58
          go_wp2
          go_ret
          exact ⟨ret_bool (by rw [HF.out]; simp), Ext.refl _⟩
        · have hne1 : ((c1 : Int) == 45) = false := by simp; omega
          have HG : Hid (labB s = allN chB s s.size) := by show _ = _; rw [HF.out]; simp [e0, e1]
          clear HF
          have HI := hide (Itr.start (Ext.refl w) s)
          go_enter Try.func58, Try.ntmps58
          go_wp2
          clear hb0 hbn hp hq hq1 hq2 hne0 hne1 g1 g2
          go_loopw [] (fun wr => ∃ p : Nat, p ≤ s.size ∧ Itr w wr w.heap.size s p ∧ ∀ j, j < p → chB (bt s j) = true) (fun wr => s.size - wr.iterPos w.heap.size)
          case atStart => exact ⟨0, Nat.zero_le _, HI.out, fun j hj => absurd hj (Nat.not_lt_zero _)⟩
          case round =>
            clear HI
            obtain ⟨p, hp, hI, hd⟩ := hrel
            have HD := hide hd
            clear hd
            by_cases hlt : p < s.size
            · obtain ⟨r, q, hR⟩ := rn_at s p hlt
              have hnx : ∀ ty, (Instr.next (.pointer (some ⟨w.heap.size, 0, none⟩)) true ty).run Try.prog wr = _ := fun ty => hR.next hI.blk hlt ty
              have HM : Hid (wr.iterPos w.heap.size = p) := hI.pos
              have HR := hide hR
              have h2 := hR.le
              have HI := hide (hI.step (p + q))
              clear hI hR
              generalize wr.iterAt w.heap.size s (p + q) = w2 at *
              have HC : Hid (∀ b, chB r = b → (b = true → ∀ j, j < p + q → chB (bt s j) = true) ∧ (b = false → labB s = false)) := by
                intro b hb
                by_cases h6 : r < 128
                · obtain ⟨rfl, h7⟩ := HR.out.low h6
                  refine ⟨fun h j hj => ?_, fun h => labB_no hlt (by rw [← h7]; exact hb.trans h)⟩
                  by_cases e : j = p
                  · subst e; rw [← h7]; exact hb.trans h
                  · exact HD.out j (by omega)
                · refine ⟨fun h => ?_, fun h => labB_no hlt ?_⟩
                  · exfalso
                    subst h
                    simp only [chB, smB, dgB, Bool.or_eq_true, Bool.and_eq_true, decide_eq_true_eq, beq_iff_eq] at hb
                    omega
                  · have h8 := HR.out.high (by omega) p (Nat.le_refl _) (by have := HR.out.pos; omega)
                    generalize bt s p = x at *
                    simp only [chB, smB, dgB, Bool.or_eq_false_iff, Bool.and_eq_false_iff, decide_eq_false_iff_not, beq_eq_false_iff_ne]
                    omega
              clear HD
              cases e1 : smB r
              · cases e2 : dgB r
                · by_cases e3 : r = 45
                  · have HK := hide ((HC.out true (by simp [chB, e3])).1 rfl)
                    have e4 : ((r : Int) != 45) = false := by subst e3; rfl
                    clear HC
                    go_wp2_with (first | (go_at_call 73; refine (isSmall_any _ _).mono ?_; rintro e w' ⟨rfl, rfl⟩) | (go_at_call 74; refine (isDecimal_any _ _).mono ?_; rintro e w' ⟨rfl, rfl⟩))
                    go_roundw
                    case rel => exact ⟨p + q, HR.out.fits, HI.out, HK.out⟩
                    case measure => rw [HM.out, HI.out.pos]; have := HR.out.pos; omega
                  · have HK := hide ((HC.out false (by simp [chB, e1, e2, e3])).2 rfl)
                    have hne : ((r : Int) != 45) = true := by simp; omega
                    clear HC
                    go_wp2_with (first | (go_at_call 73; refine (isSmall_any _ _).mono ?_; rintro e w' ⟨rfl, rfl⟩) | (go_at_call 74; refine (isDecimal_any _ _).mono ?_; rintro e w' ⟨rfl, rfl⟩))
                    go_ret
                    exact ⟨ret_bool HK.out.symm, HI.out.ext⟩
                · have HK := hide ((HC.out true (by simp [chB, e2])).1 rfl)
                  clear HC
                  go_wp2_with (first | (go_at_call 73; refine (isSmall_any _ _).mono ?_; rintro e w' ⟨rfl, rfl⟩) | (go_at_call 74; refine (isDecimal_any _ _).mono ?_; rintro e w' ⟨rfl, rfl⟩))
                  go_roundw
                  case rel => exact ⟨p + q, HR.out.fits, HI.out, HK.out⟩
                  case measure => rw [HM.out, HI.out.pos]; have := HR.out.pos; omega
              · have HK := hide ((HC.out true (by simp [chB, e1])).1 rfl)
                clear HC
                go_wp2_with (first | (go_at_call 73; refine (isSmall_any _ _).mono ?_; rintro e w' ⟨rfl, rfl⟩) | (go_at_call 74; refine (isDecimal_any _ _).mono ?_; rintro e w' ⟨rfl, rfl⟩))
                go_roundw
                case rel => exact ⟨p + q, HR.out.fits, HI.out, HK.out⟩
                case measure => rw [HM.out, HI.out.pos]; have := HR.out.pos; omega
            · obtain rfl : p = s.size := by omega
              have hnx : ∀ ty, (Instr.next (.pointer (some ⟨w.heap.size, 0, none⟩)) true ty).run Try.prog wr = _ := fun ty => Lib.run_next_end_at wr w.heap.size s s.size ty hI.blk hlt
              have HE := hide hI.ext
              have HK : Hid (labB s = true) := HG.out.trans ((allN_iff _ _ _).2 HD.out)
              clear hI HD HG
              go_wp2
              go_ret
              exact ⟨ret_bool HK.out.symm, HE.out⟩
    · have g2 : (20 : Int) < (s.size : Int) := by omega
      go_enter Try.func58, Try.ntmps58
      go_wp2
      go_ret
      exact ⟨ret_bool (by simp [labB, h20]), Ext.refl _⟩
  · have g1 : (s.size : Int) < 1 := by omega
    go_enter Try.func58, Try.ntmps58
    go_wp2
    go_ret
    exact ⟨ret_bool (by simp [labB, h1]), Ext.refl _⟩

end Go.Proofs.Ytigjjkondbdgjaa
