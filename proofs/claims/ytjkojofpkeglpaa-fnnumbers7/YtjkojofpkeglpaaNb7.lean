/- Walks: IntBytes with its room; the draws of a number, of an identifier and of its bytes. -/
import Derived.Test.YtjkojofpkeglpaaDrO
import Derived.Test.YtjkojofpkeglpaaRdI
import Derived.Test.YtjkojofpkeglpaaSame
namespace Go.Proofs.Ytjkojofpkeglpaa
set_option linter.unusedVariables false
set_option linter.unusedSimpArgs false
open Go.RowKit

set_option maxHeartbeats 1600000 in
set_option maxRecDepth 100000 in
theorem implIntBytes_row (n : Int) (L : Nat) (hL : IsLen n L) (w : World) (h0 : -9223372036854775808 ≤ n) (h1 : n ≤ 9223372036854775807) :
    Calls Try.prog 10 #[.int .i64 n] w fun e w' => GivesR w (L + 1) (fun i => ib n (L - i)) e w' := by
  have HL := hide hL
  have HO := hide (owns_one8 w (n % 256))
  have HE := hide (Ext.alloc w (.cells #[.int .u8 (n % 256)] 5))
  clear hL
  go_enter Try.func10, Try.ntmps10
  go_wp2
  go_loopw [0, 3] (fun x v wr => ∃ j : Nat, j ≤ L ∧ x = .int .i64 (hi8 n j) ∧ wr.ownsRow w.heap.size 5 1 v (j + 1) (byts (ib n) (j + 1)) ∧ Ext w wr) (fun _ v _ => 8 - (match v with | .slice _ n _ => n | _ => 0))
  case atStart => exact ⟨0, by omega, rfl, HO.out, HE.out⟩
  case round =>
    clear HO HE
    obtain ⟨j, hj, rfl, hO, hE⟩ := hrel
    obtain ⟨hb0, hb1⟩ := hi8_bound n h0 h1 j
    by_cases hs : small (hi8 n j) = true
    · have e : j = L := by
        have := HL.out.no
        by_cases hh : j < L
        · have := this j hh; rw [hs] at this; cases this
        · omega
      subst e
      have HJ := hide HL.out.le
      obtain ⟨s0, s1⟩ := small_true hs
      have HO := hide hO
      have HE := hide hE
      have Hs := hide hs
      clear hO hE hs HL
      obtain ⟨ya, yg, yc, rfl, hyg, -, -, hyB⟩ := owns_seg HO.out
      obtain rfl := hyB.at' (by omega)
      have Hyg := hide hyg
      clear hyB hyg
      generalize hi8 n j = x at *
      have hq : x / 128 = 0 ∨ x / 128 = -1 := by omega
      rcases hq with hq | hq <;> (
        go_wp2_with fail
        refine (rev_own w.heap.size yg (j + 1) yc (ib n) wr HO.out (by have := HJ.out; omega)).mono ?_
        rintro e w1 ⟨rfl, hr, hT⟩
        have HR := hide hr
        have HB := hide (below_touch HE.out hT Hyg.out)
        clear hr hT
        go_wp2
        go_ret
        exact ⟨_, rfl, owns_congr HR.out (fun i hi => by show ib n (j + 1 - 1 - i) = _; rw [show j + 1 - 1 - i = j - i by omega]), HB.out⟩)
    · have hs' : small (hi8 n j) = false := by simpa using hs
      have hh : j < L := by
        have h2 := HL.out.yes
        by_cases e : j = L
        · subst e; exact absurd h2 hs
        · omega
      have s0 := small_false hs'
      have HO := hide (hO.alloc (.cells #[.int .u8 (ib n (j + 1))] 5))
      have HE := hide hE
      have Hsz := hide (Below.size hE)
      have HJ := hide (Nat.lt_of_lt_of_le hh HL.out.le)
      have H8 : Hid (hi8 n (j + 1) = hi8 n j / 256) := rfl
      have q0 : (hi8 n j / 128 != 0) = true := by simp; omega
      have q1 : (hi8 n j / 128 != -1) = true := by simp; omega
      obtain ⟨y, hy⟩ : ∃ y, ib n (j + 1) = y := ⟨_, rfl⟩
      have hy1 : hi8 n j / 256 % 256 = y := by rw [← hy]; rfl
      have HB := hide (bseg_one wr y)
      rw [hy] at HO
      have Hy := hide hy
      have HO1 := hide hO
      clear hO hE hs hs' hy
      go_wp2_with (at_builtin; refine wpList_append_bs rfl _ _ rfl w.heap.size _ (j + 1) _ rfl HO.out _ wr.heap.size 0 1 1 (fun _ => y) rfl HB.out (by have := HJ.out; omega) (by have := Hsz.out; simp; omega) ?_)
      intro v' w1 h2 h3
      rw [byts_append] at h2
      have H2 : Hid (w1.ownsRow w.heap.size 5 1 v' (j + 1 + 1) (byts (ib n) (j + 1 + 1))) := hide (owns_congr h2 (fun i hi => by
        unfold catF
        split
        · rfl
        · rw [← Hy.out, show i = j + 1 by omega]))
      have H3 : Hid (Ext w w1) := hide (Below.trans (Ext.trans HE.out (Ext.alloc _ _)) h3)
      clear h2 h3 HO HB
      go_wp2
      go_roundw
      case rel => exact ⟨j + 1, by omega, by rw [H8.out], H2.out, H3.out⟩
      case measure =>
        obtain ⟨_, _, _, rfl, -⟩ := owns_seg H2.out
        obtain ⟨_, _, _, rfl, -⟩ := owns_seg HO1.out
        have := HJ.out
        simp
        omega

/-- A number's bytes are read as it. -/
theorem rdI_ib {z : Int} {L : Nat} (hL : IsLen z L) : ∀ k, k ≤ L → rdI (fun i => ib z (L - i)) k = hi8 z (L - k) := by
  intro k
  induction k with
  | zero =>
    intro _
    have h := small_true hL.yes
    show (if ib z (L - 0) < 128 then ib z (L - 0) else ib z (L - 0) - 256) = hi8 z (L - 0)
    rw [Nat.sub_zero]
    unfold ib
    split <;> omega
  | succ k ih =>
    intro hk
    show rdI (fun i => ib z (L - i)) k * 256 + ib z (L - (k + 1)) = _
    rw [ih (by omega), show L - k = (L - (k + 1)) + 1 by omega]
    unfold ib
    show hi8 z (L - (k + 1)) / 256 * 256 + _ = _
    omega
theorem IsLen.unique {n : Int} {L M : Nat} (h : IsLen n L) (k : IsLen n M) : L = M := by
  rcases Nat.lt_trichotomy L M with hl | hl | hl
  · have := k.no L hl; rw [h.yes] at this; cases this
  · exact hl
  · have := h.no M hl; rw [k.yes] at this; cases this
theorem riB_ib {z : Int} (h0 : -9223372036854775808 ≤ z) (h1 : z ≤ 9223372036854775807) : riB (fun i => ib z (ilen z - i)) (ilen z + 1) = true ∧ riV (fun i => ib z (ilen z - i)) (ilen z + 1) = z := by
  have hL := ilen_is z h0 h1
  have e : rdI (fun i => ib z (ilen z - i)) (ilen z) = z := by rw [rdI_ib hL _ (Nat.le_refl _), Nat.sub_self]; rfl
  have hB : riB (fun i => ib z (ilen z - i)) (ilen z + 1) = true := by
    unfold riB riOk
    rw [Nat.add_sub_cancel, e, (alike_iff _ _ _).2 (fun _ _ => rfl)]
    have := hL.le
    simp
    omega
  refine ⟨hB, ?_⟩
  unfold riV
  rw [if_pos hB, Nat.add_sub_cancel, e]
/-- With a needless byte ahead they are not read. -/
theorem riB_long {z : Int} (h0 : -9223372036854775808 ≤ z) (h1 : z ≤ 9223372036854775807) {x : Int} (hx : x = 255 * (ib z (ilen z) / 128)) : riB (catF (fun _ => x) 1 (fun i => ib z (ilen z - i))) (1 + (ilen z + 1)) = false := by
  have hL := ilen_is z h0 h1
  have e : rdI (fun i => ib z (ilen z - i)) (ilen z) = z := by rw [rdI_ib hL _ (Nat.le_refl _), Nat.sub_self]; rfl
  have hs : ∀ k, rdI (catF (fun _ => x) 1 (fun i => ib z (ilen z - i))) (k + 1) = rdI (fun i => ib z (ilen z - i)) k := by
    intro k
    induction k with
    | zero =>
      show (if x < 128 then x else x - 256) * 256 + ib z (ilen z - 0) = if ib z (ilen z - 0) < 128 then ib z (ilen z - 0) else ib z (ilen z - 0) - 256
      rw [Nat.sub_zero]
      have := ib_range z (ilen z)
      by_cases h : ib z (ilen z) < 128
      · have : x = 0 := by omega
        rw [if_pos h, this]; simp
      · have : x = 255 := by omega
        rw [if_neg h, this]; simp; omega
    | succ k ih =>
      show rdI (catF (fun _ => x) 1 (fun i => ib z (ilen z - i))) (k + 1) * 256 + catF (fun _ => x) 1 (fun i => ib z (ilen z - i)) (k + 1 + 1) = rdI (fun i => ib z (ilen z - i)) k * 256 + ib z (ilen z - (k + 1))
      rw [ih]
      rfl
  unfold riB riOk
  rw [show 1 + (ilen z + 1) - 1 = ilen z + 1 by omega, hs, e]
  have : (ilen z + 1 == 1 + (ilen z + 1)) = false := by simp
  rw [this]
  simp

theorem oidM_small (f : Nat → Int) (n : Nat) : oidM f n ≤ 200 := by
  unfold oidM
  split
  · rename_i h
    unfold oidB at h
    rw [Bool.and_eq_true, Bool.and_eq_true] at h
    have h2 : 2 ≤ n ∧ n ≤ 12 := of_decide_eq_true h.1
    have := oN_le h.2.1 ((oidAll_iff f (n - 2)).1 h.2.2)
    omega
  · omega

theorem drawIntBytes_any (a : Option Addr) (b off n cap : Nat) (f : Nat → Int) (w : World) (hs : BSeg w a b off n f) (hB : ∀ i, i < n → 0 ≤ f i ∧ f i ≤ 255) (hn : n ≤ 1048576) :
    Calls Try.prog 26 #[.slice a n cap] w fun e w' => ∃ z, e = .returned (.int .i64 z) ∧ -9223372036854775808 ≤ z ∧ z ≤ 9223372036854775807 ∧ Ext w w' := by
  go_enter Try.func26, Try.ntmps26
  go_wp2_with fail
  refine (l1New_any a b off n cap f _ hs hB hn).mono ?_
  rintro e w1 ⟨rfl, hC1, hlt1, B1⟩
  have K1 : Code w1 w.heap.size a b off n f := ⟨hs.of_all B1, hB, fun h => by have := hs.lt h; omega⟩
  go_wp2_with fail
  refine (l7DrawInt_any w.heap.size a b off n cap f _ hC1 K1 hn hlt1).mono ?_
  rintro e w2 ⟨z, rfl, z0, z1, hC2, hG⟩
  have HE : Hid (Ext w w2) := hide (gb_to_below B1 hG)
  clear hC1 K1 hC2 hG B1 hs
  go_wp2
  go_ret
  exact ⟨z, rfl, z0, z1, HE.out⟩

theorem drawOidBytes_any (a : Option Addr) (b off n cap : Nat) (f : Nat → Int) (w : World) (hs : BSeg w a b off n f) (hB : ∀ i, i < n → 0 ≤ f i ∧ f i ≤ 255) (hn : n ≤ 1048576) :
    Calls Try.prog 27 #[.slice a n cap] w fun e w' => ∃ (sa : Option Addr) (sb so k sc : Nat) (F : Nat → Int), e = .returned (.slice sa k sc) ∧ k ≤ sc ∧ sc ≤ 9223372036854775807 ∧ k ≤ 20 ∧ Seg w' sa sb so k F ∧ Ext w w' := by
  go_enter Try.func27, Try.ntmps27
  go_wp2_with fail
  refine (l1New_any a b off n cap f _ hs hB hn).mono ?_
  rintro e w1 ⟨rfl, hC1, hlt1, B1⟩
  have K1 : Code w1 w.heap.size a b off n f := ⟨hs.of_all B1, hB, fun h => by have := hs.lt h; omega⟩
  go_wp2_with fail
  refine (l7DrawOid_any w.heap.size a b off n cap f _ hC1 K1 hn hlt1).mono ?_
  rintro e w2 ⟨sa, sb, so, k, sc, F, rfl, h1, h2, h3, hS, -, hC2, hG⟩
  have HE : Hid (Ext w w2) := hide (gb_to_below B1 hG)
  have HS := hide hS
  clear hC1 K1 hC2 hG B1 hs hS
  go_wp2
  go_ret
  exact ⟨sa, sb, so, k, sc, F, rfl, h1, h2, h3, HS.out, HE.out⟩

/-- Bytes are drawn. -/
def GivesBy (w : World) (e : Ending) (w' : World) : Prop :=
  ∃ (sa : Option Addr) (sb so k sc : Nat) (F : Nat → Int), e = .returned (.slice sa k sc) ∧ k ≤ 1000 ∧ BSeg w' sa sb so k F ∧ (∀ i, i < k → 0 ≤ F i ∧ F i < 256) ∧ Ext w w'

set_option maxHeartbeats 3200000 in
set_option maxRecDepth 100000 in
theorem drawReadOid_any (a : Option Addr) (b off n cap : Nat) (f : Nat → Int) (w : World) (hs : BSeg w a b off n f) (hB : ∀ i, i < n → 0 ≤ f i ∧ f i ≤ 255) (hn : n ≤ 1048576) :
    Calls Try.prog 29 #[.slice a n cap] w fun e w' => GivesBy w e w' := by
  go_enter Try.func29, Try.ntmps29
  go_wp2_with fail
  refine (l1New_any a b off n cap f _ hs hB hn).mono ?_
  rintro e w1 ⟨rfl, hC1, hlt1, B1⟩
  have K1 : Code w1 w.heap.size a b off n f := ⟨hs.of_all B1, hB, fun h => by have := hs.lt h; omega⟩
  have HK := hide K1
  have HB1 := hide B1
  go_wp2_with fail
  refine (l7DrawOid_any w.heap.size a b off n cap f _ hC1 K1 hn hlt1).mono ?_
  rintro e w2 ⟨sa, sb, so, k, sc, F, rfl, h1, h2, h3, hS, -, hC2, hG⟩
  have HS := hide hS
  have HC2 := hide hC2
  have HG2 := hide hG
  clear hC1 K1 hC2 hG B1 hs hS
  go_wp2_with fail
  refine (specOidBytes_row sa sb so k sc F w2 h1 h2 HS.out).mono ?_
  rintro e w3 ⟨v, rfl, hO, hE⟩
  obtain ⟨ya, yg, yc, rfl, hyg, hyn, hyc, hyB⟩ := owns_seg hO
  have hM := oidM_small F k
  have Hr : Hid (∀ i, i < oidM F k → 0 ≤ oF F (k - 2) i ∧ oF F (k - 2) i < 256) := hide (oF_range _ _)
  have HO := hide hO
  have HC := hide (HC2.out.of_block (hE.block w.heap.size (Nat.lt_of_lt_of_le hlt1 HG2.out.size)))
  have HG := hide (gb_later HG2.out hE HG2.out.size)
  have Hg := hide (Nat.le_trans HG2.out.size hyg)
  have HW2 := hide HG2.out.size
  have hC3 : w.heap.size < w2.heap.size := Nat.lt_of_lt_of_le hlt1 HG2.out.size
  have HE2 := hide (Below.size hE)
  clear hO hE HC2 HG2 HS hyg
  generalize oF F (k - 2) = T at *
  generalize oidM F k = M at *
  by_cases hM0 : M = 0
  · subst hM0
    clear hyB
    go_wp2
    go_ret
    exact ⟨_, 0, 0, 0, _, fun _ => 0, rfl, by omega, ⟨fun h => absurd h (Nat.lt_irrefl _), fun i hi => absurd hi (Nat.not_lt_zero _)⟩, fun i hi => absurd hi (Nat.not_lt_zero _), gb_to_below HB1.out HG.out⟩
  · have z0 : ((M : Int) == 0) = false := by simp; omega
    obtain rfl := hyB.at' (by omega)
    have HyB := hide hyB.toBSeg
    clear hyB
    go_wp2_with fail
    refine (l1Below_any w.heap.size a b off n cap f 6 _ HC.out (HK.out.grow HG.out) hn (by omega) (by omega)).mono ?_
    rintro e w4 ⟨x, rfl, x0, x1, hC4, T4⟩
    replace HC := hide hC4
    replace HO := hide (owns_gb HO.out (gb_touch T4) hC3)
    replace HyB := hide (bseg_gb HyB.out (gb_touch T4) (fun _ => by have := Hg.out; omega))
    replace HG := hide (gb_trans HG.out (gb_touch T4))
    replace HE2 := hide (Nat.le_trans HE2.out (gb_touch T4).size)
    clear hC4 T4
    by_cases s0 : x = 0
    · have y0 : (x == 0) = true := by simp [s0]
      have Z := hide s0
      clear s0
      go_wp2_with fail
      refine (l1Below_any w.heap.size a b off n cap f (M : Int) _ HC.out (HK.out.grow HG.out) hn (by omega) (by omega)).mono ?_
      rintro e w5 ⟨q, rfl, q0, q1, hC5, T5⟩
      replace HC := hide hC5
      replace HO := hide (owns_gb HO.out (gb_touch T5) hC3)
      replace HG := hide (gb_trans HG.out (gb_touch T5))
      clear hC5 T5
      go_wp2_with fail
      refine (l1Byte_any w.heap.size a b off n cap f _ HC.out (HK.out.grow HG.out) hn).mono ?_
      rintro e w6 ⟨y, rfl, yy0, yy1, hC6, T6⟩
      replace HC := hide hC6
      replace HO := hide (owns_gb HO.out (gb_touch T6) hC3)
      replace HG := hide (gb_trans HG.out (gb_touch T6))
      clear hC6 T6 HyB
      obtain ⟨p, rfl⟩ := Int.eq_ofNat_of_zero_le q0
      have hcl := owns_cell HO.out p (by omega)
      have hfr := owns_free HO.out p
      have u0 : y % 256 = y := by omega
      have hpM : (p : Int) < M := by omega
      have HO9 := hide (owns_set HO.out p y)
      have E9 : Below w1.heap.size w6 (w6.setCell ⟨yg, p, none⟩ (.int .u8 y)) := (Below.refl _ _).setCell Hg.out _
      have HG9 := hide (gb_later HG.out E9 (Nat.le_refl _))
      clear E9 HO
      go_wp2
      go_ret
      obtain ⟨za, zg, zc, hz, -, -, -, hzB⟩ := owns_seg HO9.out
      simp only [Value.slice.injEq] at hz
      obtain ⟨rfl, -, rfl⟩ := hz
      exact ⟨_, zg, 0, M, _, _, rfl, by omega, hzB.toBSeg, fun i hi => by
        show 0 ≤ (if i = p then y else T i) ∧ (if i = p then y else T i) < 256
        split
        · omega
        · exact Hr.out i hi, gb_to_below HB1.out HG9.out⟩
    have y0 : (x == 0) = false := by simp; omega
    by_cases s1 : x = 1
    · have y1 : (x == 1) = true := by simp [s1]
      have Z := hide s1
      clear s0 s1
      have HX : Hid (BSeg (w4.alloc (.cells #[.int .u8 128, .int .u8 1] 5)) (some ⟨w4.heap.size, 0, none⟩) w4.heap.size 0 2 (fun i => if i = 0 then 128 else 1)) := ⟨fun _ => rfl, fun i hi => by
        have := Blk.alloc w4 [.int .u8 128, .int .u8 1] 5
        match i, hi with
        | 0, _ => exact (this 0 _ rfl).1
        | 1, _ => exact (this 1 _ rfl).1⟩
      have HO2 := hide (HO.out.alloc (.cells #[.int .u8 128, .int .u8 1] 5))
      go_wp2_with (at_builtin; refine wpList_append_bs rfl _ _ rfl w2.heap.size _ M _ rfl HO2.out _ w4.heap.size 0 2 2 (fun i => if i = 0 then 128 else 1) rfl HX.out (by omega) (by have := HE2.out; simp; omega) ?_)
      intro v' w5 k2 k3
      rw [byts_append] at k2
      have E5 : Below w2.heap.size w4 w5 := Below.trans ((Below.refl _ _).alloc HE2.out _) k3
      have HG5 := hide (gb_later HG.out E5 HW2.out)
      obtain ⟨za, zg, zc, rfl, -, -, -, hzB⟩ := owns_seg k2
      have HZ := hide hzB.toBSeg
      clear k2 k3 E5 hzB HO HO2 HX HyB
      go_wp2
      go_ret
      exact ⟨_, zg, 0, _, _, _, rfl, by omega, HZ.out, fun i hi => by
        unfold catF
        split
        · exact Hr.out i (by assumption)
        · show 0 ≤ (if i - M = 0 then (128 : Int) else 1) ∧ (if i - M = 0 then (128 : Int) else 1) < 256
          split <;> omega, gb_to_below HB1.out HG5.out⟩
    have y1 : (x == 1) = false := by simp; omega
    by_cases s2 : x = 2
    · have y2 : (x == 2) = true := by simp [s2]
      have Z := hide s2
      clear s0 s1 s2
      go_wp2_with fail
      refine (l1Below_any w.heap.size a b off n cap f 128 _ HC.out (HK.out.grow HG.out) hn (by omega) (by omega)).mono ?_
      rintro e w5 ⟨q, rfl, q0, q1, hC5, T5⟩
      replace HC := hide hC5
      replace HO := hide (owns_gb HO.out (gb_touch T5) hC3)
      replace HG := hide (gb_trans HG.out (gb_touch T5))
      replace HE2 := hide (Nat.le_trans HE2.out (gb_touch T5).size)
      clear hC5 T5
      obtain ⟨y, hy⟩ : ∃ y, 128 + q = y := ⟨_, rfl⟩
      have yy0 : 0 ≤ y := by omega
      have yy1 : y ≤ 255 := by omega
      have u0 : y % 256 = y := by omega
      have HX := hide (bseg_one w5 y)
      have HO2 := hide (HO.out.alloc (.cells #[.int .u8 y] 5))
      go_wp2_with (at_builtin; refine wpList_append_bs rfl _ _ rfl w2.heap.size _ M _ rfl HO2.out _ w5.heap.size 0 1 1 (fun _ => y) rfl HX.out (by omega) (by have := HE2.out; simp; omega) ?_)
      intro v' w6 k2 k3
      rw [byts_append] at k2
      have E5 : Below w2.heap.size w5 w6 := Below.trans ((Below.refl _ _).alloc HE2.out _) k3
      have HG5 := hide (gb_later HG.out E5 HW2.out)
      obtain ⟨za, zg, zc, rfl, -, -, -, hzB⟩ := owns_seg k2
      have HZ := hide hzB.toBSeg
      clear k2 k3 E5 hzB HO HO2 HX HyB
      go_wp2
      go_ret
      exact ⟨_, zg, 0, _, _, _, rfl, by omega, HZ.out, fun i hi => by
        unfold catF
        split
        · exact Hr.out i (by assumption)
        · show 0 ≤ y ∧ y < 256; omega, gb_to_below HB1.out HG5.out⟩
    have y2 : (x == 2) = false := by simp; omega
    clear s0 s1 s2
    go_wp2
    go_ret
    exact ⟨_, yg, 0, M, _, _, rfl, by omega, HyB.out, Hr.out, gb_to_below HB1.out HG.out⟩

end Go.Proofs.Ytjkojofpkeglpaa
