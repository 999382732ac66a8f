/- Walks: Padded of the program and of the model. -/
import Derived.Test.YtjkojofpkeglpabRpt
import Derived.Test.YtjkojofpkeglpabShaG
namespace Go.Proofs.Ytjkojofpkeglpab
set_option linter.unusedVariables false
set_option linter.unusedSimpArgs false
open Go.RowKit

def pb2 (i : Nat) : Int := if i = 0 then 0 else 1
def pe4 (i : Nat) : Int := if i = 0 then 0 else if i = 1 then 77 else if i = 2 then 1 else 8
/-- What Padded tells. -/
def padG (fh : Nat → Int) (M : Nat) : Nat → Int := catF (catF (catF pb2 2 (fun _ => 255)) (2 + M) pe4) (2 + M + 4) fh
def padOk (n : Nat) (k : Int) : Bool := decide (n = 8) && (decide (23 ≤ k) && decide (k ≤ 64))
def padLen (n : Nat) (k : Int) : Nat := if padOk n k = true then k.toNat else 0
theorem padLen_le (n : Nat) (k : Int) : padLen n k ≤ 1048576 := by
  unfold padLen
  split
  · rename_i h
    simp [padOk] at h
    omega
  · omega

theorem b2_seg (w : World) : BSeg (w.alloc (.cells #[.int .u8 0, .int .u8 1] 5)) (some ⟨w.heap.size, 0, none⟩) w.heap.size 0 2 pb2 := ⟨fun _ => rfl, fun i hi => by
  have := Blk.alloc w [.int .u8 0, .int .u8 1] 5
  match i, hi with
  | 0, _ => exact (this 0 _ rfl).1
  | 1, _ => exact (this 1 _ rfl).1⟩
theorem e4_seg (w : World) : BSeg (w.alloc (.cells #[.int .u8 0, .int .u8 77, .int .u8 1, .int .u8 8] 5)) (some ⟨w.heap.size, 0, none⟩) w.heap.size 0 4 pe4 := ⟨fun _ => rfl, fun i hi => by
  have := Blk.alloc w [.int .u8 0, .int .u8 77, .int .u8 1, .int .u8 8] 5
  match i, hi with
  | 0, _ => exact (this 0 _ rfl).1
  | 1, _ => exact (this 1 _ rfl).1
  | 2, _ => exact (this 2 _ rfl).1
  | 3, _ => exact (this 3 _ rfl).1⟩

theorem bseg_one' (w : World) (x : Int) : BSeg (w.alloc (.cells #[.int .u8 x] 5)) (some ⟨w.heap.size, 0, none⟩) w.heap.size 0 1 (fun _ => x) := ⟨fun _ => rfl, fun i hi => by
    have := Blk.alloc w [.int .u8 x] 5
    have e : i = 0 := by omega
    subst e
    exact (this 0 _ rfl).1⟩

theorem concat4_any (S : Nat) (w : World) (a0 a1 a2 a3 : Option Addr) (b0 b1 b2 b3 o0 o1 o2 o3 n0 n1 n2 n3 c0 c1 c2 c3 : Nat) (f0 f1 f2 f3 : Nat → Int)
    (hS : Blk w S [.slice a0 n0 c0, .slice a1 n1 c1, .slice a2 n2 c2, .slice a3 n3 c3]) (h0 : BSeg w a0 b0 o0 n0 f0) (h1 : BSeg w a1 b1 o1 n1 f1) (h2 : BSeg w a2 b2 o2 n2 f2) (h3 : BSeg w a3 b3 o3 n3 f3) (hn : n0 + n1 + n2 + n3 ≤ 1048576) :
    Calls Try.prog 43 #[.slice (some ⟨S, 0, none⟩) 4 4] w fun e w' => GivesR w (n0 + n1 + n2 + n3) (catF (catF (catF f0 n0 f1) (n0 + n1) f2) (n0 + n1 + n2) f3) e w' := by
  refine (concat_any S 0 4 4 (fun i => match i with | 0 => a0 | 1 => a1 | 2 => a2 | _ => a3) (fun i => match i with | 0 => b0 | 1 => b1 | 2 => b2 | _ => b3) (fun i => match i with | 0 => o0 | 1 => o1 | 2 => o2 | _ => o3) (fun i => match i with | 0 => n0 | 1 => n1 | 2 => n2 | _ => n3) (fun i => match i with | 0 => c0 | 1 => c1 | 2 => c2 | _ => c3) (fun i => match i with | 0 => f0 | 1 => f1 | 2 => f2 | _ => f3) w (by omega) ?_ ?_ ?_).mono ?_
  · intro i hi
    match i, hi with
    | 0, _ => exact (hS 0 _ rfl).1
    | 1, _ => exact (hS 1 _ rfl).1
    | 2, _ => exact (hS 2 _ rfl).1
    | 3, _ => exact (hS 3 _ rfl).1
  · intro i hi
    match i, hi with
    | 0, _ => exact h0
    | 1, _ => exact h1
    | 2, _ => exact h2
    | 3, _ => exact h3
  · show 0 + n0 + n1 + n2 + n3 ≤ _
    omega
  · rintro e w' ⟨v, rfl, hO, hE⟩
    refine ⟨v, rfl, ?_, hE⟩
    have h3 : w'.ownsRow w.heap.size 5 1 v (0 + n0 + n1 + n2 + n3) ([] ++ byts f0 n0 ++ byts f1 n1 ++ byts f2 n2 ++ byts f3 n3) := hO
    rwa [Nat.zero_add, List.nil_append, byts_append, byts_append, byts_append] at h3

set_option maxHeartbeats 1600000 in
set_option maxRecDepth 100000 in
theorem implPadded_any (a : Option Addr) (b off n cap : Nat) (fh : Nat → Int) (k : Int) (w : World) (hs : BSeg w a b off n fh) :
    Calls Try.prog 16 #[.slice a n cap, .int .i64 k] w fun e w' => GivesBo w (padLen n k) (padG fh (k.toNat - 14)) (padOk n k) e w' := by
  by_cases hok : n = 8 ∧ 23 ≤ k ∧ k ≤ 64
  · obtain ⟨h8, k0, k1⟩ := hok
    subst h8
    have HP : Hid (padOk 8 k = true) := by unfold Hid padOk; rw [decide_eq_true k0, decide_eq_true k1]; rfl
    have HL : Hid (padLen 8 k = k.toNat) := by unfold Hid padLen; rw [HP.out]; rfl
    rw [HP.out, HL.out]
    clear HP HL
    obtain ⟨K, rfl⟩ := Int.eq_ofNat_of_zero_le (show 0 ≤ k by omega)
    rw [show ((K : Int)).toNat = K by omega]
    obtain ⟨M, hM⟩ : ∃ M, K - 14 = M := ⟨_, rfl⟩
    rw [hM]
    have m0 : (K : Int) - 2 - 4 - 8 = (M : Int) := by omega
    have m1 : (K : Int) - 14 = (M : Int) := by omega
    have i0 : ¬ (K : Int) < 23 := by omega
    have i1 : ¬ (64 : Int) < K := by omega
    have HM := hide (show K = 2 + M + 4 + 8 by omega)
    have Hs := hide hs
    have g0 : 1 ≤ M := by omega
    have g1 : M ≤ 50 := by omega
    clear hs hM
    -- the three literals
    have HA := hide (b2_seg w)
    have EA := Ext.alloc w (.cells #[.int .u8 0, .int .u8 1] 5)
    have HB := hide (e4_seg (w.alloc (.cells #[.int .u8 0, .int .u8 1] 5)))
    have EB := Ext.alloc (w.alloc (.cells #[.int .u8 0, .int .u8 1] 5)) (.cells #[.int .u8 0, .int .u8 77, .int .u8 1, .int .u8 8] 5)
    replace HA := hide (HA.out.of_all EB)
    have Hs2 := hide (Hs.out.of_all (EA.trans EB))
    have HE := hide (EA.trans EB)
    have sB : ((w.alloc (.cells #[.int .u8 0, .int .u8 1] 5)).heap.size) = w.heap.size + 1 := by simp
    rw [sB] at HB
    clear EA EB
    obtain ⟨W, hW⟩ : ∃ W, (w.alloc (.cells #[.int .u8 0, .int .u8 1] 5)).alloc (.cells #[.int .u8 0, .int .u8 77, .int .u8 1, .int .u8 8] 5) = W := ⟨_, rfl⟩
    rw [hW] at HA HB Hs2 HE
    clear sB
    go_enter Try.func16, Try.ntmps16
    go_wp2_with fail
    have hc255 : (W.alloc (.cells #[.int .u8 255] 5)).cell? ⟨W.heap.size, 0, none⟩ = some (.int .u8 255) := (Blk.alloc W [.int .u8 255] 5 0 _ rfl).1
    have E2 := Ext.alloc W (.cells #[.int .u8 255] 5)
    refine (repeat_any W.heap.size 255 M _ hc255 g0 (by omega)).mono ?_
    rintro e w3 ⟨g, rfl, hg, hR, E3⟩
    have HR := hide hR.toBSeg
    replace HA := hide (HA.out.of_all (E2.trans E3))
    replace HB := hide (HB.out.of_all (E2.trans E3))
    replace Hs2 := hide (Hs2.out.of_all (E2.trans E3))
    replace HE : Hid (Ext w w3) := hide (HE.out.trans (E2.trans E3))
    clear hc255 E2 E3 hR hg hW
    generalize w.heap.size + 1 = SB at *
    obtain ⟨SA, hSA⟩ : ∃ SA, w.heap.size = SA := ⟨_, rfl⟩
    have HSA := hide hSA
    have HS := hide (Blk.alloc w3 [.slice (some ⟨w.heap.size, 0, none⟩) 2 2, .slice (some ⟨g, 0, none⟩) M M, .slice (some ⟨SB, 0, none⟩) 4 4, .slice a 8 cap] 22)
    have E4 := Ext.alloc w3 (.cells #[.slice (some ⟨w.heap.size, 0, none⟩) 2 2, .slice (some ⟨g, 0, none⟩) M M, .slice (some ⟨SB, 0, none⟩) 4 4, .slice a 8 cap] 22)
    have HC := hide (concat4_any w3.heap.size (w3.alloc (.cells #[.slice (some ⟨w.heap.size, 0, none⟩) 2 2, .slice (some ⟨g, 0, none⟩) M M, .slice (some ⟨SB, 0, none⟩) 4 4, .slice a 8 cap] 22)) _ _ _ _ _ _ _ _ _ _ _ _ _ _ _ _ _ _ _ _ _ _ _ _ HS.out (HA.out.of_all E4) (HR.out.of_all E4) (HB.out.of_all E4) (Hs2.out.of_all E4) (by omega))
    replace HE := hide (HE.out.trans E4)
    clear E4 hSA
    go_wp2_with fail
    refine HC.out.mono ?_
    rintro e w5 ⟨v, rfl, hO, E5⟩
    obtain ⟨ya, yg, yc, rfl, hyg, -, -, hyB⟩ := owns_seg hO
    have HY := hide hyB
    have Hyg := hide (Nat.le_trans (Below.size HE.out) hyg)
    replace HE : Hid (Ext w w5) := hide (HE.out.trans E5)
    clear hO E5 hyB hyg HC HS HA HB HR Hs2
    go_wp2
    go_ret2
    have hK := HM.out
    subst hK
    exact ⟨_, yg, _, rfl, Hyg.out, HY.out, HE.out⟩
  · have HP : Hid (padOk n k = false) := by
      unfold Hid padOk
      by_cases h : n = 8
      · by_cases h1 : 23 ≤ k
        · rw [decide_eq_false (show ¬ k ≤ 64 by omega)]; simp
        · rw [decide_eq_false h1]; simp
      · rw [decide_eq_false h]; rfl
    have HL : Hid (padLen n k = 0) := by unfold Hid padLen; rw [HP.out]; rfl
    rw [HP.out, HL.out]
    clear hs HP HL
    by_cases h : n = 8
    · subst h
      by_cases h1 : k < 23
      · go_enter Try.func16, Try.ntmps16
        go_wp2
        go_ret2
        exact ⟨_, w.heap.size, _, rfl, Nat.le_refl _, BOwn.nil _ _ _ _ _, Ext.alloc _ _⟩
      · have h2 : 64 < k := by omega
        go_enter Try.func16, Try.ntmps16
        go_wp2
        go_ret2
        exact ⟨_, w.heap.size, _, rfl, Nat.le_refl _, BOwn.nil _ _ _ _ _, Ext.alloc _ _⟩
    · have h1 : ((n : Int) != 8) = true := by simp; omega
      clear h hok
      go_enter Try.func16, Try.ntmps16
      go_wp2
      go_ret2
      exact ⟨_, w.heap.size, _, rfl, Nat.le_refl _, BOwn.nil _ _ _ _ _, Ext.alloc _ _⟩

set_option maxHeartbeats 1600000 in
set_option maxRecDepth 100000 in
theorem specPadded_any (a : Option Addr) (b off n cap : Nat) (fh : Nat → Int) (k : Int) (w : World) (hs : BSeg w a b off n fh) :
    Calls Try.prog 21 #[.slice a n cap, .int .i64 k] w fun e w' => GivesBo w (padLen n k) (padG fh (k.toNat - 14)) (padOk n k) e w' := by
  by_cases h8 : n = 8
  · subst h8
    have HI := hide (l1In_int k 23 64 w)
    by_cases hok : 23 ≤ k ∧ k ≤ 64
    · obtain ⟨k0, k1⟩ := hok
      have HP : Hid (padOk 8 k = true) := by unfold Hid padOk; rw [decide_eq_true k0, decide_eq_true k1]; rfl
      have HL : Hid (padLen 8 k = k.toNat) := by unfold Hid padLen; rw [HP.out]; rfl
      rw [HP.out, HL.out]
      rw [decide_eq_true k0, decide_eq_true k1] at HI
      clear HP HL
      obtain ⟨K, rfl⟩ := Int.eq_ofNat_of_zero_le (show 0 ≤ k by omega)
      rw [show ((K : Int)).toNat = K by omega]
      obtain ⟨M, hM⟩ : ∃ M, K - 14 = M := ⟨_, rfl⟩
      rw [hM]
      have HM := hide (show K = 2 + M + 4 + 8 by omega)
      have Hs := hide hs
      have g1 : M ≤ 50 := by omega
      have m0 : (K : Int) - 12 = (2 : Int) + M := by omega
      clear hs hM
      have HO : Hid ((w.alloc (.cells #[.int .u8 0, .int .u8 1] 5)).ownsRow w.heap.size 5 1 (.slice (some ⟨w.heap.size, 0, none⟩) 2 2) 2 (byts (catF pb2 2 (fun _ => 255)) 2)) := by
        have := World.ownsRow_lit (e := 5) (size := 1) (base := w.heap.size) w #[.int .u8 0, .int .u8 1] 2 (Nat.le_refl _) (by decide) rfl
        exact this
      have HE := hide (Ext.alloc w (.cells #[.int .u8 0, .int .u8 1] 5))
      go_enter Try.func21, Try.ntmps21
      go_wp2_with fail
      refine HI.out.mono ?_
      rintro e w1 ⟨rfl, hw⟩
      subst hw
      clear HI
      go_wp2
      rename_i KK hK
      have HK := hide hK
      clear hK
      go_loopw [6] (fun v wr => ∃ j : Nat, j ≤ M ∧ wr.ownsRow w1.heap.size 5 1 v (2 + j) (byts (catF pb2 2 (fun _ => 255)) (2 + j)) ∧ Ext w1 wr) (fun v _ => 60 - (match v with | .slice _ n _ => n | _ => 0))
      case atStart => exact ⟨0, by omega, HO.out, HE.out⟩
      case round =>
        clear HO HE
        obtain ⟨j, hj, hO, hE⟩ := hrel
        have HO := hide hO
        have HE := hide hE
        obtain ⟨ya, yg, yc, rfl, hyg, hyn, hyc, hyB⟩ := owns_seg hO
        clear hO hE hyB
        by_cases hlt : j < M
        · have c0 : (((2 + j : Nat) : Int)) < 2 + (M : Int) := by omega
          obtain ⟨J, hJ⟩ : ∃ J, 2 + j = J := ⟨_, rfl⟩
          have HJ := hide hJ
          rw [hJ] at c0 HO hyn ⊢
          clear hJ
          have HX := hide (bseg_one' wr 255)
          have HO2 := hide (HO.out.alloc (.cells #[.int .u8 255] 5))
          have Hsz := hide (Below.size HE.out)
          go_wp2_with (at_builtin; refine wpList_append_bs rfl _ _ rfl w1.heap.size _ J _ rfl HO2.out _ wr.heap.size 0 1 1 (fun _ => 255) rfl HX.out (by have := HJ.out; omega) (by have := Hsz.out; simp; omega) ?_)
          intro v' w2 h2 h3
          rw [byts_append] at h2
          have H2 : Hid (w2.ownsRow w1.heap.size 5 1 v' (2 + (j + 1)) (byts (catF pb2 2 (fun _ => 255)) (2 + (j + 1)))) := by
            unfold Hid
            rw [show 2 + (j + 1) = J + 1 by have := HJ.out; omega]
            refine owns_congr h2 (fun i hi => ?_)
            have := HJ.out
            unfold catF
            by_cases h1 : i < J
            · rw [if_pos h1]
            · rw [if_neg h1, if_neg (by omega)]
          have H3 : Hid (Ext w1 w2) := hide (Below.trans (Ext.trans HE.out (Ext.alloc _ _)) h3)
          clear h2 h3 HO2 HX HO HE
          go_wp2
          go_roundw
          case rel => exact ⟨j + 1, by omega, H2.out, H3.out⟩
          case measure =>
            obtain ⟨_, _, _, rfl, -⟩ := owns_seg H2.out
            have := HJ.out
            simp
            omega
        · obtain rfl : j = M := by omega
          have c0 : ¬ (((2 + j : Nat) : Int)) < 2 + (j : Int) := by omega
          obtain ⟨J, hJ⟩ : ∃ J, 2 + j = J := ⟨_, rfl⟩
          have HJ := hide hJ
          rw [hJ] at c0 HO hyn ⊢
          have HX := hide (e4_seg wr)
          have HO2 := hide (HO.out.alloc (.cells #[.int .u8 0, .int .u8 77, .int .u8 1, .int .u8 8] 5))
          have Hsz := hide (Below.size HE.out)
          clear hJ
          go_wp2
          apply HK.out
          clear HK
          go_wp2_with (at_builtin; refine wpList_append_bs rfl _ _ rfl w1.heap.size _ J _ rfl HO2.out _ wr.heap.size 0 4 4 pe4 rfl HX.out (by have := HJ.out; omega) (by have := Hsz.out; simp; omega) ?_)
          intro v5 w5 h2 h3
          rw [byts_append] at h2
          have HO5 := hide h2
          have E5 : Ext w1 w5 := Below.trans (Ext.trans HE.out (Ext.alloc _ _)) h3
          have Hs5 := hide (Hs.out.of_all E5)
          have Hz5 := hide (Below.size E5)
          replace HE : Hid (Ext w1 w5) := hide E5
          clear h2 h3 HO2 HX HO E5
          go_wp2_with (at_builtin; refine wpList_append_bs rfl _ _ rfl w1.heap.size _ (J + 4) _ rfl HO5.out _ b off 8 cap fh rfl Hs5.out (by have := HJ.out; omega) Hz5.out ?_)
          intro v6 w6 h2 h3
          rw [byts_append] at h2
          have HO6 : Hid (w6.ownsRow w1.heap.size 5 1 v6 K (byts (padG fh j) K)) := by
            unfold Hid
            rw [show K = J + 4 + 8 by have := HM.out; have := HJ.out; omega]
            unfold padG
            rw [HJ.out]
            exact h2
          replace HE : Hid (Ext w1 w6) := hide (Below.trans HE.out h3)
          obtain ⟨za, zg, zc, rfl, hzg, -, -, hzB⟩ := owns_seg HO6.out
          have HZ := hide hzB
          clear h2 h3 HO6 hzB
          go_wp2
          go_ret2
          exact ⟨_, zg, _, rfl, hzg, HZ.out, HE.out⟩
    · have HP : Hid (padOk 8 k = false) := by
        unfold Hid padOk
        by_cases h1 : 23 ≤ k
        · rw [decide_eq_false (show ¬ k ≤ 64 by omega)]; simp
        · rw [decide_eq_false h1]; simp
      have HL : Hid (padLen 8 k = 0) := by unfold Hid padLen; rw [HP.out]; rfl
      rw [HP.out, HL.out]
      rw [show (decide (23 ≤ k) && decide (k ≤ 64)) = false by
        by_cases h1 : 23 ≤ k
        · rw [decide_eq_false (show ¬ k ≤ 64 by omega)]; simp
        · rw [decide_eq_false h1]; simp] at HI
      clear hs HP HL
      go_enter Try.func21, Try.ntmps21
      go_wp2_with fail
      refine HI.out.mono ?_
      rintro e w1 ⟨rfl, hw⟩
      subst hw
      clear HI
      go_wp2
      go_ret2
      exact ⟨_, w1.heap.size, _, rfl, Nat.le_refl _, BOwn.nil _ _ _ _ _, Ext.alloc _ _⟩
  · have HP : Hid (padOk n k = false) := by unfold Hid padOk; rw [decide_eq_false h8]; rfl
    have HL : Hid (padLen n k = 0) := by unfold Hid padLen; rw [HP.out]; rfl
    rw [HP.out, HL.out]
    have h1 : ((n : Int) != 8) = true := by simp; omega
    clear hs HP HL h8
    go_enter Try.func21, Try.ntmps21
    go_wp2
    go_ret2
    exact ⟨_, w.heap.size, _, rfl, Nat.le_refl _, BOwn.nil _ _ _ _ _, Ext.alloc _ _⟩

end Go.Proofs.Ytjkojofpkeglpab
