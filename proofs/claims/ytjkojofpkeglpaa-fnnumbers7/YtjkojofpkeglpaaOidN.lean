/- Walks: a number in bytes of seven bits: oidNumberBytes of the program, l7Seven of the model. -/
import Derived.Test.YtjkojofpkeglpaaInBs
namespace Go.Proofs.Ytjkojofpkeglpaa
set_option linter.unusedVariables false
set_option linter.unusedSimpArgs false
open Go.RowKit

theorem or_more {x : Int} (h0 : 0 ≤ x) (h1 : x < 128) : bits .or .u8 x 128 = x + 128 := by
  have h : ∀ n : Nat, n < 128 → bits .or .u8 (n : Int) 128 = (n : Int) + 128 := by decide +kernel
  obtain ⟨n, rfl⟩ := Int.eq_ofNat_of_zero_le h0
  exact h n (by omega)

theorem dg_range (n : Int) (k : Nat) : 0 ≤ dg n 128 k ∧ dg n 128 k < 128 := by unfold dg; omega

/-- The digits of seven bits, the first k of them with 128. -/
def s7k (n : Int) (L k : Nat) (i : Nat) : Int := dg n 128 (L - i) + if i < k then 128 else 0
def s7 (n : Int) (i : Nat) : Int := s7k n (lenB 128 n) (lenB 128 n) i
theorem s7_range (n : Int) (i : Nat) : 0 ≤ s7 n i ∧ s7 n i < 256 := by
  unfold s7 s7k
  have := dg_range n (lenB 128 n - i)
  split <;> omega

set_option maxHeartbeats 1600000 in
set_option maxRecDepth 100000 in
theorem oidNumberBytes_any (n : Int) (w : World) (h0 : 0 ≤ n) (h1 : n ≤ 9223372036854775807) :
    Calls Try.prog 41 #[.int .i64 n] w fun e w' => GivesR w (lenB 128 n + 1) (s7 n) e w' := by
  have HL := hide (lenB_is (B := 128) (.inl rfl) n h0)
  have HJ := hide (HL.out.le (.inl rfl) h0 h1)
  have HG : Hid (s7 n = s7k n (lenB 128 n) (lenB 128 n)) := rfl
  rw [HG.out]
  clear HG
  generalize lenB 128 n = L at *
  go_enter Try.func41, Try.ntmps41
  go_wp2_with fail
  refine (inBase_any n 128 L (.inl rfl) HL.out w h0 h1).mono ?_
  rintro e w1 ⟨v, rfl, hO, hE⟩
  obtain ⟨ya, yg, yc, rfl, hyg, hyn, hyc, hyB⟩ := owns_seg hO
  obtain rfl := hyB.at' (by omega)
  have HO := hide hO
  have HE := hide hE
  have Hyg := hide hyg
  have l8 : (L : Int) ≤ 8 := by have := HJ.out; omega
  clear hyB hyg hO hE HL
  go_wp2
  go_loopw [10] (fun x wr => ∃ k : Nat, k ≤ L ∧ x = .int .i64 (k : Int) ∧ wr.ownsRow w.heap.size 5 1 (.slice (some ⟨yg, 0, none⟩) (L + 1) yc) (L + 1) (byts (s7k n L k) (L + 1)) ∧ Ext w wr) (fun x _ => L - (intOf x).toNat)
  case atStart => exact ⟨0, by omega, rfl, owns_congr HO.out (fun i hi => by unfold s7k; simp), HE.out⟩
  case round =>
    clear HO HE
    obtain ⟨k, hk, rfl, hO, hE⟩ := hrel
    by_cases hlt : k < L
    · have hkL : (k : Int) < L := by omega
      have hkL1 : (k : Int) < (L : Int) + 1 := by omega
      have hc := owns_cell hO k (by omega)
      have hf := owns_free hO k
      have hv : s7k n L k k = dg n 128 (L - k) := by unfold s7k; simp
      obtain ⟨y0, y1⟩ := dg_range n (L - k)
      rw [hv] at hc
      have ho := or_more y0 y1
      have HO := hide (owns_congr (g := s7k n L (k + 1)) (owns_set hO k (dg n 128 (L - k) + 128)) (fun i hi => by
        unfold s7k
        by_cases e : i = k
        · subst e; rw [if_pos rfl, if_pos (by omega)]
        · rw [if_neg e]
          by_cases h : i < k
          · rw [if_pos h, if_pos (by omega)]
          · rw [if_neg h, if_neg (by omega)]))
      have HE := hide ((Touch.set (Touch.refl yg wr) k (.int .u8 (dg n 128 (L - k) + 128))).ext hE Hyg.out)
      clear hO hE hv
      generalize dg n 128 (L - k) = y at *
      have y2 : y + 128 < 256 := by omega
      go_wp2
      go_roundw
      case rel => exact ⟨k + 1, by omega, by go_num, HO.out, HE.out⟩
      case measure => simp [intOf]; omega
    · obtain rfl : k = L := by omega
      have HO := hide hO
      have HE := hide hE
      clear hO hE
      go_wp2
      go_ret
      exact ⟨_, rfl, HO.out, HE.out⟩

set_option maxHeartbeats 1600000 in
set_option maxRecDepth 100000 in
theorem l7Seven_any (n : Int) (w : World) (h0 : 0 ≤ n) (h1 : n ≤ 9223372036854775807) :
    Calls Try.prog 39 #[.int .i64 n] w fun e w' => GivesR w (lenB 128 n + 1) (s7 n) e w' := by
  have HL := hide (lenB_is (B := 128) (.inl rfl) n h0)
  have HJ := hide (HL.out.le (.inl rfl) h0 h1)
  have HG : Hid (s7 n = s7k n (lenB 128 n) (lenB 128 n)) := rfl
  rw [HG.out]
  clear HG
  generalize lenB 128 n = L at *
  have HO := hide (owns_one8 w (n % 128))
  have HE := hide (Ext.alloc w (.cells #[.int .u8 (n % 128)] 5))
  have HB : Hid ((128 : Int) = 128 ∨ (128 : Int) = 256) := .inl rfl
  have m0 : n.tmod 128 = n % 128 := Int.tmod_eq_emod_of_nonneg h0
  have q0 : n.tdiv 128 = n / 128 := Int.tdiv_eq_ediv_of_nonneg h0
  have u0 : n % 128 % 256 = n % 128 := by omega
  go_enter Try.func39, Try.ntmps39
  go_wp2
  clear m0 q0 u0
  go_loopw [0, 3] (fun x v wr => ∃ j : Nat, j ≤ L ∧ x = .int .i64 (dv n 128 (j + 1)) ∧ wr.ownsRow w.heap.size 5 1 v (j + 1) (byts (s7k n j j) (j + 1)) ∧ Ext w wr) (fun _ v _ => 9 - (match v with | .slice _ n _ => n | _ => 0))
  case atStart => exact ⟨0, by omega, rfl, owns_congr HO.out (fun i hi => by unfold s7k; rw [show 0 - i = 0 by omega]; simp; rfl), HE.out⟩
  case round =>
    clear HO HE
    obtain ⟨j, hj, rfl, hO, hE⟩ := hrel
    obtain ⟨hb0, hb1⟩ := dv_nonneg (B := 128) (.inl rfl) h0 (j + 1)
    by_cases hs : dv n 128 (j + 1) ≤ 0
    · have e : j = L := by
        by_cases hh : j < L
        · have := HL.out.no j hh; omega
        · omega
      subst e
      have x0 : ¬ (0 : Int) < dv n 128 (j + 1) := by omega
      have HE := hide hE
      have HO := hide hO
      clear hO hE hs HL
      generalize dv n 128 (j + 1) = x at *
      go_wp2
      go_ret
      exact ⟨_, rfl, HO.out, HE.out⟩
    · have hh : j < L := by
        have h2 := HL.out.yes
        by_cases e : j = L
        · subst e; exact absurd h2 hs
        · omega
      have x0 : (0 : Int) < dv n 128 (j + 1) := by omega
      have Hsz := hide (Below.size hE)
      have HJ := hide (Nat.lt_of_lt_of_le hh HJ.out)
      have H8 : Hid (dv n 128 (j + 1 + 1) = dv n 128 (j + 1) / 128) := rfl
      have Hy : Hid (dg n 128 (j + 1) = dv n 128 (j + 1) % 128) := rfl
      have m0 : (dv n 128 (j + 1)).tmod 128 = dv n 128 (j + 1) % 128 := Int.tmod_eq_emod_of_nonneg hb0
      have q0 : (dv n 128 (j + 1)).tdiv 128 = dv n 128 (j + 1) / 128 := Int.tdiv_eq_ediv_of_nonneg hb0
      obtain ⟨y, hy⟩ : ∃ y, 128 + dv n 128 (j + 1) % 128 = y := ⟨_, rfl⟩
      have u0 : y % 256 = y := by omega
      have y0 : 0 ≤ y := by omega
      have y1 : y ≤ 255 := by omega
      obtain ⟨ya, yg, yc, rfl, hyg, hyn, hyc, hyB⟩ := owns_seg hO
      have HX := hide (hyB.toBSeg.of_all (Ext.alloc wr (.cells #[.int .u8 y] 5)))
      have HO := hide (owns_mono (owns_one8 wr y) (Below.size hE))
      have HE := hide hE
      have HY := hide hy
      clear hO hE hs hyg hyB
      go_wp2_with (at_builtin; refine wpList_append_bs rfl _ _ rfl w.heap.size _ 1 (byts (fun _ => y) 1) rfl HO.out _ yg 0 (j + 1) yc (s7k n j j) rfl HX.out (by have := HJ.out; omega) (by have := Hsz.out; simp; omega) ?_)
      intro v' w1 h2 h3
      rw [byts_append] at h2
      have H2 : Hid (w1.ownsRow w.heap.size 5 1 v' (j + 1 + 1) (byts (s7k n (j + 1) (j + 1)) (j + 1 + 1))) := hide (by
        rw [show j + 1 + 1 = 1 + (j + 1) by omega]
        refine owns_congr h2 (fun i hi => ?_)
        unfold catF
        by_cases h : i < 1
        · rw [if_pos h, show i = 0 by omega]
          unfold s7k
          rw [if_pos (by omega), Nat.sub_zero, Hy.out]
          show y = _
          rw [← HY.out]
          omega
        · rw [if_neg h]
          unfold s7k
          rw [show j - (i - 1) = j + 1 - i by omega]
          by_cases h2 : i < j + 1
          · rw [if_pos h2, if_pos (by omega)]
          · rw [if_neg h2, if_neg (by omega)])
      have H3 : Hid (Ext w w1) := hide (Below.trans (Ext.trans HE.out (Ext.alloc _ _)) h3)
      clear h2 h3 HO HX
      go_wp2
      go_roundw
      case rel => exact ⟨j + 1, by omega, by rw [H8.out], H2.out, H3.out⟩
      case measure =>
        obtain ⟨_, _, _, rfl, -⟩ := owns_seg H2.out
        have := HJ.out
        simp
        omega

end Go.Proofs.Ytjkojofpkeglpaa
