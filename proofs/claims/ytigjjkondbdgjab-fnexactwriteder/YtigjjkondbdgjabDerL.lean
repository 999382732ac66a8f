/- Walks: the bytes of a length, of both. -/
import Derived.Test.YtigjjkondbdgjabInBs
namespace Go.Proofs.Ytigjjkondbdgjab
set_option linter.unusedVariables false
set_option linter.unusedSimpArgs false
open Go.RowKit

/-- How many bytes tell a length, and which. -/
def lgN (n : Int) : Nat := if n < 128 then 1 else lenB 256 n + 2
def lgF (n : Int) (i : Nat) : Int := if n < 128 then n else if i = 0 then 129 + (lenB 256 n : Int) else dg n 256 (lenB 256 n - (i - 1))
theorem len_low {n : Int} (h0 : 0 ≤ n) (h1 : n < 256) : lenB 256 n = 0 := by
  refine (lenB_is (B := 256) (.inr rfl) n h0).unique ⟨?_, fun j hj => by omega⟩
  show dv n 256 1 ≤ 0
  simp only [dv]
  omega
theorem len_mid {n : Int} (h0 : 256 ≤ n) (h1 : n < 65536) : lenB 256 n = 1 := by
  refine (lenB_is (B := 256) (.inr rfl) n (by omega)).unique ⟨?_, fun j hj => ?_⟩
  · show dv n 256 2 ≤ 0
    simp only [dv]
    omega
  · obtain rfl : j = 0 := by omega
    show 0 < dv n 256 1
    simp only [dv]
    omega
theorem len_le {n : Int} (h0 : 0 ≤ n) (h1 : n ≤ 9223372036854775807) : lenB 256 n ≤ 8 := (lenB_is (B := 256) (.inr rfl) n h0).le (.inr rfl) h0 h1

theorem owns_low {w : World} {B B' n : Nat} {v : Value} {xs : List Value} (h : B' ≤ B) (ho : w.ownsRow B 5 1 v n xs) : w.ownsRow B' 5 1 v n xs := by
  refine ⟨ho.1, ?_⟩
  rcases ho.2 with h0 | ⟨g, cap, cur, rfl, hb, rest⟩
  · exact .inl h0
  · exact .inr ⟨g, cap, cur, rfl, Nat.le_trans h hb, rest⟩

set_option maxHeartbeats 1600000 in
set_option maxRecDepth 100000 in
theorem lengthBytes_any (n : Int) (w : World) (h0 : 0 ≤ n) (h1 : n ≤ 9223372036854775807) : Calls Try.prog 39 #[.int .i64 n] w fun e w' => GivesR w (lgN n) (lgF n) e w' := by
  have HI := hide (inBase_any n 256 (lenB 256 n) (.inr rfl) (lenB_is (.inr rfl) n h0) w h0 h1)
  by_cases hl : n < 128
  · have e0 := len_low h0 (by omega)
    have hN : lgN n = 1 := by unfold lgN; rw [if_pos hl]
    have hF : ∀ i, i < 1 → (fun i => dg n 256 (0 - i)) i = lgF n i := fun i hi => by
      obtain rfl : i = 0 := by omega
      show dg n 256 0 = lgF n 0
      unfold lgF dg
      rw [if_pos hl]
      simp only [dv]
      omega
    have HF := hide hF
    rw [hN]
    rw [e0] at HI
    clear hN e0 hF
    go_enter Try.func39, Try.ntmps39
    go_wp2_with fail
    refine HI.out.mono ?_
    rintro e w1 ⟨v, rfl, hO, hE⟩
    have HR : Hid (GivesR w 1 (lgF n) (.returned v) w1) := ⟨v, rfl, owns_congr hO HF.out, hE⟩
    obtain ⟨ya, yg, yc, rfl, -, -, -, -⟩ := owns_seg hO
    clear hO hE HI
    go_wp2
    go_ret
    exact HR.out
  · have l8 := len_le h0 h1
    have hN : lgN n = lenB 256 n + 2 := by unfold lgN; rw [if_neg hl]
    have HG : Hid (∀ i, lgF n i = if i = 0 then 129 + (lenB 256 n : Int) else dg n 256 (lenB 256 n - (i - 1))) := fun i => by unfold lgF; rw [if_neg hl]
    rw [hN]
    generalize lenB 256 n = L at *
    generalize lgF n = G at *
    clear hN
    go_enter Try.func39, Try.ntmps39
    go_wp2_with fail
    refine HI.out.mono ?_
    rintro e w1 ⟨v, rfl, hO, hE⟩
    obtain ⟨ya, yg, yc, rfl, hyg, hyn, hyc, hyB⟩ := owns_seg hO
    have HX := hide (hyB.toBSeg.of_all (Ext.alloc w1 (.cells #[.int .u8 (129 + (L : Int))] 5)))
    have HO1 := hide (owns_one8 w1 (129 + (L : Int)))
    have HE := hide (hE.trans (Ext.alloc w1 (.cells #[.int .u8 (129 + (L : Int))] 5)))
    have hw1 : IntKind.u8.wrap ((L : Int) + 1) = (L : Int) + 1 := by rw [IntKind.wrap_u8]; omega
    have hw2 : IntKind.u8.wrap (128 + ((L : Int) + 1)) = 129 + (L : Int) := by rw [IntKind.wrap_u8]; omega
    have hsz : w.heap.size ≤ w1.heap.size := Below.size hE
    clear hO hE hyB HI hyg
    go_wp2_with (at_builtin; refine wpList_append_bs rfl _ _ rfl w1.heap.size _ 1 _ rfl HO1.out _ yg 0 (L + 1) yc (fun i => dg n 256 (L - i)) rfl HX.out (by omega) (by simp) ?_)
    intro v3 w3 hO3 hb3
    rw [byts_append] at hO3
    have HR : Hid (GivesR w (L + 2) G (.returned v3) w3) := ⟨v3, rfl, owns_low hsz (by
      rw [show 1 + (L + 1) = L + 2 by omega] at hO3
      refine owns_congr hO3 (fun i hi => ?_)
      rw [HG.out i]
      by_cases e : i = 0
      · subst e; rw [if_pos rfl, catF, if_pos (by omega)]
      · rw [if_neg e, catF, if_neg (by omega)]), Below.trans HE.out (hb3.mono hsz)⟩
    obtain ⟨ya3, yg3, yc3, rfl, -, -, -, -⟩ := owns_seg hO3
    clear hO3 hb3 HX HO1 HE
    go_wp2
    go_ret
    exact HR.out

theorem lgN_le {n : Int} (h0 : 0 ≤ n) (h1 : n ≤ 9223372036854775807) : 1 ≤ lgN n ∧ lgN n ≤ 10 := by
  have := len_le h0 h1
  unfold lgN
  split <;> omega

set_option maxHeartbeats 800000 in
theorem wholeLength_any (n : Int) (w : World) (h0 : 0 ≤ n) (h1 : n ≤ 1099511627776) : Calls Try.prog 38 #[.int .i64 n] w fun e w' => e = .returned (.int .i64 (1 + (lgN n : Int) + n)) ∧ Ext w w' := by
  have HL := hide (lengthBytes_any n w h0 (by omega))
  obtain ⟨l1, l2⟩ := lgN_le h0 (show n ≤ 9223372036854775807 by omega)
  generalize lgN n = N at *
  have e1 : wrap64 (1 + (N : Int)) = 1 + (N : Int) := by unfold wrap64; omega
  have e2 : wrap64 (1 + (N : Int) + n) = 1 + (N : Int) + n := by unfold wrap64; omega
  clear h0 h1 l1 l2
  go_enter Try.func38, Try.ntmps38
  go_wp2_with fail
  refine HL.out.mono ?_
  rintro e w1 ⟨v, rfl, hO, hE⟩
  obtain ⟨ya, yg, yc, rfl, -, -, -, -⟩ := owns_seg hO
  have HE := hide hE
  clear hO hE HL
  go_wp2
  go_ret
  exact ⟨(show Ending.returned (.int .i64 (wrap64 (1 + (N : Int) + n))) = _ by rw [e2]), HE.out⟩

/-- The model's bytes of a length. -/
theorem lg_low {n : Int} (h : n < 128) : lgN n = 1 ∧ ∀ i, i < 1 → lgF n i = n := ⟨by unfold lgN; rw [if_pos h], fun i _ => by unfold lgF; rw [if_pos h]⟩
theorem lg_mid {n : Int} (h0 : 128 ≤ n) (h1 : n < 256) : lgN n = 2 ∧ lgF n 0 = 129 ∧ lgF n 1 = n := by
  have e := len_low (n := n) (by omega) h1
  have hn : ¬ n < 128 := by omega
  unfold lgN lgF
  simp only [if_neg hn, e]
  refine ⟨trivial, rfl, ?_⟩
  show dg n 256 0 = n
  unfold dg
  simp only [dv]
  omega
theorem lg_high {n : Int} (h0 : 256 ≤ n) (h1 : n < 65536) : lgN n = 3 ∧ lgF n 0 = 130 ∧ lgF n 1 = n / 256 ∧ lgF n 2 = n % 256 := by
  have e := len_mid h0 h1
  have hn : ¬ n < 128 := by omega
  unfold lgN lgF
  simp only [if_neg hn, e]
  refine ⟨trivial, rfl, ?_, ?_⟩
  · show dg n 256 1 = n / 256
    unfold dg
    simp only [dv]
    omega
  · show dg n 256 0 = n % 256
    unfold dg
    simp only [dv]

set_option maxHeartbeats 800000 in
theorem l7Length_any (n : Int) (w : World) (h0 : 0 ≤ n) (h1 : n < 65536) : Calls Try.prog 66 #[.int .i64 n] w fun e w' => GivesR w (lgN n) (lgF n) e w' := by
  by_cases c1 : n < 128
  · obtain ⟨hN, hF⟩ := lg_low c1
    have HR : Hid (GivesR w (lgN n) (lgF n) (.returned (.slice (some ⟨w.heap.size, 0, none⟩) 1 1)) (w.alloc (.cells #[.int .u8 n] 5))) := by
      rw [hN]
      exact ⟨_, rfl, owns_congr (owns_one8 w n) (fun i hi => (hF i hi).symm), Ext.alloc _ _⟩
    have hw : IntKind.u8.wrap n = n := by rw [IntKind.wrap_u8]; omega
    clear hN hF h0 h1
    go_enter Try.func66, Try.ntmps66
    go_wp2
    go_ret
    exact HR.out
  · by_cases c2 : n < 256
    · obtain ⟨hN, f0, f1⟩ := lg_mid (by omega) c2
      have HR : Hid (GivesR w (lgN n) (lgF n) (.returned (.slice (some ⟨w.heap.size, 0, none⟩) 2 2)) (w.alloc (.cells #[.int .u8 129, .int .u8 n] 5))) := by
        rw [hN]
        refine ⟨_, rfl, ?_, Ext.alloc _ _⟩
        have := World.ownsRow_lit (e := 5) (size := 1) (base := w.heap.size) w #[.int .u8 129, .int .u8 n] 2 (Nat.le_refl _) (by decide) rfl
        rw [show byts (lgF n) 2 = [.int .u8 (lgF n 0), .int .u8 (lgF n 1)] from rfl, f0, f1]
        exact this
      have hw : IntKind.u8.wrap n = n := by rw [IntKind.wrap_u8]; omega
      clear hN f0 f1 h0 h1
      go_enter Try.func66, Try.ntmps66
      go_wp2
      go_ret
      exact HR.out
    · obtain ⟨hN, f0, f1, f2⟩ := lg_high (by omega) h1
      have HR : Hid (GivesR w (lgN n) (lgF n) (.returned (.slice (some ⟨w.heap.size, 0, none⟩) 3 3)) (w.alloc (.cells #[.int .u8 130, .int .u8 (n / 256), .int .u8 (n % 256)] 5))) := by
        rw [hN]
        refine ⟨_, rfl, ?_, Ext.alloc _ _⟩
        have := World.ownsRow_lit (e := 5) (size := 1) (base := w.heap.size) w #[.int .u8 130, .int .u8 (n / 256), .int .u8 (n % 256)] 3 (Nat.le_refl _) (by decide) rfl
        rw [show byts (lgF n) 3 = [.int .u8 (lgF n 0), .int .u8 (lgF n 1), .int .u8 (lgF n 2)] from rfl, f0, f1, f2]
        exact this
      have hw : IntKind.u8.wrap n = n % 256 := by rw [IntKind.wrap_u8]
      have hw2 : IntKind.u8.wrap (n / 256) = n / 256 := by rw [IntKind.wrap_u8]; omega
      clear hN f0 f1 f2 h0 h1
      go_enter Try.func66, Try.ntmps66
      go_wp2
      go_ret
      exact HR.out

end Go.Proofs.Ytigjjkondbdgjab
