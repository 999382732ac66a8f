/- Walk: the program's digitsSum: the sum of two lists of digits, in new memory. -/
import Derived.Test.YtmkmojcefgcmlaaDoorAdds2
namespace Go.Proofs.YtmkmojcefgcmlaaDoor
set_option linter.unusedVariables false
open Go.RowKit

/-- The sum fits one digit above both. -/
theorem sum_val {n n2 N : Nat} {f g : Nat → Int} (hf : Digs f n) (hg : Digs g n2) (h1 : n + 1 ≤ N) (h2 : n2 + 1 ≤ N) : val (addD (ext N (ext n f)) (ext n2 g)) N = val f n + val g n2 := by
  obtain ⟨M, rfl⟩ : ∃ M, N = M + 1 := ⟨N - 1, by omega⟩
  have h := add_val (n := M + 1) (n2 := n2) (f := ext n f) (h := g) (M + 1) (Nat.le_refl _) (by omega)
  rw [val_ext (show n ≤ M + 1 by omega)] at h
  have b1 := (val_bd hf).2
  have b2 := (val_bd hg).2
  have p1 := pw_le (show n ≤ M by omega)
  have p2 := pw_le (show n2 ≤ M by omega)
  have b3 := (val_bd (f := addD (ext (M + 1) (ext n f)) (ext n2 g)) (n := M + 1) (fun i _ => addD_bd _ _ i)).1
  have c := addC_bd (ext_bd (ext_digs hf (M + 1))) (ext_bd hg) (M + 1)
  have e : pw (M + 1) = pw M * 65536 := rfl
  have pp := pw_pos M
  have hc : addC (ext (M + 1) (ext n f)) (ext n2 g) (M + 1) = 0 := by
    rcases (show addC (ext (M + 1) (ext n f)) (ext n2 g) (M + 1) = 0 ∨ addC (ext (M + 1) (ext n f)) (ext n2 g) (M + 1) = 1 by omega) with h0 | h0
    · exact h0
    · rw [h0] at h; omega
  rw [hc] at h
  omega

set_option maxHeartbeats 800000 in
theorem digitsSum_any (a : Option Addr) (b off n cap : Nat) (f : Nat → Int) (a2 : Option Addr) (b2 off2 n2 cap2 : Nat) (g : Nat → Int) (w : World) (hs : Seg w a b off n f) (hs2 : Seg w a2 b2 off2 n2 g)
    (hn : n ≤ 4096) (hn2 : n2 ≤ 4096) (hf : Digs f n) (hg : Digs g n2) :
    Calls Tryd.prog 42 #[.slice a n cap, .slice a2 n2 cap2] w fun e w' => GivesVal w (val f n + val g n2) e w' := by
  go_enter Tryd.func42, Tryd.ntmps42
  by_cases hm : n2 ≤ n
  · have hm' : (n2 : Int) ≤ (n : Int) := by omega
    go_wp2_with fail
    refine (digitsCopy_int a b off n cap f (n + 1) _ _ (by omega) hs (by omega) (by omega)).mono ?_
    rintro e w1 ⟨rfl, hO1, hB1⟩
    have D1 : Digs (ext n f) (n + 1) := ext_digs hf (n + 1)
    go_wp2_with fail
    refine (addDigits_any _ w.heap.size 0 (n + 1) _ (ext n f) a2 b2 off2 n2 cap2 g _ hO1 (hs2.of_all hB1) (by omega) (by omega) D1 hg (fun h => by have := hs2.lt h; omega)).mono ?_
    rintro e w2 ⟨rfl, hO2, hT2⟩
    have hB2 := below_touch hB1 hT2.toTouch (Nat.le_refl _)
    clear hO1 hT2 hB1
    have HV : Hid (val (addD (ext (n + 1) (ext n f)) (ext n2 g)) (n + 1) = val f n + val g n2) := sum_val hf hg (by omega) (by omega)
    generalize hs' : addD (ext (n + 1) (ext n f)) (ext n2 g) = s at *
    have hsd : Digs s (n + 1) := by rw [← hs']; exact fun i _ => addD_bd _ _ i
    clear hs'
    go_wp2_with fail
    refine (withoutNoughts_any _ w.heap.size 0 (n + 1) _ s _ hO2.toSeg (by omega) (by omega) (by omega)).mono ?_
    rintro e w3 ⟨m, rfl, hmn, hz, hl, hw⟩
    obtain rfl := hw.symm
    have HW : Hid (val s m = val f n + val g n2) := (val_noughts hmn hz).trans HV.out
    go_wp2
    go_ret
    exact ⟨w.heap.size, _, m, s, rfl, by omega, by omega, ⟨hsd.mono hmn, hl⟩, HW.out, Nat.le_refl _, hO2.cut hmn, hB2⟩
  · have hm' : (n : Int) < (n2 : Int) := by omega
    go_wp2_with fail
    refine (digitsCopy_int a b off n cap f (n2 + 1) _ _ (by omega) hs (by omega) (by omega)).mono ?_
    rintro e w1 ⟨rfl, hO1, hB1⟩
    have D1 : Digs (ext n f) (n2 + 1) := ext_digs hf (n2 + 1)
    go_wp2_with fail
    refine (addDigits_any _ w.heap.size 0 (n2 + 1) _ (ext n f) a2 b2 off2 n2 cap2 g _ hO1 (hs2.of_all hB1) (by omega) (by omega) D1 hg (fun h => by have := hs2.lt h; omega)).mono ?_
    rintro e w2 ⟨rfl, hO2, hT2⟩
    have hB2 := below_touch hB1 hT2.toTouch (Nat.le_refl _)
    clear hO1 hT2 hB1
    have HV : Hid (val (addD (ext (n2 + 1) (ext n f)) (ext n2 g)) (n2 + 1) = val f n + val g n2) := sum_val hf hg (by omega) (by omega)
    generalize hs' : addD (ext (n2 + 1) (ext n f)) (ext n2 g) = s at *
    have hsd : Digs s (n2 + 1) := by rw [← hs']; exact fun i _ => addD_bd _ _ i
    clear hs'
    go_wp2_with fail
    refine (withoutNoughts_any _ w.heap.size 0 (n2 + 1) _ s _ hO2.toSeg (by omega) (by omega) (by omega)).mono ?_
    rintro e w3 ⟨m, rfl, hmn, hz, hl, hw⟩
    obtain rfl := hw.symm
    have HW : Hid (val s m = val f n + val g n2) := (val_noughts hmn hz).trans HV.out
    go_wp2
    go_ret
    exact ⟨w.heap.size, _, m, s, rfl, by omega, by omega, ⟨hsd.mono hmn, hl⟩, HW.out, Nat.le_refl _, hO2.cut hmn, hB2⟩

end Go.Proofs.YtmkmojcefgcmlaaDoor
