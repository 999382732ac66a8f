/- Walks: NatAdd, the model's and the program's. -/
import Derived.Test.YtojgnbckikpgmaaAdds2
namespace Go.Proofs.Ytojgnbckikpgmaa
set_option linter.unusedVariables false
open Go.RowKit

/-- The sum fits one digit above both. -/
theorem sum_val {n n2 N : Nat} {f g : Nat → Int} (hf : Digs f n) (hg : Digs g n2) (h1 : n + 1 ≤ N) (h2 : n2 + 1 ≤ N) : val (addD (ext N (ext n f)) (ext n2 g)) N = val f n + val g n2 := by
  obtain ⟨M, rfl⟩ : ∃ M, N = M + 1 := ⟨N - 1, by omega⟩
  have h := add_val (n := M + 1) (n2 := n2) (f := ext n f) (h := g) (M + 1) (Nat.le_refl _) (by omega)
  rw [val_ext (show n ≤ M + 1 by omega)] at h
  have b1 := (val_bd hf).2
  have b2 := (val_bd hg).2
  have p1 := pw_le (show n ≤ M by omega)
  have p2 := pw_le (show n2 ≤ M by omega)
  have b3 := (val_bd (f := addD (ext (M + 1) (ext n f)) (ext n2 g)) (n := M + 1) (fun i _ => addD_bd _ _ i)).1
  have c := addC_bd (ext_bd (ext_digs hf (M + 1))) (ext_bd hg) (M + 1)
  have e : pw (M + 1) = pw M * 65536 := rfl
  have pp := pw_pos M
  have hc : addC (ext (M + 1) (ext n f)) (ext n2 g) (M + 1) = 0 := by
    rcases (show addC (ext (M + 1) (ext n f)) (ext n2 g) (M + 1) = 0 ∨ addC (ext (M + 1) (ext n f)) (ext n2 g) (M + 1) = 1 by omega) with h0 | h0
    · exact h0
    · rw [h0] at h; omega
  rw [hc] at h
  omega

/-- NatAdd's answer. -/
def addQ (n : Nat) (f : Nat → Int) (n2 : Nat) (g : Nat → Int) : Option Int := if natOk n f && natOk n2 g then fitQ (val f n + val g n2) else none

set_option maxHeartbeats 800000 in
theorem implNatAdd_any (a : Option Addr) (b off n cap : Nat) (f : Nat → Int) (a2 : Option Addr) (b2 off2 n2 cap2 : Nat) (g : Nat → Int) (w : World) (hs : Seg w a b off n f) (hs2 : Seg w a2 b2 off2 n2 g)
    (hn : n ≤ 1048576) (hn2 : n2 ≤ 1048576) :
    Calls Try.prog 8 #[.slice a n cap, .slice a2 n2 cap2] w fun e w' => GivesQ w (addQ n f n2 g) e w' := by
  cases hok : natOk n f with
  | false =>
    have Hv : Hid (addQ n f n2 g = none) := by show _ = _; simp [addQ, hok]
    go_enter Try.func8, Try.ntmps8
    go_wp2_with fail
    refine (implNatOk_any a b off n cap f _ hs hn).mono ?_
    rintro e w' ⟨rfl, hw⟩
    obtain rfl := hw.symm
    rw [hok]
    clear hok
    go_wp2
    go_ret2
    exact GivesQ.none Hv.out rfl ((Below.refl _ _).alloc (Nat.le_refl _) _)
  | true =>
    cases hok2 : natOk n2 g with
    | false =>
      have Hv : Hid (addQ n f n2 g = none) := by show _ = _; simp [addQ, hok2]
      go_enter Try.func8, Try.ntmps8
      go_wp2_with fail
      refine (implNatOk_any a b off n cap f _ hs hn).mono ?_
      rintro e w' ⟨rfl, hw⟩
      obtain rfl := hw.symm
      rw [hok]
      clear hok
      go_wp2_with fail
      refine (implNatOk_any a2 b2 off2 n2 cap2 g _ hs2 hn2).mono ?_
      rintro e w' ⟨rfl, hw⟩
      obtain rfl := hw.symm
      rw [hok2]
      clear hok2
      go_wp2
      go_ret2
      exact GivesQ.none Hv.out rfl ((Below.refl _ _).alloc (Nat.le_refl _) _)
    | true =>
      have c1 : Canon n f := ⟨((natOk_iff n f).1 hok).1, ((natOk_iff n f).1 hok).2.2⟩
      have c2 : Canon n2 g := ⟨((natOk_iff n2 g).1 hok2).1, ((natOk_iff n2 g).1 hok2).2.2⟩
      have l1 : n ≤ 64 := ((natOk_iff n f).1 hok).2.1
      have l2 : n2 ≤ 64 := ((natOk_iff n2 g).1 hok2).2.1
      have Hv : Hid (addQ n f n2 g = fitQ (val f n + val g n2)) := by show _ = _; simp [addQ, hok, hok2]
      go_enter Try.func8, Try.ntmps8
      go_wp2_with fail
      refine (implNatOk_any a b off n cap f _ hs hn).mono ?_
      rintro e w' ⟨rfl, hw⟩
      obtain rfl := hw.symm
      rw [hok]
      clear hok
      go_wp2_with fail
      refine (implNatOk_any a2 b2 off2 n2 cap2 g _ hs2 hn2).mono ?_
      rintro e w' ⟨rfl, hw⟩
      obtain rfl := hw.symm
      rw [hok2]
      clear hok2
      by_cases hm : n2 ≤ n
      · have hm' : (n2 : Int) ≤ (n : Int) := by omega
        go_wp2_with fail
        refine (digitsCopy_int a b off n cap f (n + 1) _ _ (by omega) hs (by omega) (by omega)).mono ?_
        rintro e w1 ⟨rfl, hO1, hB1⟩
        have D1 : Digs (ext n f) (n + 1) := ext_digs c1.digs (n + 1)
        go_wp2_with fail
        refine (addDigits_any _ w.heap.size 0 (n + 1) _ (ext n f) a2 b2 off2 n2 cap2 g _ hO1 (hs2.of_all hB1) (by omega) (by omega) D1 c2.digs (fun h => by have := hs2.lt h; omega)).mono ?_
        rintro e w2 ⟨rfl, hO2, hT2⟩
        have hB2 := below_touch hB1 hT2.toTouch (Nat.le_refl _)
        clear hO1 hT2 hB1
        have HV : Hid (val (addD (ext (n + 1) (ext n f)) (ext n2 g)) (n + 1) = val f n + val g n2) := sum_val c1.digs c2.digs (by omega) (by omega)
        generalize hs' : addD (ext (n + 1) (ext n f)) (ext n2 g) = s at *
        have hsd : Digs s (n + 1) := by rw [← hs']; exact fun i _ => addD_bd _ _ i
        clear hs'
        go_wp2_with fail
        refine (withoutNoughts_any _ w.heap.size 0 (n + 1) _ s _ hO2.toSeg (by omega) (by omega) (by omega)).mono ?_
        rintro e w3 ⟨m, rfl, hmn, hz, hl, hw⟩
        obtain rfl := hw.symm
        have HW : Hid (val s m = val f n + val g n2) := (val_noughts hmn hz).trans HV.out
        go_wp2_with fail
        refine (withinMaxDigits_any w _ w.heap.size m _ s _ (hO2.cut hmn) (by omega) ⟨hsd.mono hmn, hl⟩ (Nat.le_refl _) hB2).mono ?_
        rintro e w4 hG
        rw [HW.out, ← Hv.out] at hG
        obtain ⟨a3, g3, cap3, n3, f3, ok3, rfl, hG⟩ := hG
        go_wp2
        go_ret2
        exact ⟨a3, g3, cap3, n3, f3, ok3, rfl, hG⟩
      · have hm' : (n : Int) < (n2 : Int) := by omega
        go_wp2_with fail
        refine (digitsCopy_int a b off n cap f (n2 + 1) _ _ (by omega) hs (by omega) (by omega)).mono ?_
        rintro e w1 ⟨rfl, hO1, hB1⟩
        have D1 : Digs (ext n f) (n2 + 1) := ext_digs c1.digs (n2 + 1)
        go_wp2_with fail
        refine (addDigits_any _ w.heap.size 0 (n2 + 1) _ (ext n f) a2 b2 off2 n2 cap2 g _ hO1 (hs2.of_all hB1) (by omega) (by omega) D1 c2.digs (fun h => by have := hs2.lt h; omega)).mono ?_
        rintro e w2 ⟨rfl, hO2, hT2⟩
        have hB2 := below_touch hB1 hT2.toTouch (Nat.le_refl _)
        clear hO1 hT2 hB1
        have HV : Hid (val (addD (ext (n2 + 1) (ext n f)) (ext n2 g)) (n2 + 1) = val f n + val g n2) := sum_val c1.digs c2.digs (by omega) (by omega)
        generalize hs' : addD (ext (n2 + 1) (ext n f)) (ext n2 g) = s at *
        have hsd : Digs s (n2 + 1) := by rw [← hs']; exact fun i _ => addD_bd _ _ i
        clear hs'
        go_wp2_with fail
        refine (withoutNoughts_any _ w.heap.size 0 (n2 + 1) _ s _ hO2.toSeg (by omega) (by omega) (by omega)).mono ?_
        rintro e w3 ⟨m, rfl, hmn, hz, hl, hw⟩
        obtain rfl := hw.symm
        have HW : Hid (val s m = val f n + val g n2) := (val_noughts hmn hz).trans HV.out
        go_wp2_with fail
        refine (withinMaxDigits_any w _ w.heap.size m _ s _ (hO2.cut hmn) (by omega) ⟨hsd.mono hmn, hl⟩ (Nat.le_refl _) hB2).mono ?_
        rintro e w4 hG
        rw [HW.out, ← Hv.out] at hG
        obtain ⟨a3, g3, cap3, n3, f3, ok3, rfl, hG⟩ := hG
        go_wp2
        go_ret2
        exact ⟨a3, g3, cap3, n3, f3, ok3, rfl, hG⟩

end Go.Proofs.Ytojgnbckikpgmaa
