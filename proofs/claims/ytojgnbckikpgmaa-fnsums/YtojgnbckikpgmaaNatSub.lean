/- Walks: NatSub, the model's and the program's. -/
import Derived.Test.YtojgnbckikpgmaaSubs
import Derived.Test.YtojgnbckikpgmaaCmp
namespace Go.Proofs.Ytojgnbckikpgmaa
set_option linter.unusedVariables false
open Go.RowKit

/-- NatSub's answer. -/
def subQ (n : Nat) (f : Nat → Int) (n2 : Nat) (g : Nat → Int) : Option Int := if natOk n f && natOk n2 g && !decide (val f n < val g n2) then some (val f n - val g n2) else none

theorem canon_le {f g : Nat → Int} {n m : Nat} (hf : Canon n f) (hg : Canon m g) (h : val g m ≤ val f n) : m ≤ n := by
  by_cases e : m ≤ n
  · exact e
  · have := canon_lt hf.digs hg (by omega); omega

set_option maxHeartbeats 800000 in
theorem implNatSub_any (a : Option Addr) (b off n cap : Nat) (f : Nat → Int) (a2 : Option Addr) (b2 off2 n2 cap2 : Nat) (g : Nat → Int) (w : World) (hs : Seg w a b off n f) (hs2 : Seg w a2 b2 off2 n2 g)
    (hn : n ≤ 1048576) (hn2 : n2 ≤ 1048576) :
    Calls Try.prog 13 #[.slice a n cap, .slice a2 n2 cap2] w fun e w' => GivesQ w (subQ n f n2 g) e w' := by
  cases hok : natOk n f with
  | false =>
    have Hv : Hid (subQ n f n2 g = none) := by show _ = _; simp [subQ, hok]
    go_enter Try.func13, Try.ntmps13
    go_wp2_with fail
    refine (implNatOk_any a b off n cap f _ hs hn).mono ?_
    rintro e w' ⟨rfl, hw⟩
    obtain rfl := hw.symm
    rw [hok]
    clear hok
    go_wp2
    go_ret2
    exact GivesQ.none Hv.out rfl ((Below.refl _ _).alloc (Nat.le_refl _) _)
  | true =>
    cases hok2 : natOk n2 g with
    | false =>
      have Hv : Hid (subQ n f n2 g = none) := by show _ = _; simp [subQ, hok2]
      go_enter Try.func13, Try.ntmps13
      go_wp2_with fail
      refine (implNatOk_any a b off n cap f _ hs hn).mono ?_
      rintro e w' ⟨rfl, hw⟩
      obtain rfl := hw.symm
      rw [hok]
      clear hok
      go_wp2_with fail
      refine (implNatOk_any a2 b2 off2 n2 cap2 g _ hs2 hn2).mono ?_
      rintro e w' ⟨rfl, hw⟩
      obtain rfl := hw.symm
      rw [hok2]
      clear hok2
      go_wp2
      go_ret2
      exact GivesQ.none Hv.out rfl ((Below.refl _ _).alloc (Nat.le_refl _) _)
    | true =>
      have c1 : Canon n f := ⟨((natOk_iff n f).1 hok).1, ((natOk_iff n f).1 hok).2.2⟩
      have c2 : Canon n2 g := ⟨((natOk_iff n2 g).1 hok2).1, ((natOk_iff n2 g).1 hok2).2.2⟩
      have l1 : n ≤ 64 := ((natOk_iff n f).1 hok).2.1
      have l2 : n2 ≤ 64 := ((natOk_iff n2 g).1 hok2).2.1
      by_cases hlt : val f n < val g n2
      · have Hv : Hid (subQ n f n2 g = none) := by show _ = _; simp [subQ, hlt]
        go_enter Try.func13, Try.ntmps13
        go_wp2_with fail
        refine (implNatOk_any a b off n cap f _ hs hn).mono ?_
        rintro e w' ⟨rfl, hw⟩
        obtain rfl := hw.symm
        rw [hok]
        clear hok
        go_wp2_with fail
        refine (implNatOk_any a2 b2 off2 n2 cap2 g _ hs2 hn2).mono ?_
        rintro e w' ⟨rfl, hw⟩
        obtain rfl := hw.symm
        rw [hok2]
        clear hok2
        go_wp2_with fail
        refine (compareDigits_any a b off n cap f a2 b2 off2 n2 cap2 g _ hs hs2 hn hn2 c1 c2).mono ?_
        rintro e w1 ⟨rfl, hQ⟩
        rw [cmpV_lt hlt]
        have B1 := hQ.below w.heap.size
        clear hlt hQ
        go_wp2
        go_ret2
        exact GivesQ.none Hv.out rfl (B1.alloc B1.size _)
      · have Hv : Hid (subQ n f n2 g = some (val f n - val g n2)) := by show _ = _; simp [subQ, hok, hok2]; omega
        have hle : val g n2 ≤ val f n := by omega
        have hcl := canon_le c1 c2 hle
        have h0 : ¬ cmpV (val f n) (val g n2) < 0 := by simp only [cmpV, if_neg hlt]; split <;> omega
        go_enter Try.func13, Try.ntmps13
        go_wp2_with fail
        refine (implNatOk_any a b off n cap f _ hs hn).mono ?_
        rintro e w' ⟨rfl, hw⟩
        obtain rfl := hw.symm
        rw [hok]
        clear hok
        go_wp2_with fail
        refine (implNatOk_any a2 b2 off2 n2 cap2 g _ hs2 hn2).mono ?_
        rintro e w' ⟨rfl, hw⟩
        obtain rfl := hw.symm
        rw [hok2]
        clear hok2
        go_wp2_with fail
        refine (compareDigits_any a b off n cap f a2 b2 off2 n2 cap2 g _ hs hs2 hn hn2 c1 c2).mono ?_
        rintro e w1 ⟨rfl, hQ⟩
        have B1 := hQ.below w.heap.size
        have s1 := hs.of_all B1
        have t1 := hs2.of_all B1
        generalize cmpV (val f n) (val g n2) = cc at *
        clear hlt hQ
        go_wp2_with fail
        refine (digitsCopy_any a b off n cap f n _ s1 (Nat.le_refl _) (by omega)).mono ?_
        rintro e w2 ⟨rfl, hO2, hB2⟩
        have D2 : Digs (ext n f) n := ext_digs c1.digs n
        go_wp2_with fail
        refine (takeTimes_any _ w1.heap.size 0 n _ (ext n f) a2 b2 off2 n2 cap2 g 1 _ hO2 (t1.of_all hB2) (by omega) (by omega) D2 c2.digs (fun h => by have := t1.lt h; omega) (by omega) (by omega)).mono ?_
        rintro e w3 ⟨rfl, hO3, hT3⟩
        have hB3 := below_touch hB2 hT3.toTouch (Nat.le_refl _)
        clear hO2 hT3 hB2
        have HD := sub_done (t := 1) (n := n) (by omega) (ext_bd D2) (ext_bd c2.digs) (by rw [val_ext hcl, val_ext (Nat.le_refl n), val_ext (Nat.le_refl n)]; omega)
        have HV : Hid (val (subD (ext n (ext n f)) (ext n2 g) 1) n = val f n - val g n2) := by
          show _ = _
          have := HD.2
          rw [val_ext hcl, val_ext (Nat.le_refl n), val_ext (Nat.le_refl n)] at this
          omega
        clear HD
        generalize subL (ext n (ext n f)) (ext n2 g) 1 n = lk
        generalize hs' : subD (ext n (ext n f)) (ext n2 g) 1 = s at *
        have hsd : Digs s n := by rw [← hs']; exact fun i _ => subD_bd _ _ _ i
        clear hs'
        go_wp2_with fail
        refine (withoutNoughts_any _ w1.heap.size 0 n _ s _ hO3.toSeg (by omega) (by omega) (by omega)).mono ?_
        rintro e w4 ⟨m, rfl, hmn, hz, hl, hw⟩
        obtain rfl := hw.symm
        have HW : Hid (val s m = val f n - val g n2) := (val_noughts hmn hz).trans HV.out
        have B3 := B1.trans (hB3.mono B1.size)
        go_wp2
        go_ret2
        refine ⟨_, w1.heap.size, _, m, s, true, rfl, by omega, ?_, B1.size, hO3.cut hmn, B3⟩
        rw [Hv.out]
        exact ⟨⟨hsd.mono hmn, hl⟩, HW.out, rfl⟩

end Go.Proofs.Ytojgnbckikpgmaa
