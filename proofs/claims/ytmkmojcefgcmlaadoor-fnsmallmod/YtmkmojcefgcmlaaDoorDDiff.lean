/- Walk: the program's digitsDifference: what is left of one list of digits without another, in new memory. -/
import Derived.Test.YtmkmojcefgcmlaaDoorSubs
namespace Go.Proofs.YtmkmojcefgcmlaaDoor
set_option linter.unusedVariables false
open Go.RowKit

theorem canon_le {f g : Nat → Int} {n m : Nat} (hf : Canon n f) (hg : Canon m g) (h : val g m ≤ val f n) : m ≤ n := by
  by_cases e : m ≤ n
  · exact e
  · have := canon_lt hf.digs hg (by omega); omega

set_option maxHeartbeats 800000 in
theorem digitsDifference_any (a : Option Addr) (b off n cap : Nat) (f : Nat → Int) (a2 : Option Addr) (b2 off2 n2 cap2 : Nat) (g : Nat → Int) (w : World) (hs : Seg w a b off n f) (hs2 : Seg w a2 b2 off2 n2 g)
    (hn : n ≤ 4096) (hcl : n2 ≤ n) (hf : Digs f n) (hg : Digs g n2) (hle : val g n2 ≤ val f n) :
    Calls Tryd.prog 44 #[.slice a n cap, .slice a2 n2 cap2] w fun e w' => GivesVal w (val f n - val g n2) e w' := by
  go_enter Tryd.func44, Tryd.ntmps44
  go_wp2_with fail
  refine (digitsCopy_any a b off n cap f n _ hs (Nat.le_refl _) (by omega)).mono ?_
  rintro e w2 ⟨rfl, hO2, hB2⟩
  have D2 : Digs (ext n f) n := ext_digs hf n
  go_wp2_with fail
  refine (takeTimes_any _ w.heap.size 0 n _ (ext n f) a2 b2 off2 n2 cap2 g 1 _ hO2 (hs2.of_all hB2) (by omega) (by omega) D2 hg (fun h => by have := hs2.lt h; omega) (by omega) (by omega)).mono ?_
  rintro e w3 ⟨rfl, hO3, hT3⟩
  have hB3 := below_touch hB2 hT3.toTouch (Nat.le_refl _)
  clear hO2 hT3 hB2
  have HD := sub_done (t := 1) (n := n) (by omega) (ext_bd D2) (ext_bd hg) (by rw [val_ext hcl, val_ext (Nat.le_refl n), val_ext (Nat.le_refl n)]; omega)
  have HV : Hid (val (subD (ext n (ext n f)) (ext n2 g) 1) n = val f n - val g n2) := by
    show _ = _
    have := HD.2
    rw [val_ext hcl, val_ext (Nat.le_refl n), val_ext (Nat.le_refl n)] at this
    omega
  clear HD
  generalize subL (ext n (ext n f)) (ext n2 g) 1 n = lk
  generalize hs' : subD (ext n (ext n f)) (ext n2 g) 1 = s at *
  have hsd : Digs s n := by rw [← hs']; exact fun i _ => subD_bd _ _ _ i
  clear hs'
  go_wp2_with fail
  refine (withoutNoughts_any _ w.heap.size 0 n _ s _ hO3.toSeg (by omega) (by omega) (by omega)).mono ?_
  rintro e w4 ⟨m, rfl, hmn, hz, hl, hw⟩
  obtain rfl := hw.symm
  have HW : Hid (val s m = val f n - val g n2) := (val_noughts hmn hz).trans HV.out
  go_wp2
  go_ret
  exact ⟨w.heap.size, _, m, s, rfl, by omega, by omega, ⟨hsd.mono hmn, hl⟩, HW.out, Nat.le_refl _, hO3.cut hmn, hB3⟩

end Go.Proofs.YtmkmojcefgcmlaaDoor
