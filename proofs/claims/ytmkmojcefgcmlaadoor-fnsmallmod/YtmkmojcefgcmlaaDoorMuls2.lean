/- Walk: the program's digitsProduct. -/
import Derived.Test.YtmkmojcefgcmlaaDoorMuls
namespace Go.Proofs.YtmkmojcefgcmlaaDoor
set_option linter.unusedVariables false
open Go.RowKit

theorem inner_close {w wr : World} {f g : Nat → Int} {n n2 i : Nat} {c : Int} {h : Nat → Int} (hI : Inner w wr f g n n2 i n2 c h) (hi : i < n) : Outer w (wr.setCell ⟨w.heap.size, i + n2, none⟩ (.int .i64 c)) f g n n2 (i + 1) (upd h (i + n2) c) := by
  have hkN : i + n2 < n + n2 := by omega
  have hz : h (i + n2) = 0 := hI.high _ (by omega) hkN (by omega)
  refine ⟨hI.own.set0 hkN _, upd_digs hI.digs hI.c0 hI.c1, ?_, hI.below.setCell (Nat.le_refl _) _⟩
  rw [val_upd hkN, hz]
  have := hI.val
  rw [val_ext (Nat.le_refl _)] at this
  simp only [Proofs.YtmkmojcefgcmlaaDoor.val]
  grind

set_option maxHeartbeats 1600000 in
theorem digitsProduct_any (a : Option Addr) (b off n cap : Nat) (f : Nat → Int) (a2 : Option Addr) (b2 off2 n2 cap2 : Nat) (g : Nat → Int) (w : World) (hs : Seg w a b off n f) (hs2 : Seg w a2 b2 off2 n2 g)
    (hn : n ≤ 4096) (hn2 : n2 ≤ 4096) (hf : Digs f n) (hg : Digs g n2) :
    Calls Tryd.prog 40 #[.slice a n cap, .slice a2 n2 cap2] w fun e w' => GivesVal w (val f n * val g n2) e w' := by
  have hmk := run_make_row' (P := Tryd.prog) 27 3 (.int .i64 0) 8 Tryd.underlying27 Tryd.info3 rfl .i64 .i64 (n + n2) (by omega) (by omega)
  have ec : ((n + n2 : Nat) : Int) = (n : Int) + (n2 : Int) := by omega
  rw [ec] at hmk
  go_enter Tryd.func40, Tryd.ntmps40
  go_wp2
  clear hmk ec
  go_loopw [19] (fun s wr => ∃ (i : Nat) (h : Nat → Int), i ≤ n ∧ s = .int .i64 i ∧ Outer w wr f g n n2 i h) (fun s _ => n - (intOf s).toNat)
  case atStart => exact ⟨0, _, by omega, rfl, outer_start⟩
  case round =>
    obtain ⟨i, h, hin, rfl, hO⟩ := hrel
    by_cases hlt : i < n
    · obtain rfl := hs.at' (by omega)
      have hI := inner_start hO hlt hf hg
      have hi' : (i : Int) < (n : Int) := by omega
      have hca := (hs.of_all hO.below).cell i hlt
      clear hO
      go_wp2
      go_loopw [8, 26] (fun sc sk wi => ∃ (k : Nat) (c : Int) (h : Nat → Int), k ≤ n2 ∧ sk = .int .i64 k ∧ sc = .int .i64 c ∧ Inner w wi f g n n2 i k c h) (fun _ sk _ => n2 + 1 - (intOf sk).toNat)
      case atStart => exact ⟨0, 0, h, by omega, rfl, rfl, hI⟩
      case round =>
        clear hI hca
        obtain ⟨k, c, h, hk2, rfl, rfl, hI⟩ := hrel
        by_cases hk : k < n2
        · obtain rfl := hs2.at' (by omega)
          have hkN : i + k < n + n2 := by omega
          have hkN' : (i : Int) + (k : Int) < (n : Int) + (n2 : Int) := by omega
          have hkk : (k : Int) < (n2 : Int) := by omega
          obtain ⟨hc1, hz1⟩ := hI.own.cell0 hkN
          have hc2 := (hs2.of_all hI.below).cell k hk
          obtain ⟨d0, d1⟩ := hf i hlt
          obtain ⟨y0, y1⟩ := hg k hk
          obtain ⟨e0, e1⟩ := hI.digs _ hkN
          have c0 := hI.c0
          have c1 := hI.c1
          obtain ⟨x0, x1⟩ := carry_bd e0 e1 d0 d1 y0 y1 c0 c1
          obtain ⟨p0, p1⟩ := prod_bd d0 d1 y0 y1
          have hN := inner_step (x := c + (h (i + k) + f i * g k)) hI hlt hk2 (by rw [ext_in hk]; omega) (by omega) (by omega)
          rw [← and_top] at hN
          clear hI
          go_wp2
          go_roundw
          case rel => exact ⟨k + 1, _, _, by omega, by go_num, rfl, hN⟩
          case measure => simp [intOf]; omega
        · obtain rfl : k = n2 := by omega
          have hkN : i + k < n + k := by omega
          have hkN' : (i : Int) + (k : Int) < (n : Int) + (k : Int) := by omega
          obtain ⟨hc1, hz1⟩ := hI.own.cell0 hkN
          have hN := inner_close hI hlt
          clear hI
          go_wp2
          go_roundw
          case rel => exact ⟨i + 1, _, by omega, by go_num, hN⟩
          case measure => simp [intOf]; omega
    · obtain rfl : i = n := by omega
      have hb := hO.below
      have HV : Hid (val h (i + n2) = val f i * val g n2) := hO.val
      have hd := hO.digs
      have hO2 := hO.own
      clear hO
      go_wp2_with fail
      refine (withoutNoughts_any _ w.heap.size 0 (i + n2) _ h _ hO2.toSeg (by omega) (by omega) (by omega)).mono ?_
      rintro e w' ⟨m, rfl, hmn, hz, hl, hw⟩
      obtain rfl := hw.symm
      have HW : Hid (val h m = val f i * val g n2) := (val_noughts hmn hz).trans HV.out
      go_wp2
      go_ret
      exact ⟨w.heap.size, m, m, h, rfl, by omega, Nat.le_refl _, ⟨hd.mono hmn, hl⟩, HW.out, Nat.le_refl _, hO2.cut hmn, hb⟩

end Go.Proofs.YtmkmojcefgcmlaaDoor
