/- Walks: the model's draws of words: l8DrawWord, DrawPuny. Written by mkdrw.py. -/
import Derived.Test.YtjpdllhhganbpaaGb
namespace Go.Proofs.Ytjpdllhhganbpaa
set_option linter.unusedVariables false
set_option linter.unusedSimpArgs false
open Go.RowKit

theorem seg_oneW (w : World) (x : Int) : Seg (w.alloc (.cells #[.int .i64 x] 3)) (some ⟨w.heap.size, 0, none⟩) w.heap.size 0 1 (fun _ => x) :=
  ⟨fun _ => rfl, fun i hi => by
    obtain rfl : i = 0 := by omega
    exact (Blk.alloc w [.int .i64 x] 3 0 _ rfl).1⟩

/-- A word is drawn. -/
def GivesWd (w : World) (C : Nat) (a : Option Addr) (n cap : Nat) (e : Ending) (w' : World) : Prop :=
  ∃ (sa : Option Addr) (sb so k sc : Nat) (F : Nat → Int), e = .returned (.slice sa k sc) ∧ k ≤ sc ∧ sc ≤ 9223372036854775807 ∧ k ≤ 21 ∧ Seg w' sa sb so k F ∧ (0 < k → w.heap.size ≤ sb) ∧ Cur w' C a n cap ∧ w.grownBy w' (some C)

set_option maxHeartbeats 3200000 in
set_option maxRecDepth 100000 in
theorem l8DrawWord_any (C : Nat) (a : Option Addr) (b off n cap : Nat) (f : Nat → Int) (w : World) (hC : Cur w C a n cap) (hK : Code w C a b off n f) (hn : n ≤ 1048576) (hCw : C < w.heap.size) :
    Calls Try.prog 28 #[.pointer (some ⟨C, 0, none⟩)] w fun e w' => GivesWd w C a n cap e w' := by
  have HK := hide hK
  have HC := hide hC
  have HG : Hid (w.grownBy w (some C)) := gb_refl w
  clear hC hK
  have HO : Hid ((w.alloc (.cells #[] 3)).ownsRow w.heap.size 3 1 (.slice (some ⟨w.heap.size, 0, none⟩) 0 0) 0 (ints (fun _ => 0) 0)) := World.ownsRow_made (base := w.heap.size) (e := 3) (size := 1) w #[] 0 (Nat.le_refl _) (by simp) rfl
  have E0 := Ext.alloc w (.cells #[] 3)
  replace HC := hide (HC.out.of_block (E0.block C (Nat.lt_of_lt_of_le hCw HG.out.size)))
  replace HG := hide (gb_later HG.out E0 HG.out.size)
  clear E0
  go_enter Try.func28, Try.ntmps28
  go_wp2_with fail
  refine (l1Below_any C a b off n cap f 8 _ HC.out (HK.out.grow HG.out) hn (by omega) (by omega)).mono ?_
  rintro e w5 ⟨r, rfl, r0, r1, hCx, Tx⟩
  replace HC := hide hCx
  replace HO := hide (owns_gb HO.out (gb_touch Tx) hCw)
  replace HG := hide (gb_trans HG.out (gb_touch Tx))
  clear hCx Tx
  go_wp2
  rename_i K hK
  have HKK := hide hK
  clear hK
  obtain ⟨F0, HO⟩ : ∃ F0 : Nat → Int, Hid (w5.ownsRow w.heap.size 3 1 (.slice (some ⟨w.heap.size, 0, none⟩) 0 0) 0 (ints F0 0)) := ⟨_, HO⟩
  go_loopw [3, 4] (fun v i wr => ∃ (k : Nat) (F : Nat → Int) (r : Int), i = .int .i64 r ∧ 0 ≤ r ∧ (k : Int) + r ≤ 8 ∧ wr.ownsRow w.heap.size 3 1 v k (ints F k) ∧ Cur wr C a n cap ∧ w.grownBy wr (some C)) (fun _ i _ => (intOf i).toNat)
  case atStart => exact ⟨0, F0, 1 + r, rfl, by omega, by omega, HO.out, HC.out, HG.out⟩
  case round =>
    clear HO HC HG
    obtain ⟨k, F, r, rfl, r0, r1, hO, hC, hG⟩ := hrel
    have HO := hide hO
    have HC := hide hC
    have HG := hide hG
    clear hO hC hG
    by_cases hr : 0 < r
    · skip
      go_wp2_with fail
      refine (l1Below_any C a b off n cap f 4 _ HC.out (HK.out.grow HG.out) hn (by omega) (by omega)).mono ?_
      rintro e w6 ⟨s, rfl, s0, s1, hCx, Tx⟩
      replace HC := hide hCx
      replace HO := hide (owns_gb HO.out (gb_touch Tx) hCw)
      replace HG := hide (gb_trans HG.out (gb_touch Tx))
      clear hCx Tx
      by_cases z0 : s = 0
      · have y0 : (s == 0) = true := by simp [z0]
        have Z := hide z0
        clear z0
        go_wp2_with fail
        refine (l1Below_any C a b off n cap f 20 _ HC.out (HK.out.grow HG.out) hn (by omega) (by omega)).mono ?_
        rintro e w7 ⟨u, rfl, u0, u1, hCx, Tx⟩
        replace HC := hide hCx
        replace HO := hide (owns_gb HO.out (gb_touch Tx) hCw)
        replace HG := hide (gb_trans HG.out (gb_touch Tx))
        clear hCx Tx
        have HX1 := hide (seg_oneW w7 (228 + u))
        have HO1 := hide (HO.out.alloc (.cells #[.int .i64 (228 + u)] 3))
        have Hz1 := hide HG.out.size
        go_wp2_with (at_builtin; refine wpList_append_is rfl _ _ rfl w.heap.size _ _ _ rfl HO1.out _ w7.heap.size 0 1 1 (fun _ => (228 + u)) rfl HX1.out (by omega) (by have := Hz1.out; simp; omega) ?_)
        intro v1 w8 h2 h3
        rw [intz_append] at h2
        replace HO := hide h2
        have E1 : Below w.heap.size w7 w8 := Below.trans ((Below.refl _ _).alloc Hz1.out _) h3
        replace HC := hide (HC.out.of_block (E1.block C hCw))
        replace HG := hide (gb_later HG.out E1 (Nat.le_refl _))
        clear h2 h3 E1 HX1 HO1
        go_wp2
        go_roundw
        case rel => exact ⟨k + 1, _, r - 1, rfl, by omega, by omega, HO.out, HC.out, HG.out⟩
        case measure => simp [intOf]; omega
      have y0 : (s == 0) = false := by simp; omega
      by_cases z1 : s = 1
      · have y1 : (s == 1) = true := by simp [z1]
        have Z := hide z1
        clear z1
        have E2 : Ext w6 (w6.alloc (.cells #[.int .i64 128, .int .i64 1114111, .int .i64 65536, .int .i64 12354, .int .i64 0, .int .i64 45, .int .i64 127] 3)) := Ext.alloc _ _
        have HS2 : Hid (Seg (w6.alloc (.cells #[.int .i64 128, .int .i64 1114111, .int .i64 65536, .int .i64 12354, .int .i64 0, .int .i64 45, .int .i64 127] 3)) (some ⟨w6.heap.size, 0, none⟩) w6.heap.size 0 7 (fun i => ([128, 1114111, 65536, 12354, 0, 45, 127] : List Int).getD i 0)) := seg_list w6 [128, 1114111, 65536, 12354, 0, 45, 127]
        have hne2 : w6.heap.size ≠ C := by have := HG.out.size; omega
        obtain ⟨gg2, hgg2⟩ : ∃ gg : Nat → Int, (fun i => ([128, 1114111, 65536, 12354, 0, 45, 127] : List Int).getD i 0) = gg := ⟨_, rfl⟩
        rw [hgg2] at HS2
        clear hgg2
        replace HC := hide (HC.out.of_block (E2.block C (Nat.lt_of_lt_of_le hCw HG.out.size)))
        replace HG := hide (gb_later HG.out E2 HG.out.size)
        replace HO := hide (HO.out.alloc (.cells #[.int .i64 128, .int .i64 1114111, .int .i64 65536, .int .i64 12354, .int .i64 0, .int .i64 45, .int .i64 127] 3))
        clear E2
        go_wp2_with fail
        refine (l1PickInt_of C a b off n cap f _ w6.heap.size 0 7 _ _ _ HC.out (HK.out.grow HG.out) hn HS2.out (by decide) (by decide) hne2).mono ?_
        rintro e w7 ⟨j2, hj2, rfl, hCx, Tx⟩
        generalize gg2 j2 = z at *
        clear HS2 hne2
        replace HC := hide hCx
        replace HO := hide (owns_gb HO.out (gb_touch Tx) hCw)
        replace HG := hide (gb_trans HG.out (gb_touch Tx))
        clear hCx Tx
        have HX3 := hide (seg_oneW w7 z)
        have HO3 := hide (HO.out.alloc (.cells #[.int .i64 z] 3))
        have Hz3 := hide HG.out.size
        go_wp2_with (at_builtin; refine wpList_append_is rfl _ _ rfl w.heap.size _ _ _ rfl HO3.out _ w7.heap.size 0 1 1 (fun _ => z) rfl HX3.out (by omega) (by have := Hz3.out; simp; omega) ?_)
        intro v3 w8 h2 h3
        rw [intz_append] at h2
        replace HO := hide h2
        have E3 : Below w.heap.size w7 w8 := Below.trans ((Below.refl _ _).alloc Hz3.out _) h3
        replace HC := hide (HC.out.of_block (E3.block C hCw))
        replace HG := hide (gb_later HG.out E3 (Nat.le_refl _))
        clear h2 h3 E3 HX3 HO3
        go_wp2
        go_roundw
        case rel => exact ⟨k + 1, _, r - 1, rfl, by omega, by omega, HO.out, HC.out, HG.out⟩
        case measure => simp [intOf]; omega
      have y1 : (s == 1) = false := by simp; omega
      clear z0 z1
      go_wp2_with fail
      refine (l1Below_any C a b off n cap f 26 _ HC.out (HK.out.grow HG.out) hn (by omega) (by omega)).mono ?_
      rintro e w7 ⟨u, rfl, u0, u1, hCx, Tx⟩
      replace HC := hide hCx
      replace HO := hide (owns_gb HO.out (gb_touch Tx) hCw)
      replace HG := hide (gb_trans HG.out (gb_touch Tx))
      clear hCx Tx
      have HX4 := hide (seg_oneW w7 (97 + u))
      have HO4 := hide (HO.out.alloc (.cells #[.int .i64 (97 + u)] 3))
      have Hz4 := hide HG.out.size
      go_wp2_with (at_builtin; refine wpList_append_is rfl _ _ rfl w.heap.size _ _ _ rfl HO4.out _ w7.heap.size 0 1 1 (fun _ => (97 + u)) rfl HX4.out (by omega) (by have := Hz4.out; simp; omega) ?_)
      intro v4 w8 h2 h3
      rw [intz_append] at h2
      replace HO := hide h2
      have E4 : Below w.heap.size w7 w8 := Below.trans ((Below.refl _ _).alloc Hz4.out _) h3
      replace HC := hide (HC.out.of_block (E4.block C hCw))
      replace HG := hide (gb_later HG.out E4 (Nat.le_refl _))
      clear h2 h3 E4 HX4 HO4
      go_wp2
      go_roundw
      case rel => exact ⟨k + 1, _, r - 1, rfl, by omega, by omega, HO.out, HC.out, HG.out⟩
      case measure => simp [intOf]; omega
    · go_wp2
      apply HKK.out
      clear HKK
      go_wp2_with fail
      refine (l1Below_any C a b off n cap f 25 _ HC.out (HK.out.grow HG.out) hn (by omega) (by omega)).mono ?_
      rintro e w8 ⟨s, rfl, s0, s1, hCx, Tx⟩
      replace HC := hide hCx
      replace HO := hide (owns_gb HO.out (gb_touch Tx) hCw)
      replace HG := hide (gb_trans HG.out (gb_touch Tx))
      clear hCx Tx
      by_cases z0 : s = 0
      · have y0 : (s == 0) = true := by simp [z0]
        have Z := hide z0
        clear z0
        have E5 : Ext w8 (w8.alloc (.cells #[.int .i64 (-1), .int .i64 1114112] 3)) := Ext.alloc _ _
        have HS5 : Hid (Seg (w8.alloc (.cells #[.int .i64 (-1), .int .i64 1114112] 3)) (some ⟨w8.heap.size, 0, none⟩) w8.heap.size 0 2 (fun i => ([(-1), 1114112] : List Int).getD i 0)) := seg_list w8 [(-1), 1114112]
        have hne5 : w8.heap.size ≠ C := by have := HG.out.size; omega
        obtain ⟨gg5, hgg5⟩ : ∃ gg : Nat → Int, (fun i => ([(-1), 1114112] : List Int).getD i 0) = gg := ⟨_, rfl⟩
        rw [hgg5] at HS5
        clear hgg5
        replace HC := hide (HC.out.of_block (E5.block C (Nat.lt_of_lt_of_le hCw HG.out.size)))
        replace HG := hide (gb_later HG.out E5 HG.out.size)
        replace HO := hide (HO.out.alloc (.cells #[.int .i64 (-1), .int .i64 1114112] 3))
        clear E5
        go_wp2_with fail
        refine (l1PickInt_of C a b off n cap f _ w8.heap.size 0 2 _ _ _ HC.out (HK.out.grow HG.out) hn HS5.out (by decide) (by decide) hne5).mono ?_
        rintro e w9 ⟨j5, hj5, rfl, hCx, Tx⟩
        generalize gg5 j5 = z at *
        clear HS5 hne5
        replace HC := hide hCx
        replace HO := hide (owns_gb HO.out (gb_touch Tx) hCw)
        replace HG := hide (gb_trans HG.out (gb_touch Tx))
        clear hCx Tx
        have HX6 := hide (seg_oneW w9 z)
        have HO6 := hide (HO.out.alloc (.cells #[.int .i64 z] 3))
        have Hz6 := hide HG.out.size
        go_wp2_with (at_builtin; refine wpList_append_is rfl _ _ rfl w.heap.size _ _ _ rfl HO6.out _ w9.heap.size 0 1 1 (fun _ => z) rfl HX6.out (by omega) (by have := Hz6.out; simp; omega) ?_)
        intro v6 wa h2 h3
        rw [intz_append] at h2
        replace HO := hide h2
        have E6 : Below w.heap.size w9 wa := Below.trans ((Below.refl _ _).alloc Hz6.out _) h3
        replace HC := hide (HC.out.of_block (E6.block C hCw))
        replace HG := hide (gb_later HG.out E6 (Nat.le_refl _))
        clear h2 h3 E6 HX6 HO6
        obtain ⟨ya, yg, yc, rfl, hyg, hyn, hyc, hyO⟩ := iowns_seg HO.out
        have HY := hide hyO.toSeg
        clear hyO
        go_wp2
        go_ret
        exact ⟨_, yg, 0, _, _, _, rfl, hyn, hyc, by omega, HY.out, fun _ => hyg, HC.out, HG.out⟩
      have y0 : (s == 0) = false := by simp; omega
      by_cases z1 : s = 1
      · have y1 : (s == 1) = true := by simp [z1]
        have Z := hide z1
        clear z1
        go_wp2_with fail
        refine (l1Below_any C a b off n cap f 2 _ HC.out (HK.out.grow HG.out) hn (by omega) (by omega)).mono ?_
        rintro e w9 ⟨u, rfl, u0, u1, hCx, Tx⟩
        replace HC := hide hCx
        replace HO := hide (owns_gb HO.out (gb_touch Tx) hCw)
        replace HG := hide (gb_trans HG.out (gb_touch Tx))
        clear hCx Tx
        obtain ⟨N, hN⟩ : ∃ N : Nat, 20 + u = (N : Int) := ⟨(20 + u).toNat, by omega⟩
        have hmk := run_make_row' (P := Try.prog) 22 3 (.int .i64 0) 8 Try.underlying22 Try.info3 rfl .i64 .i64 N (by omega) (by omega)
        have n0 : 0 ≤ (N : Int) := by omega
        have n1 : (N : Int) ≤ 21 := by omega
        have E5 := Ext.alloc w9 (.cells (madeCells #[.int .i64 0] N) 3)
        have HY : Hid (Seg (w9.alloc (.cells (madeCells #[.int .i64 0] N) 3)) (some ⟨w9.heap.size, 0, none⟩) w9.heap.size 0 N (fun _ => 0)) := Seg.of_row (World.rowIs_made w9 (.int .i64 0) N 3) (Nat.le_refl _)
        have Hz := hide HG.out.size
        replace HC := hide (HC.out.of_block (E5.block C (Nat.lt_of_lt_of_le hCw HG.out.size)))
        replace HG := hide (gb_later HG.out E5 HG.out.size)
        clear E5
        go_wp2
        go_ret
        exact ⟨_, w9.heap.size, 0, _, _, _, rfl, by omega, by omega, by omega, HY.out, fun _ => Hz.out, HC.out, HG.out⟩
      have y1 : (s == 1) = false := by simp; omega
      by_cases z2 : s = 2
      · have y2 : (s == 2) = true := by simp [z2]
        have Z := hide z2
        clear z2
        go_wp2
        go_ret
        exact ⟨none, 0, 0, 0, 0, fun _ => 0, rfl, Nat.le_refl _, by omega, by omega, ⟨fun h => absurd h (Nat.lt_irrefl _), fun i hi => absurd hi (Nat.not_lt_zero _)⟩, fun h => absurd h (Nat.lt_irrefl _), HC.out, HG.out⟩
      have y2 : (s == 2) = false := by simp; omega
      clear z0 z1 z2
      obtain ⟨ya, yg, yc, rfl, hyg, hyn, hyc, hyO⟩ := iowns_seg HO.out
      have HY := hide hyO.toSeg
      clear hyO
      go_wp2
      go_ret
      exact ⟨_, yg, 0, _, _, _, rfl, hyn, hyc, by omega, HY.out, fun _ => hyg, HC.out, HG.out⟩

end Go.Proofs.Ytjpdllhhganbpaa
