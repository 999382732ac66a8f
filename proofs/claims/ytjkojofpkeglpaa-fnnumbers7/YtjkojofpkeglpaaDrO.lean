/- Walks: the model's draws of numbers and identifiers: l7DrawInt, l7DrawOid. Written by mkdro.py. -/
import Derived.Test.YtjkojofpkeglpaaOidS
import Derived.Test.YtjkojofpkeglpaaGb
namespace Go.Proofs.Ytjkojofpkeglpaa
set_option linter.unusedVariables false
set_option linter.unusedSimpArgs false
open Go.RowKit

theorem pick_range : ∀ j, j < 12 → -9223372036854775808 ≤ ([0, 127, 128, (-128), (-129), 255, 256, 32767, 32768, (-32769), 9223372036854775807, (-9223372036854775808)] : List Int).getD j 0 ∧ ([0, 127, 128, (-128), (-129), 255, 256, 32767, 32768, (-32769), 9223372036854775807, (-9223372036854775808)] : List Int).getD j 0 ≤ 9223372036854775807 := by
  decide

/-- A number is drawn. -/
def GivesZ (w : World) (C : Nat) (a : Option Addr) (n cap : Nat) (e : Ending) (w' : World) : Prop :=
  ∃ x, e = .returned (.int .i64 x) ∧ -9223372036854775808 ≤ x ∧ x ≤ 9223372036854775807 ∧ Cur w' C a n cap ∧ w.grownBy w' (some C)

set_option maxHeartbeats 3200000 in
set_option maxRecDepth 100000 in
theorem l7DrawInt_any (C : Nat) (a : Option Addr) (b off n cap : Nat) (f : Nat → Int) (w : World) (hC : Cur w C a n cap) (hK : Code w C a b off n f) (hn : n ≤ 1048576) (hCw : C < w.heap.size) :
    Calls Try.prog 44 #[.pointer (some ⟨C, 0, none⟩)] w fun e w' => GivesZ w C a n cap e w' := by
  have HK := hide hK
  have HC := hide hC
  have HG : Hid (w.grownBy w (some C)) := gb_refl w
  clear hC hK
  go_enter Try.func44, Try.ntmps44
  go_wp2_with fail
  refine (l1Once_any C a b off n cap f 3 _ HC.out (HK.out.grow HG.out) hn (by omega) (by omega)).mono ?_
  rintro e w1 ⟨t, rfl, hCx, Tx⟩
  replace HC := hide hCx
  replace HG := hide (gb_trans HG.out (gb_touch Tx))
  clear hCx Tx
  cases t
  · skip
    go_wp2_with fail
    refine (l1Below_any C a b off n cap f 60000 _ HC.out (HK.out.grow HG.out) hn (by omega) (by omega)).mono ?_
    rintro e w2 ⟨x, rfl, x0, x1, hCx, Tx⟩
    replace HC := hide hCx
    replace HG := hide (gb_trans HG.out (gb_touch Tx))
    clear hCx Tx
    go_wp2_with fail
    refine (l1Below_any C a b off n cap f 60000 _ HC.out (HK.out.grow HG.out) hn (by omega) (by omega)).mono ?_
    rintro e w3 ⟨y, rfl, y0, y1, hCx, Tx⟩
    replace HC := hide hCx
    replace HG := hide (gb_trans HG.out (gb_touch Tx))
    clear hCx Tx
    have p0 : -1800000000 ≤ (x - 30000) * y := by
      have h1 : -30000 * y ≤ (x - 30000) * y := Int.mul_le_mul_of_nonneg_right (by omega) y0
      have h2 : y ≤ 59999 := by omega
      omega
    have p1 : (x - 30000) * y ≤ 1800000000 := by
      have h1 : (x - 30000) * y ≤ 30000 * y := Int.mul_le_mul_of_nonneg_right (by omega) y0
      omega
    go_wp2
    go_ret
    exact ⟨_, rfl, by omega, by omega, HC.out, HG.out⟩
  · skip
    have E1 : Ext w1 (w1.alloc (.cells #[.int .i64 0, .int .i64 127, .int .i64 128, .int .i64 (-128), .int .i64 (-129), .int .i64 255, .int .i64 256, .int .i64 32767, .int .i64 32768, .int .i64 (-32769), .int .i64 9223372036854775807, .int .i64 (-9223372036854775808)] 3)) := Ext.alloc _ _
    have HS1 : Hid (Seg (w1.alloc (.cells #[.int .i64 0, .int .i64 127, .int .i64 128, .int .i64 (-128), .int .i64 (-129), .int .i64 255, .int .i64 256, .int .i64 32767, .int .i64 32768, .int .i64 (-32769), .int .i64 9223372036854775807, .int .i64 (-9223372036854775808)] 3)) (some ⟨w1.heap.size, 0, none⟩) w1.heap.size 0 12 (fun i => ([0, 127, 128, (-128), (-129), 255, 256, 32767, 32768, (-32769), 9223372036854775807, (-9223372036854775808)] : List Int).getD i 0)) := seg_list w1 [0, 127, 128, (-128), (-129), 255, 256, 32767, 32768, (-32769), 9223372036854775807, (-9223372036854775808)]
    have hne1 : w1.heap.size ≠ C := by have := HG.out.size; omega
    obtain ⟨gg1, hgg1⟩ : ∃ gg : Nat → Int, (fun i => ([0, 127, 128, (-128), (-129), 255, 256, 32767, 32768, (-32769), 9223372036854775807, (-9223372036854775808)] : List Int).getD i 0) = gg := ⟨_, rfl⟩
    rw [hgg1] at HS1
    have hrr1 : ∀ j, j < 12 → -9223372036854775808 ≤ gg1 j ∧ gg1 j ≤ 9223372036854775807 := by rw [← hgg1]; exact pick_range
    clear hgg1
    replace HC := hide (HC.out.of_block (E1.block C (Nat.lt_of_lt_of_le hCw HG.out.size)))
    replace HG := hide (gb_later HG.out E1 HG.out.size)
    clear E1
    go_wp2_with fail
    refine (l1PickInt_of C a b off n cap f _ w1.heap.size 0 12 _ _ _ HC.out (HK.out.grow HG.out) hn HS1.out (by decide) (by decide) hne1).mono ?_
    rintro e w2 ⟨j1, hj1, rfl, hCx, Tx⟩
    have hr1 := hrr1 j1 hj1
    clear hrr1
    generalize gg1 j1 = x at *
    clear HS1 hne1
    replace HC := hide hCx
    replace HG := hide (gb_trans HG.out (gb_touch Tx))
    clear hCx Tx
    go_wp2
    go_ret
    exact ⟨_, rfl, by omega, by omega, HC.out, HG.out⟩

theorem own_of_owns2 {w : World} {base g n cap : Nat} {F : Nat → Int} (h : w.ownsRow base 3 1 (.slice (some ⟨g, 0, none⟩) n cap) n (ints F n)) : Seg w (some ⟨g, 0, none⟩) g 0 n F :=
  ⟨fun _ => rfl, fun i hi => by rw [Nat.zero_add]; exact iowns_cell h i hi⟩

/-- A list of numbers is drawn. -/
def GivesL (w : World) (C : Nat) (a : Option Addr) (n cap : Nat) (e : Ending) (w' : World) : Prop :=
  ∃ (sa : Option Addr) (sb so k sc : Nat) (F : Nat → Int), e = .returned (.slice sa k sc) ∧ k ≤ sc ∧ sc ≤ 9223372036854775807 ∧ k ≤ 20 ∧ Seg w' sa sb so k F ∧ (0 < k → w.heap.size ≤ sb) ∧ Cur w' C a n cap ∧ w.grownBy w' (some C)

set_option maxHeartbeats 3200000 in
set_option maxRecDepth 100000 in
theorem l7DrawOid_any (C : Nat) (a : Option Addr) (b off n cap : Nat) (f : Nat → Int) (w : World) (hC : Cur w C a n cap) (hK : Code w C a b off n f) (hn : n ≤ 1048576) (hCw : C < w.heap.size) :
    Calls Try.prog 46 #[.pointer (some ⟨C, 0, none⟩)] w fun e w' => GivesL w C a n cap e w' := by
  have HK := hide hK
  have HC := hide hC
  have HG : Hid (w.grownBy w (some C)) := gb_refl w
  clear hC hK
  go_enter Try.func46, Try.ntmps46
  go_wp2_with fail
  refine (l1Below_any C a b off n cap f 3 _ HC.out (HK.out.grow HG.out) hn (by omega) (by omega)).mono ?_
  rintro e w1 ⟨x, rfl, x0, x1, hCx, Tx⟩
  replace HC := hide hCx
  replace HG := hide (gb_trans HG.out (gb_touch Tx))
  clear hCx Tx
  go_wp2_with fail
  refine (l1Below_any C a b off n cap f 40 _ HC.out (HK.out.grow HG.out) hn (by omega) (by omega)).mono ?_
  rintro e w2 ⟨y, rfl, y0, y1, hCx, Tx⟩
  replace HC := hide hCx
  replace HG := hide (gb_trans HG.out (gb_touch Tx))
  clear hCx Tx
  have HO : Hid ((w2.alloc (.cells #[.int .i64 x, .int .i64 y] 3)).ownsRow w.heap.size 3 1 (.slice (some ⟨w2.heap.size, 0, none⟩) 2 2) 2 (ints (fun i => if i = 0 then x else y) 2)) := World.ownsRow_lit (e := 3) (size := 1) (base := w.heap.size) w2 #[.int .i64 x, .int .i64 y] 2 HG.out.size (by decide) rfl
  have hcl : (w2.alloc (.cells #[.int .i64 x, .int .i64 y] 3)).cell? ⟨w2.heap.size, 0, none⟩ = some (.int .i64 x) := (Blk.alloc w2 [.int .i64 x, .int .i64 y] 3 0 _ rfl).1
  have E0 := Ext.alloc w2 (.cells #[.int .i64 x, .int .i64 y] 3)
  replace HC := hide (HC.out.of_block (E0.block C (Nat.lt_of_lt_of_le hCw HG.out.size)))
  have Hw2 := hide HG.out.size
  replace HG := hide (gb_later HG.out E0 HG.out.size)
  clear E0
  by_cases zx : x = 2
  · have y2 : (x == 2) = true := by simp [zx]
    have ZX := hide zx
    clear zx
    go_wp2_with fail
    refine (l1Once_any C a b off n cap f 3 _ HC.out (HK.out.grow HG.out) hn (by omega) (by omega)).mono ?_
    rintro e w3 ⟨t, rfl, hCx, Tx⟩
    replace HC := hide hCx
    replace HO := hide (owns_gb HO.out (gb_touch Tx) hCw)
    replace HG := hide (gb_trans HG.out (gb_touch Tx))
    clear hCx Tx
    cases t
    · clear hcl
      go_wp2_with fail
      refine (l1Below_any C a b off n cap f 6 _ HC.out (HK.out.grow HG.out) hn (by omega) (by omega)).mono ?_
      rintro e w5 ⟨r, rfl, r0, r1, hCx, Tx⟩
      replace HC := hide hCx
      replace HO := hide (owns_gb HO.out (gb_touch Tx) hCw)
      replace HG := hide (gb_trans HG.out (gb_touch Tx))
      clear hCx Tx
      go_wp2
      rename_i K hK
      have HKK := hide hK
      clear hK
      obtain ⟨F0, HO⟩ : ∃ F0 : Nat → Int, Hid (w5.ownsRow w.heap.size 3 1 (.slice (some ⟨w2.heap.size, 0, none⟩) 2 2) 2 (ints F0 2)) := ⟨_, HO⟩
      go_loopw [3, 4] (fun v i wr => ∃ (k : Nat) (F : Nat → Int) (r : Int), i = .int .i64 r ∧ 0 ≤ r ∧ 2 ≤ k ∧ (k : Int) + r ≤ 7 ∧ wr.ownsRow w.heap.size 3 1 v k (ints F k) ∧ Cur wr C a n cap ∧ w.grownBy wr (some C)) (fun _ i _ => (intOf i).toNat)
      case atStart => exact ⟨2, F0, r, rfl, r0, by omega, by omega, HO.out, HC.out, HG.out⟩
      case round =>
        clear HO HC HG
        obtain ⟨k, F, r, rfl, r0, k2, r1, hO, hC, hG⟩ := hrel
        have HO := hide hO
        have HC := hide hC
        have HG := hide hG
        clear hO hC hG
        by_cases hr : 0 < r
        · skip
          have E2 : Ext wr (wr.alloc (.cells #[.int .i64 0, .int .i64 1, .int .i64 127, .int .i64 128, .int .i64 840, .int .i64 113549, .int .i64 16383, .int .i64 16384, .int .i64 1000000000] 3)) := Ext.alloc _ _
          have HS2 : Hid (Seg (wr.alloc (.cells #[.int .i64 0, .int .i64 1, .int .i64 127, .int .i64 128, .int .i64 840, .int .i64 113549, .int .i64 16383, .int .i64 16384, .int .i64 1000000000] 3)) (some ⟨wr.heap.size, 0, none⟩) wr.heap.size 0 9 (fun i => ([0, 1, 127, 128, 840, 113549, 16383, 16384, 1000000000] : List Int).getD i 0)) := seg_list wr [0, 1, 127, 128, 840, 113549, 16383, 16384, 1000000000]
          have hne2 : wr.heap.size ≠ C := by have := HG.out.size; omega
          obtain ⟨gg2, hgg2⟩ : ∃ gg : Nat → Int, (fun i => ([0, 1, 127, 128, 840, 113549, 16383, 16384, 1000000000] : List Int).getD i 0) = gg := ⟨_, rfl⟩
          rw [hgg2] at HS2
          clear hgg2
          replace HC := hide (HC.out.of_block (E2.block C (Nat.lt_of_lt_of_le hCw HG.out.size)))
          replace HG := hide (gb_later HG.out E2 HG.out.size)
          replace HO := hide (HO.out.alloc (.cells #[.int .i64 0, .int .i64 1, .int .i64 127, .int .i64 128, .int .i64 840, .int .i64 113549, .int .i64 16383, .int .i64 16384, .int .i64 1000000000] 3))
          clear E2
          go_wp2_with fail
          refine (l1PickInt_of C a b off n cap f _ wr.heap.size 0 9 _ _ _ HC.out (HK.out.grow HG.out) hn HS2.out (by decide) (by decide) hne2).mono ?_
          rintro e w6 ⟨j2, hj2, rfl, hCx, Tx⟩
          generalize gg2 j2 = z at *
          clear HS2 hne2
          replace HC := hide hCx
          replace HO := hide (owns_gb HO.out (gb_touch Tx) hCw)
          replace HG := hide (gb_trans HG.out (gb_touch Tx))
          clear hCx Tx
          have HX3 := hide (seg_one w6 z)
          have HO3 := hide (HO.out.alloc (.cells #[.int .i64 z] 3))
          have Hz3 := hide HG.out.size
          go_wp2_with (at_builtin; refine wpList_append_is rfl _ _ rfl w.heap.size _ _ _ rfl HO3.out _ w6.heap.size 0 1 1 (fun _ => z) rfl HX3.out (by omega) (by have := Hz3.out; simp; omega) ?_)
          intro v3 w7 h2 h3
          rw [intz_append] at h2
          replace HO := hide h2
          have E3 : Below w.heap.size w6 w7 := Below.trans ((Below.refl _ _).alloc Hz3.out _) h3
          replace HC := hide (HC.out.of_block (E3.block C hCw))
          replace HG := hide (gb_later HG.out E3 (Nat.le_refl _))
          clear h2 h3 E3 HX3 HO3
          go_wp2
          go_roundw
          case rel => exact ⟨k + 1, _, r - 1, rfl, by omega, by omega, by omega, HO.out, HC.out, HG.out⟩
          case measure => simp [intOf]; omega
        · go_wp2
          apply HKK.out
          clear HKK
          go_wp2_with fail
          refine (l1Below_any C a b off n cap f 25 _ HC.out (HK.out.grow HG.out) hn (by omega) (by omega)).mono ?_
          rintro e w8 ⟨s, rfl, s0, s1, hCx, Tx⟩
          replace HC := hide hCx
          replace HO := hide (owns_gb HO.out (gb_touch Tx) hCw)
          replace HG := hide (gb_trans HG.out (gb_touch Tx))
          clear hCx Tx
          by_cases z0 : s = 0
          · have y0 : (s == 0) = true := by simp [z0]
            have Z := hide z0
            clear z0
            have E4 : Ext w8 (w8.alloc (.cells #[.int .i64 (-1), .int .i64 1000000001] 3)) := Ext.alloc _ _
            have HS4 : Hid (Seg (w8.alloc (.cells #[.int .i64 (-1), .int .i64 1000000001] 3)) (some ⟨w8.heap.size, 0, none⟩) w8.heap.size 0 2 (fun i => ([(-1), 1000000001] : List Int).getD i 0)) := seg_list w8 [(-1), 1000000001]
            have hne4 : w8.heap.size ≠ C := by have := HG.out.size; omega
            obtain ⟨gg4, hgg4⟩ : ∃ gg : Nat → Int, (fun i => ([(-1), 1000000001] : List Int).getD i 0) = gg := ⟨_, rfl⟩
            rw [hgg4] at HS4
            clear hgg4
            replace HC := hide (HC.out.of_block (E4.block C (Nat.lt_of_lt_of_le hCw HG.out.size)))
            replace HG := hide (gb_later HG.out E4 HG.out.size)
            replace HO := hide (HO.out.alloc (.cells #[.int .i64 (-1), .int .i64 1000000001] 3))
            clear E4
            go_wp2_with fail
            refine (l1PickInt_of C a b off n cap f _ w8.heap.size 0 2 _ _ _ HC.out (HK.out.grow HG.out) hn HS4.out (by decide) (by decide) hne4).mono ?_
            rintro e w9 ⟨j4, hj4, rfl, hCx, Tx⟩
            generalize gg4 j4 = z at *
            clear HS4 hne4
            replace HC := hide hCx
            replace HO := hide (owns_gb HO.out (gb_touch Tx) hCw)
            replace HG := hide (gb_trans HG.out (gb_touch Tx))
            clear hCx Tx
            have HX5 := hide (seg_one w9 z)
            have HO5 := hide (HO.out.alloc (.cells #[.int .i64 z] 3))
            have Hz5 := hide HG.out.size
            go_wp2_with (at_builtin; refine wpList_append_is rfl _ _ rfl w.heap.size _ _ _ rfl HO5.out _ w9.heap.size 0 1 1 (fun _ => z) rfl HX5.out (by omega) (by have := Hz5.out; simp; omega) ?_)
            intro v5 wa h2 h3
            rw [intz_append] at h2
            replace HO := hide h2
            have E5 : Below w.heap.size w9 wa := Below.trans ((Below.refl _ _).alloc Hz5.out _) h3
            replace HC := hide (HC.out.of_block (E5.block C hCw))
            replace HG := hide (gb_later HG.out E5 (Nat.le_refl _))
            clear h2 h3 E5 HX5 HO5
            obtain ⟨ya, yg, yc, rfl, hyg, hyn, hyc, hyO⟩ := iowns_seg HO.out
            have HY := hide hyO.toSeg
            clear hyO
            go_wp2
            go_ret
            exact ⟨_, yg, 0, _, _, _, rfl, hyn, hyc, by omega, HY.out, fun _ => hyg, HC.out, HG.out⟩
          have y0 : (s == 0) = false := by simp; omega
          by_cases z1 : s = 1
          · have y1 : (s == 1) = true := by simp [z1]
            have Z := hide z1
            clear z1
            have E6 : Ext w8 (w8.alloc (.cells #[.int .i64 3, .int .i64 (-1)] 3)) := Ext.alloc _ _
            have HS6 : Hid (Seg (w8.alloc (.cells #[.int .i64 3, .int .i64 (-1)] 3)) (some ⟨w8.heap.size, 0, none⟩) w8.heap.size 0 2 (fun i => ([3, (-1)] : List Int).getD i 0)) := seg_list w8 [3, (-1)]
            have hne6 : w8.heap.size ≠ C := by have := HG.out.size; omega
            obtain ⟨gg6, hgg6⟩ : ∃ gg : Nat → Int, (fun i => ([3, (-1)] : List Int).getD i 0) = gg := ⟨_, rfl⟩
            rw [hgg6] at HS6
            clear hgg6
            replace HC := hide (HC.out.of_block (E6.block C (Nat.lt_of_lt_of_le hCw HG.out.size)))
            replace HG := hide (gb_later HG.out E6 HG.out.size)
            replace HO := hide (HO.out.alloc (.cells #[.int .i64 3, .int .i64 (-1)] 3))
            clear E6
            go_wp2_with fail
            refine (l1PickInt_of C a b off n cap f _ w8.heap.size 0 2 _ _ _ HC.out (HK.out.grow HG.out) hn HS6.out (by decide) (by decide) hne6).mono ?_
            rintro e w9 ⟨j6, hj6, rfl, hCx, Tx⟩
            generalize gg6 j6 = z at *
            clear HS6 hne6
            replace HC := hide hCx
            replace HO := hide (owns_gb HO.out (gb_touch Tx) hCw)
            replace HG := hide (gb_trans HG.out (gb_touch Tx))
            clear hCx Tx
            obtain ⟨ya, yg, yc, rfl, hyg, hyn, hyc, hyO⟩ := iowns_seg HO.out
            obtain rfl := hyO.at' (by omega)
            have hcl := iowns_cell HO.out 0 (by omega)
            have hfr := iowns_free HO.out 0
            have HO9 := hide (iowns_set HO.out 0 z)
            have E9 : Below w.heap.size w9 (w9.setCell ⟨yg, 0, none⟩ (.int .i64 z)) := (Below.refl _ _).setCell hyg _
            have HC9 := hide (HC.out.of_block (E9.block C hCw))
            have HG9 := hide (gb_later HG.out E9 (Nat.le_refl _))
            clear hyO E9
            go_wp2
            go_ret
            exact ⟨_, yg, 0, _, _, _, rfl, hyn, hyc, by omega, (own_of_owns2 HO9.out), fun _ => hyg, HC9.out, HG9.out⟩
          have y1 : (s == 1) = false := by simp; omega
          by_cases z2 : s = 2
          · have y2 : (s == 2) = true := by simp [z2]
            have Z := hide z2
            clear z2
            obtain ⟨ya, yg, yc, rfl, hyg, hyn, hyc, hyO⟩ := iowns_seg HO.out
            obtain rfl := hyO.at' (by omega)
            have HY := hide ((hyO.cut (show 1 ≤ k by omega)).toSeg)
            have c1 : (1 : Int) ≤ yc := by omega
            clear hyO
            go_wp2
            go_ret
            exact ⟨_, yg, 0, _, _, _, rfl, by omega, hyc, by omega, HY.out, fun _ => hyg, HC.out, HG.out⟩
          have y2 : (s == 2) = false := by simp; omega
          by_cases z3 : s = 3
          · have y3 : (s == 3) = true := by simp [z3]
            have Z := hide z3
            clear z3
            go_wp2_with fail
            refine (l1Below_any C a b off n cap f 2 _ HC.out (HK.out.grow HG.out) hn (by omega) (by omega)).mono ?_
            rintro e w9 ⟨u, rfl, u0, u1, hCx, Tx⟩
            replace HC := hide hCx
            replace HO := hide (owns_gb HO.out (gb_touch Tx) hCw)
            replace HG := hide (gb_trans HG.out (gb_touch Tx))
            clear hCx Tx
            obtain ⟨N, hN⟩ : ∃ N : Nat, 12 + u = (N : Int) := ⟨(12 + u).toNat, by omega⟩
            have hmk := run_make_row' (P := Try.prog) 31 3 (.int .i64 0) 8 Try.underlying31 Try.info3 rfl .i64 .i64 N (by omega) (by omega)
            have n0 : 0 ≤ (N : Int) := by omega
            have n1 : (N : Int) ≤ 13 := by omega
            have E5 := Ext.alloc w9 (.cells (madeCells #[.int .i64 0] N) 3)
            have HY : Hid (Seg (w9.alloc (.cells (madeCells #[.int .i64 0] N) 3)) (some ⟨w9.heap.size, 0, none⟩) w9.heap.size 0 N (fun _ => 0)) := Seg.of_row (World.rowIs_made w9 (.int .i64 0) N 3) (Nat.le_refl _)
            have Hz := hide HG.out.size
            replace HC := hide (HC.out.of_block (E5.block C (Nat.lt_of_lt_of_le hCw HG.out.size)))
            replace HG := hide (gb_later HG.out E5 HG.out.size)
            clear E5
            go_wp2
            go_ret
            exact ⟨_, w9.heap.size, 0, _, _, _, rfl, by omega, by omega, by omega, HY.out, fun _ => Hz.out, HC.out, HG.out⟩
          have y3 : (s == 3) = false := by simp; omega
          by_cases z4 : s = 4
          · have y4 : (s == 4) = true := by simp [z4]
            have Z := hide z4
            clear z4
            have E7 : Ext w8 (w8.alloc (.cells #[.int .i64 39, .int .i64 40, .int .i64 (-1)] 3)) := Ext.alloc _ _
            have HS7 : Hid (Seg (w8.alloc (.cells #[.int .i64 39, .int .i64 40, .int .i64 (-1)] 3)) (some ⟨w8.heap.size, 0, none⟩) w8.heap.size 0 3 (fun i => ([39, 40, (-1)] : List Int).getD i 0)) := seg_list w8 [39, 40, (-1)]
            have hne7 : w8.heap.size ≠ C := by have := HG.out.size; omega
            obtain ⟨gg7, hgg7⟩ : ∃ gg : Nat → Int, (fun i => ([39, 40, (-1)] : List Int).getD i 0) = gg := ⟨_, rfl⟩
            rw [hgg7] at HS7
            clear hgg7
            replace HC := hide (HC.out.of_block (E7.block C (Nat.lt_of_lt_of_le hCw HG.out.size)))
            replace HG := hide (gb_later HG.out E7 HG.out.size)
            replace HO := hide (HO.out.alloc (.cells #[.int .i64 39, .int .i64 40, .int .i64 (-1)] 3))
            clear E7
            go_wp2_with fail
            refine (l1PickInt_of C a b off n cap f _ w8.heap.size 0 3 _ _ _ HC.out (HK.out.grow HG.out) hn HS7.out (by decide) (by decide) hne7).mono ?_
            rintro e w9 ⟨j7, hj7, rfl, hCx, Tx⟩
            generalize gg7 j7 = z at *
            clear HS7 hne7
            replace HC := hide hCx
            replace HO := hide (owns_gb HO.out (gb_touch Tx) hCw)
            replace HG := hide (gb_trans HG.out (gb_touch Tx))
            clear hCx Tx
            obtain ⟨ya, yg, yc, rfl, hyg, hyn, hyc, hyO⟩ := iowns_seg HO.out
            obtain rfl := hyO.at' (by omega)
            have hcl := iowns_cell HO.out 1 (by omega)
            have hfr := iowns_free HO.out 1
            have HO9 := hide (iowns_set HO.out 1 z)
            have E9 : Below w.heap.size w9 (w9.setCell ⟨yg, 1, none⟩ (.int .i64 z)) := (Below.refl _ _).setCell hyg _
            have HC9 := hide (HC.out.of_block (E9.block C hCw))
            have HG9 := hide (gb_later HG.out E9 (Nat.le_refl _))
            clear hyO E9
            go_wp2
            go_ret
            exact ⟨_, yg, 0, _, _, _, rfl, hyn, hyc, by omega, (own_of_owns2 HO9.out), fun _ => hyg, HC9.out, HG9.out⟩
          have y4 : (s == 4) = false := by simp; omega
          clear z0 z1 z2 z3 z4
          obtain ⟨ya, yg, yc, rfl, hyg, hyn, hyc, hyO⟩ := iowns_seg HO.out
          have HY := hide hyO.toSeg
          clear hyO
          go_wp2
          go_ret
          exact ⟨_, yg, 0, _, _, _, rfl, hyn, hyc, by omega, HY.out, fun _ => hyg, HC.out, HG.out⟩
    · clear hcl
      have E8 : Ext w3 (w3.alloc (.cells #[.int .i64 40, .int .i64 999, .int .i64 1000000, .int .i64 1000001, .int .i64 47, .int .i64 48] 3)) := Ext.alloc _ _
      have HS8 : Hid (Seg (w3.alloc (.cells #[.int .i64 40, .int .i64 999, .int .i64 1000000, .int .i64 1000001, .int .i64 47, .int .i64 48] 3)) (some ⟨w3.heap.size, 0, none⟩) w3.heap.size 0 6 (fun i => ([40, 999, 1000000, 1000001, 47, 48] : List Int).getD i 0)) := seg_list w3 [40, 999, 1000000, 1000001, 47, 48]
      have hne8 : w3.heap.size ≠ C := by have := HG.out.size; omega
      obtain ⟨gg8, hgg8⟩ : ∃ gg : Nat → Int, (fun i => ([40, 999, 1000000, 1000001, 47, 48] : List Int).getD i 0) = gg := ⟨_, rfl⟩
      rw [hgg8] at HS8
      clear hgg8
      replace HC := hide (HC.out.of_block (E8.block C (Nat.lt_of_lt_of_le hCw HG.out.size)))
      replace HG := hide (gb_later HG.out E8 HG.out.size)
      replace HO := hide (HO.out.alloc (.cells #[.int .i64 40, .int .i64 999, .int .i64 1000000, .int .i64 1000001, .int .i64 47, .int .i64 48] 3))
      clear E8
      go_wp2_with fail
      refine (l1PickInt_of C a b off n cap f _ w3.heap.size 0 6 _ _ _ HC.out (HK.out.grow HG.out) hn HS8.out (by decide) (by decide) hne8).mono ?_
      rintro e w4 ⟨j8, hj8, rfl, hCx, Tx⟩
      generalize gg8 j8 = q at *
      clear HS8 hne8
      replace HC := hide hCx
      replace HO := hide (owns_gb HO.out (gb_touch Tx) hCw)
      replace HG := hide (gb_trans HG.out (gb_touch Tx))
      clear hCx Tx
      have hcl := iowns_cell HO.out 1 (by omega)
      have hfr := iowns_free HO.out 1
      have E9 : Below w.heap.size w4 (w4.setCell ⟨w2.heap.size, 1, none⟩ (.int .i64 q)) := (Below.refl _ _).setCell Hw2.out _
      replace HO := hide (iowns_set HO.out 1 q)
      replace HC := hide (HC.out.of_block (E9.block C hCw))
      replace HG := hide (gb_later HG.out E9 (Nat.le_refl _))
      clear E9
      go_wp2_with fail
      refine (l1Below_any C a b off n cap f 6 _ HC.out (HK.out.grow HG.out) hn (by omega) (by omega)).mono ?_
      rintro e w5 ⟨r, rfl, r0, r1, hCx, Tx⟩
      replace HC := hide hCx
      replace HO := hide (owns_gb HO.out (gb_touch Tx) hCw)
      replace HG := hide (gb_trans HG.out (gb_touch Tx))
      clear hCx Tx
      go_wp2
      rename_i K hK
      have HKK := hide hK
      clear hK
      obtain ⟨F0, HO⟩ : ∃ F0 : Nat → Int, Hid (w5.ownsRow w.heap.size 3 1 (.slice (some ⟨w2.heap.size, 0, none⟩) 2 2) 2 (ints F0 2)) := ⟨_, HO⟩
      go_loopw [3, 4] (fun v i wr => ∃ (k : Nat) (F : Nat → Int) (r : Int), i = .int .i64 r ∧ 0 ≤ r ∧ 2 ≤ k ∧ (k : Int) + r ≤ 7 ∧ wr.ownsRow w.heap.size 3 1 v k (ints F k) ∧ Cur wr C a n cap ∧ w.grownBy wr (some C)) (fun _ i _ => (intOf i).toNat)
      case atStart => exact ⟨2, F0, r, rfl, r0, by omega, by omega, HO.out, HC.out, HG.out⟩
      case round =>
        clear HO HC HG
        obtain ⟨k, F, r, rfl, r0, k2, r1, hO, hC, hG⟩ := hrel
        have HO := hide hO
        have HC := hide hC
        have HG := hide hG
        clear hO hC hG
        by_cases hr : 0 < r
        · skip
          have E2 : Ext wr (wr.alloc (.cells #[.int .i64 0, .int .i64 1, .int .i64 127, .int .i64 128, .int .i64 840, .int .i64 113549, .int .i64 16383, .int .i64 16384, .int .i64 1000000000] 3)) := Ext.alloc _ _
          have HS2 : Hid (Seg (wr.alloc (.cells #[.int .i64 0, .int .i64 1, .int .i64 127, .int .i64 128, .int .i64 840, .int .i64 113549, .int .i64 16383, .int .i64 16384, .int .i64 1000000000] 3)) (some ⟨wr.heap.size, 0, none⟩) wr.heap.size 0 9 (fun i => ([0, 1, 127, 128, 840, 113549, 16383, 16384, 1000000000] : List Int).getD i 0)) := seg_list wr [0, 1, 127, 128, 840, 113549, 16383, 16384, 1000000000]
          have hne2 : wr.heap.size ≠ C := by have := HG.out.size; omega
          obtain ⟨gg2, hgg2⟩ : ∃ gg : Nat → Int, (fun i => ([0, 1, 127, 128, 840, 113549, 16383, 16384, 1000000000] : List Int).getD i 0) = gg := ⟨_, rfl⟩
          rw [hgg2] at HS2
          clear hgg2
          replace HC := hide (HC.out.of_block (E2.block C (Nat.lt_of_lt_of_le hCw HG.out.size)))
          replace HG := hide (gb_later HG.out E2 HG.out.size)
          replace HO := hide (HO.out.alloc (.cells #[.int .i64 0, .int .i64 1, .int .i64 127, .int .i64 128, .int .i64 840, .int .i64 113549, .int .i64 16383, .int .i64 16384, .int .i64 1000000000] 3))
          clear E2
          go_wp2_with fail
          refine (l1PickInt_of C a b off n cap f _ wr.heap.size 0 9 _ _ _ HC.out (HK.out.grow HG.out) hn HS2.out (by decide) (by decide) hne2).mono ?_
          rintro e w6 ⟨j2, hj2, rfl, hCx, Tx⟩
          generalize gg2 j2 = z at *
          clear HS2 hne2
          replace HC := hide hCx
          replace HO := hide (owns_gb HO.out (gb_touch Tx) hCw)
          replace HG := hide (gb_trans HG.out (gb_touch Tx))
          clear hCx Tx
          have HX3 := hide (seg_one w6 z)
          have HO3 := hide (HO.out.alloc (.cells #[.int .i64 z] 3))
          have Hz3 := hide HG.out.size
          go_wp2_with (at_builtin; refine wpList_append_is rfl _ _ rfl w.heap.size _ _ _ rfl HO3.out _ w6.heap.size 0 1 1 (fun _ => z) rfl HX3.out (by omega) (by have := Hz3.out; simp; omega) ?_)
          intro v3 w7 h2 h3
          rw [intz_append] at h2
          replace HO := hide h2
          have E3 : Below w.heap.size w6 w7 := Below.trans ((Below.refl _ _).alloc Hz3.out _) h3
          replace HC := hide (HC.out.of_block (E3.block C hCw))
          replace HG := hide (gb_later HG.out E3 (Nat.le_refl _))
          clear h2 h3 E3 HX3 HO3
          go_wp2
          go_roundw
          case rel => exact ⟨k + 1, _, r - 1, rfl, by omega, by omega, by omega, HO.out, HC.out, HG.out⟩
          case measure => simp [intOf]; omega
        · go_wp2
          apply HKK.out
          clear HKK
          go_wp2_with fail
          refine (l1Below_any C a b off n cap f 25 _ HC.out (HK.out.grow HG.out) hn (by omega) (by omega)).mono ?_
          rintro e w8 ⟨s, rfl, s0, s1, hCx, Tx⟩
          replace HC := hide hCx
          replace HO := hide (owns_gb HO.out (gb_touch Tx) hCw)
          replace HG := hide (gb_trans HG.out (gb_touch Tx))
          clear hCx Tx
          by_cases z0 : s = 0
          · have y0 : (s == 0) = true := by simp [z0]
            have Z := hide z0
            clear z0
            have E4 : Ext w8 (w8.alloc (.cells #[.int .i64 (-1), .int .i64 1000000001] 3)) := Ext.alloc _ _
            have HS4 : Hid (Seg (w8.alloc (.cells #[.int .i64 (-1), .int .i64 1000000001] 3)) (some ⟨w8.heap.size, 0, none⟩) w8.heap.size 0 2 (fun i => ([(-1), 1000000001] : List Int).getD i 0)) := seg_list w8 [(-1), 1000000001]
            have hne4 : w8.heap.size ≠ C := by have := HG.out.size; omega
            obtain ⟨gg4, hgg4⟩ : ∃ gg : Nat → Int, (fun i => ([(-1), 1000000001] : List Int).getD i 0) = gg := ⟨_, rfl⟩
            rw [hgg4] at HS4
            clear hgg4
            replace HC := hide (HC.out.of_block (E4.block C (Nat.lt_of_lt_of_le hCw HG.out.size)))
            replace HG := hide (gb_later HG.out E4 HG.out.size)
            replace HO := hide (HO.out.alloc (.cells #[.int .i64 (-1), .int .i64 1000000001] 3))
            clear E4
            go_wp2_with fail
            refine (l1PickInt_of C a b off n cap f _ w8.heap.size 0 2 _ _ _ HC.out (HK.out.grow HG.out) hn HS4.out (by decide) (by decide) hne4).mono ?_
            rintro e w9 ⟨j4, hj4, rfl, hCx, Tx⟩
            generalize gg4 j4 = z at *
            clear HS4 hne4
            replace HC := hide hCx
            replace HO := hide (owns_gb HO.out (gb_touch Tx) hCw)
            replace HG := hide (gb_trans HG.out (gb_touch Tx))
            clear hCx Tx
            have HX5 := hide (seg_one w9 z)
            have HO5 := hide (HO.out.alloc (.cells #[.int .i64 z] 3))
            have Hz5 := hide HG.out.size
            go_wp2_with (at_builtin; refine wpList_append_is rfl _ _ rfl w.heap.size _ _ _ rfl HO5.out _ w9.heap.size 0 1 1 (fun _ => z) rfl HX5.out (by omega) (by have := Hz5.out; simp; omega) ?_)
            intro v5 wa h2 h3
            rw [intz_append] at h2
            replace HO := hide h2
            have E5 : Below w.heap.size w9 wa := Below.trans ((Below.refl _ _).alloc Hz5.out _) h3
            replace HC := hide (HC.out.of_block (E5.block C hCw))
            replace HG := hide (gb_later HG.out E5 (Nat.le_refl _))
            clear h2 h3 E5 HX5 HO5
            obtain ⟨ya, yg, yc, rfl, hyg, hyn, hyc, hyO⟩ := iowns_seg HO.out
            have HY := hide hyO.toSeg
            clear hyO
            go_wp2
            go_ret
            exact ⟨_, yg, 0, _, _, _, rfl, hyn, hyc, by omega, HY.out, fun _ => hyg, HC.out, HG.out⟩
          have y0 : (s == 0) = false := by simp; omega
          by_cases z1 : s = 1
          · have y1 : (s == 1) = true := by simp [z1]
            have Z := hide z1
            clear z1
            have E6 : Ext w8 (w8.alloc (.cells #[.int .i64 3, .int .i64 (-1)] 3)) := Ext.alloc _ _
            have HS6 : Hid (Seg (w8.alloc (.cells #[.int .i64 3, .int .i64 (-1)] 3)) (some ⟨w8.heap.size, 0, none⟩) w8.heap.size 0 2 (fun i => ([3, (-1)] : List Int).getD i 0)) := seg_list w8 [3, (-1)]
            have hne6 : w8.heap.size ≠ C := by have := HG.out.size; omega
            obtain ⟨gg6, hgg6⟩ : ∃ gg : Nat → Int, (fun i => ([3, (-1)] : List Int).getD i 0) = gg := ⟨_, rfl⟩
            rw [hgg6] at HS6
            clear hgg6
            replace HC := hide (HC.out.of_block (E6.block C (Nat.lt_of_lt_of_le hCw HG.out.size)))
            replace HG := hide (gb_later HG.out E6 HG.out.size)
            replace HO := hide (HO.out.alloc (.cells #[.int .i64 3, .int .i64 (-1)] 3))
            clear E6
            go_wp2_with fail
            refine (l1PickInt_of C a b off n cap f _ w8.heap.size 0 2 _ _ _ HC.out (HK.out.grow HG.out) hn HS6.out (by decide) (by decide) hne6).mono ?_
            rintro e w9 ⟨j6, hj6, rfl, hCx, Tx⟩
            generalize gg6 j6 = z at *
            clear HS6 hne6
            replace HC := hide hCx
            replace HO := hide (owns_gb HO.out (gb_touch Tx) hCw)
            replace HG := hide (gb_trans HG.out (gb_touch Tx))
            clear hCx Tx
            obtain ⟨ya, yg, yc, rfl, hyg, hyn, hyc, hyO⟩ := iowns_seg HO.out
            obtain rfl := hyO.at' (by omega)
            have hcl := iowns_cell HO.out 0 (by omega)
            have hfr := iowns_free HO.out 0
            have HO9 := hide (iowns_set HO.out 0 z)
            have E9 : Below w.heap.size w9 (w9.setCell ⟨yg, 0, none⟩ (.int .i64 z)) := (Below.refl _ _).setCell hyg _
            have HC9 := hide (HC.out.of_block (E9.block C hCw))
            have HG9 := hide (gb_later HG.out E9 (Nat.le_refl _))
            clear hyO E9
            go_wp2
            go_ret
            exact ⟨_, yg, 0, _, _, _, rfl, hyn, hyc, by omega, (own_of_owns2 HO9.out), fun _ => hyg, HC9.out, HG9.out⟩
          have y1 : (s == 1) = false := by simp; omega
          by_cases z2 : s = 2
          · have y2 : (s == 2) = true := by simp [z2]
            have Z := hide z2
            clear z2
            obtain ⟨ya, yg, yc, rfl, hyg, hyn, hyc, hyO⟩ := iowns_seg HO.out
            obtain rfl := hyO.at' (by omega)
            have HY := hide ((hyO.cut (show 1 ≤ k by omega)).toSeg)
            have c1 : (1 : Int) ≤ yc := by omega
            clear hyO
            go_wp2
            go_ret
            exact ⟨_, yg, 0, _, _, _, rfl, by omega, hyc, by omega, HY.out, fun _ => hyg, HC.out, HG.out⟩
          have y2 : (s == 2) = false := by simp; omega
          by_cases z3 : s = 3
          · have y3 : (s == 3) = true := by simp [z3]
            have Z := hide z3
            clear z3
            go_wp2_with fail
            refine (l1Below_any C a b off n cap f 2 _ HC.out (HK.out.grow HG.out) hn (by omega) (by omega)).mono ?_
            rintro e w9 ⟨u, rfl, u0, u1, hCx, Tx⟩
            replace HC := hide hCx
            replace HO := hide (owns_gb HO.out (gb_touch Tx) hCw)
            replace HG := hide (gb_trans HG.out (gb_touch Tx))
            clear hCx Tx
            obtain ⟨N, hN⟩ : ∃ N : Nat, 12 + u = (N : Int) := ⟨(12 + u).toNat, by omega⟩
            have hmk := run_make_row' (P := Try.prog) 31 3 (.int .i64 0) 8 Try.underlying31 Try.info3 rfl .i64 .i64 N (by omega) (by omega)
            have n0 : 0 ≤ (N : Int) := by omega
            have n1 : (N : Int) ≤ 13 := by omega
            have E5 := Ext.alloc w9 (.cells (madeCells #[.int .i64 0] N) 3)
            have HY : Hid (Seg (w9.alloc (.cells (madeCells #[.int .i64 0] N) 3)) (some ⟨w9.heap.size, 0, none⟩) w9.heap.size 0 N (fun _ => 0)) := Seg.of_row (World.rowIs_made w9 (.int .i64 0) N 3) (Nat.le_refl _)
            have Hz := hide HG.out.size
            replace HC := hide (HC.out.of_block (E5.block C (Nat.lt_of_lt_of_le hCw HG.out.size)))
            replace HG := hide (gb_later HG.out E5 HG.out.size)
            clear E5
            go_wp2
            go_ret
            exact ⟨_, w9.heap.size, 0, _, _, _, rfl, by omega, by omega, by omega, HY.out, fun _ => Hz.out, HC.out, HG.out⟩
          have y3 : (s == 3) = false := by simp; omega
          by_cases z4 : s = 4
          · have y4 : (s == 4) = true := by simp [z4]
            have Z := hide z4
            clear z4
            have E7 : Ext w8 (w8.alloc (.cells #[.int .i64 39, .int .i64 40, .int .i64 (-1)] 3)) := Ext.alloc _ _
            have HS7 : Hid (Seg (w8.alloc (.cells #[.int .i64 39, .int .i64 40, .int .i64 (-1)] 3)) (some ⟨w8.heap.size, 0, none⟩) w8.heap.size 0 3 (fun i => ([39, 40, (-1)] : List Int).getD i 0)) := seg_list w8 [39, 40, (-1)]
            have hne7 : w8.heap.size ≠ C := by have := HG.out.size; omega
            obtain ⟨gg7, hgg7⟩ : ∃ gg : Nat → Int, (fun i => ([39, 40, (-1)] : List Int).getD i 0) = gg := ⟨_, rfl⟩
            rw [hgg7] at HS7
            clear hgg7
            replace HC := hide (HC.out.of_block (E7.block C (Nat.lt_of_lt_of_le hCw HG.out.size)))
            replace HG := hide (gb_later HG.out E7 HG.out.size)
            replace HO := hide (HO.out.alloc (.cells #[.int .i64 39, .int .i64 40, .int .i64 (-1)] 3))
            clear E7
            go_wp2_with fail
            refine (l1PickInt_of C a b off n cap f _ w8.heap.size 0 3 _ _ _ HC.out (HK.out.grow HG.out) hn HS7.out (by decide) (by decide) hne7).mono ?_
            rintro e w9 ⟨j7, hj7, rfl, hCx, Tx⟩
            generalize gg7 j7 = z at *
            clear HS7 hne7
            replace HC := hide hCx
            replace HO := hide (owns_gb HO.out (gb_touch Tx) hCw)
            replace HG := hide (gb_trans HG.out (gb_touch Tx))
            clear hCx Tx
            obtain ⟨ya, yg, yc, rfl, hyg, hyn, hyc, hyO⟩ := iowns_seg HO.out
            obtain rfl := hyO.at' (by omega)
            have hcl := iowns_cell HO.out 1 (by omega)
            have hfr := iowns_free HO.out 1
            have HO9 := hide (iowns_set HO.out 1 z)
            have E9 : Below w.heap.size w9 (w9.setCell ⟨yg, 1, none⟩ (.int .i64 z)) := (Below.refl _ _).setCell hyg _
            have HC9 := hide (HC.out.of_block (E9.block C hCw))
            have HG9 := hide (gb_later HG.out E9 (Nat.le_refl _))
            clear hyO E9
            go_wp2
            go_ret
            exact ⟨_, yg, 0, _, _, _, rfl, hyn, hyc, by omega, (own_of_owns2 HO9.out), fun _ => hyg, HC9.out, HG9.out⟩
          have y4 : (s == 4) = false := by simp; omega
          clear z0 z1 z2 z3 z4
          obtain ⟨ya, yg, yc, rfl, hyg, hyn, hyc, hyO⟩ := iowns_seg HO.out
          have HY := hide hyO.toSeg
          clear hyO
          go_wp2
          go_ret
          exact ⟨_, yg, 0, _, _, _, rfl, hyn, hyc, by omega, HY.out, fun _ => hyg, HC.out, HG.out⟩
  · have y2 : (x == 2) = false := by simp; omega
    go_wp2_with fail
    refine (l1Below_any C a b off n cap f 6 _ HC.out (HK.out.grow HG.out) hn (by omega) (by omega)).mono ?_
    rintro e w5 ⟨r, rfl, r0, r1, hCx, Tx⟩
    replace HC := hide hCx
    replace HO := hide (owns_gb HO.out (gb_touch Tx) hCw)
    replace HG := hide (gb_trans HG.out (gb_touch Tx))
    clear hCx Tx
    go_wp2
    rename_i K hK
    have HKK := hide hK
    clear hK
    obtain ⟨F0, HO⟩ : ∃ F0 : Nat → Int, Hid (w5.ownsRow w.heap.size 3 1 (.slice (some ⟨w2.heap.size, 0, none⟩) 2 2) 2 (ints F0 2)) := ⟨_, HO⟩
    go_loopw [3, 4] (fun v i wr => ∃ (k : Nat) (F : Nat → Int) (r : Int), i = .int .i64 r ∧ 0 ≤ r ∧ 2 ≤ k ∧ (k : Int) + r ≤ 7 ∧ wr.ownsRow w.heap.size 3 1 v k (ints F k) ∧ Cur wr C a n cap ∧ w.grownBy wr (some C)) (fun _ i _ => (intOf i).toNat)
    case atStart => exact ⟨2, F0, r, rfl, r0, by omega, by omega, HO.out, HC.out, HG.out⟩
    case round =>
      clear HO HC HG
      obtain ⟨k, F, r, rfl, r0, k2, r1, hO, hC, hG⟩ := hrel
      have HO := hide hO
      have HC := hide hC
      have HG := hide hG
      clear hO hC hG
      by_cases hr : 0 < r
      · skip
        have E2 : Ext wr (wr.alloc (.cells #[.int .i64 0, .int .i64 1, .int .i64 127, .int .i64 128, .int .i64 840, .int .i64 113549, .int .i64 16383, .int .i64 16384, .int .i64 1000000000] 3)) := Ext.alloc _ _
        have HS2 : Hid (Seg (wr.alloc (.cells #[.int .i64 0, .int .i64 1, .int .i64 127, .int .i64 128, .int .i64 840, .int .i64 113549, .int .i64 16383, .int .i64 16384, .int .i64 1000000000] 3)) (some ⟨wr.heap.size, 0, none⟩) wr.heap.size 0 9 (fun i => ([0, 1, 127, 128, 840, 113549, 16383, 16384, 1000000000] : List Int).getD i 0)) := seg_list wr [0, 1, 127, 128, 840, 113549, 16383, 16384, 1000000000]
        have hne2 : wr.heap.size ≠ C := by have := HG.out.size; omega
        obtain ⟨gg2, hgg2⟩ : ∃ gg : Nat → Int, (fun i => ([0, 1, 127, 128, 840, 113549, 16383, 16384, 1000000000] : List Int).getD i 0) = gg := ⟨_, rfl⟩
        rw [hgg2] at HS2
        clear hgg2
        replace HC := hide (HC.out.of_block (E2.block C (Nat.lt_of_lt_of_le hCw HG.out.size)))
        replace HG := hide (gb_later HG.out E2 HG.out.size)
        replace HO := hide (HO.out.alloc (.cells #[.int .i64 0, .int .i64 1, .int .i64 127, .int .i64 128, .int .i64 840, .int .i64 113549, .int .i64 16383, .int .i64 16384, .int .i64 1000000000] 3))
        clear E2
        go_wp2_with fail
        refine (l1PickInt_of C a b off n cap f _ wr.heap.size 0 9 _ _ _ HC.out (HK.out.grow HG.out) hn HS2.out (by decide) (by decide) hne2).mono ?_
        rintro e w6 ⟨j2, hj2, rfl, hCx, Tx⟩
        generalize gg2 j2 = z at *
        clear HS2 hne2
        replace HC := hide hCx
        replace HO := hide (owns_gb HO.out (gb_touch Tx) hCw)
        replace HG := hide (gb_trans HG.out (gb_touch Tx))
        clear hCx Tx
        have HX3 := hide (seg_one w6 z)
        have HO3 := hide (HO.out.alloc (.cells #[.int .i64 z] 3))
        have Hz3 := hide HG.out.size
        go_wp2_with (at_builtin; refine wpList_append_is rfl _ _ rfl w.heap.size _ _ _ rfl HO3.out _ w6.heap.size 0 1 1 (fun _ => z) rfl HX3.out (by omega) (by have := Hz3.out; simp; omega) ?_)
        intro v3 w7 h2 h3
        rw [intz_append] at h2
        replace HO := hide h2
        have E3 : Below w.heap.size w6 w7 := Below.trans ((Below.refl _ _).alloc Hz3.out _) h3
        replace HC := hide (HC.out.of_block (E3.block C hCw))
        replace HG := hide (gb_later HG.out E3 (Nat.le_refl _))
        clear h2 h3 E3 HX3 HO3
        go_wp2
        go_roundw
        case rel => exact ⟨k + 1, _, r - 1, rfl, by omega, by omega, by omega, HO.out, HC.out, HG.out⟩
        case measure => simp [intOf]; omega
      · go_wp2
        apply HKK.out
        clear HKK
        go_wp2_with fail
        refine (l1Below_any C a b off n cap f 25 _ HC.out (HK.out.grow HG.out) hn (by omega) (by omega)).mono ?_
        rintro e w8 ⟨s, rfl, s0, s1, hCx, Tx⟩
        replace HC := hide hCx
        replace HO := hide (owns_gb HO.out (gb_touch Tx) hCw)
        replace HG := hide (gb_trans HG.out (gb_touch Tx))
        clear hCx Tx
        by_cases z0 : s = 0
        · have y0 : (s == 0) = true := by simp [z0]
          have Z := hide z0
          clear z0
          have E4 : Ext w8 (w8.alloc (.cells #[.int .i64 (-1), .int .i64 1000000001] 3)) := Ext.alloc _ _
          have HS4 : Hid (Seg (w8.alloc (.cells #[.int .i64 (-1), .int .i64 1000000001] 3)) (some ⟨w8.heap.size, 0, none⟩) w8.heap.size 0 2 (fun i => ([(-1), 1000000001] : List Int).getD i 0)) := seg_list w8 [(-1), 1000000001]
          have hne4 : w8.heap.size ≠ C := by have := HG.out.size; omega
          obtain ⟨gg4, hgg4⟩ : ∃ gg : Nat → Int, (fun i => ([(-1), 1000000001] : List Int).getD i 0) = gg := ⟨_, rfl⟩
          rw [hgg4] at HS4
          clear hgg4
          replace HC := hide (HC.out.of_block (E4.block C (Nat.lt_of_lt_of_le hCw HG.out.size)))
          replace HG := hide (gb_later HG.out E4 HG.out.size)
          replace HO := hide (HO.out.alloc (.cells #[.int .i64 (-1), .int .i64 1000000001] 3))
          clear E4
          go_wp2_with fail
          refine (l1PickInt_of C a b off n cap f _ w8.heap.size 0 2 _ _ _ HC.out (HK.out.grow HG.out) hn HS4.out (by decide) (by decide) hne4).mono ?_
          rintro e w9 ⟨j4, hj4, rfl, hCx, Tx⟩
          generalize gg4 j4 = z at *
          clear HS4 hne4
          replace HC := hide hCx
          replace HO := hide (owns_gb HO.out (gb_touch Tx) hCw)
          replace HG := hide (gb_trans HG.out (gb_touch Tx))
          clear hCx Tx
          have HX5 := hide (seg_one w9 z)
          have HO5 := hide (HO.out.alloc (.cells #[.int .i64 z] 3))
          have Hz5 := hide HG.out.size
          go_wp2_with (at_builtin; refine wpList_append_is rfl _ _ rfl w.heap.size _ _ _ rfl HO5.out _ w9.heap.size 0 1 1 (fun _ => z) rfl HX5.out (by omega) (by have := Hz5.out; simp; omega) ?_)
          intro v5 wa h2 h3
          rw [intz_append] at h2
          replace HO := hide h2
          have E5 : Below w.heap.size w9 wa := Below.trans ((Below.refl _ _).alloc Hz5.out _) h3
          replace HC := hide (HC.out.of_block (E5.block C hCw))
          replace HG := hide (gb_later HG.out E5 (Nat.le_refl _))
          clear h2 h3 E5 HX5 HO5
          obtain ⟨ya, yg, yc, rfl, hyg, hyn, hyc, hyO⟩ := iowns_seg HO.out
          have HY := hide hyO.toSeg
          clear hyO
          go_wp2
          go_ret
          exact ⟨_, yg, 0, _, _, _, rfl, hyn, hyc, by omega, HY.out, fun _ => hyg, HC.out, HG.out⟩
        have y0 : (s == 0) = false := by simp; omega
        by_cases z1 : s = 1
        · have y1 : (s == 1) = true := by simp [z1]
          have Z := hide z1
          clear z1
          have E6 : Ext w8 (w8.alloc (.cells #[.int .i64 3, .int .i64 (-1)] 3)) := Ext.alloc _ _
          have HS6 : Hid (Seg (w8.alloc (.cells #[.int .i64 3, .int .i64 (-1)] 3)) (some ⟨w8.heap.size, 0, none⟩) w8.heap.size 0 2 (fun i => ([3, (-1)] : List Int).getD i 0)) := seg_list w8 [3, (-1)]
          have hne6 : w8.heap.size ≠ C := by have := HG.out.size; omega
          obtain ⟨gg6, hgg6⟩ : ∃ gg : Nat → Int, (fun i => ([3, (-1)] : List Int).getD i 0) = gg := ⟨_, rfl⟩
          rw [hgg6] at HS6
          clear hgg6
          replace HC := hide (HC.out.of_block (E6.block C (Nat.lt_of_lt_of_le hCw HG.out.size)))
          replace HG := hide (gb_later HG.out E6 HG.out.size)
          replace HO := hide (HO.out.alloc (.cells #[.int .i64 3, .int .i64 (-1)] 3))
          clear E6
          go_wp2_with fail
          refine (l1PickInt_of C a b off n cap f _ w8.heap.size 0 2 _ _ _ HC.out (HK.out.grow HG.out) hn HS6.out (by decide) (by decide) hne6).mono ?_
          rintro e w9 ⟨j6, hj6, rfl, hCx, Tx⟩
          generalize gg6 j6 = z at *
          clear HS6 hne6
          replace HC := hide hCx
          replace HO := hide (owns_gb HO.out (gb_touch Tx) hCw)
          replace HG := hide (gb_trans HG.out (gb_touch Tx))
          clear hCx Tx
          obtain ⟨ya, yg, yc, rfl, hyg, hyn, hyc, hyO⟩ := iowns_seg HO.out
          obtain rfl := hyO.at' (by omega)
          have hcl := iowns_cell HO.out 0 (by omega)
          have hfr := iowns_free HO.out 0
          have HO9 := hide (iowns_set HO.out 0 z)
          have E9 : Below w.heap.size w9 (w9.setCell ⟨yg, 0, none⟩ (.int .i64 z)) := (Below.refl _ _).setCell hyg _
          have HC9 := hide (HC.out.of_block (E9.block C hCw))
          have HG9 := hide (gb_later HG.out E9 (Nat.le_refl _))
          clear hyO E9
          go_wp2
          go_ret
          exact ⟨_, yg, 0, _, _, _, rfl, hyn, hyc, by omega, (own_of_owns2 HO9.out), fun _ => hyg, HC9.out, HG9.out⟩
        have y1 : (s == 1) = false := by simp; omega
        by_cases z2 : s = 2
        · have y2 : (s == 2) = true := by simp [z2]
          have Z := hide z2
          clear z2
          obtain ⟨ya, yg, yc, rfl, hyg, hyn, hyc, hyO⟩ := iowns_seg HO.out
          obtain rfl := hyO.at' (by omega)
          have HY := hide ((hyO.cut (show 1 ≤ k by omega)).toSeg)
          have c1 : (1 : Int) ≤ yc := by omega
          clear hyO
          go_wp2
          go_ret
          exact ⟨_, yg, 0, _, _, _, rfl, by omega, hyc, by omega, HY.out, fun _ => hyg, HC.out, HG.out⟩
        have y2 : (s == 2) = false := by simp; omega
        by_cases z3 : s = 3
        · have y3 : (s == 3) = true := by simp [z3]
          have Z := hide z3
          clear z3
          go_wp2_with fail
          refine (l1Below_any C a b off n cap f 2 _ HC.out (HK.out.grow HG.out) hn (by omega) (by omega)).mono ?_
          rintro e w9 ⟨u, rfl, u0, u1, hCx, Tx⟩
          replace HC := hide hCx
          replace HO := hide (owns_gb HO.out (gb_touch Tx) hCw)
          replace HG := hide (gb_trans HG.out (gb_touch Tx))
          clear hCx Tx
          obtain ⟨N, hN⟩ : ∃ N : Nat, 12 + u = (N : Int) := ⟨(12 + u).toNat, by omega⟩
          have hmk := run_make_row' (P := Try.prog) 31 3 (.int .i64 0) 8 Try.underlying31 Try.info3 rfl .i64 .i64 N (by omega) (by omega)
          have n0 : 0 ≤ (N : Int) := by omega
          have n1 : (N : Int) ≤ 13 := by omega
          have E5 := Ext.alloc w9 (.cells (madeCells #[.int .i64 0] N) 3)
          have HY : Hid (Seg (w9.alloc (.cells (madeCells #[.int .i64 0] N) 3)) (some ⟨w9.heap.size, 0, none⟩) w9.heap.size 0 N (fun _ => 0)) := Seg.of_row (World.rowIs_made w9 (.int .i64 0) N 3) (Nat.le_refl _)
          have Hz := hide HG.out.size
          replace HC := hide (HC.out.of_block (E5.block C (Nat.lt_of_lt_of_le hCw HG.out.size)))
          replace HG := hide (gb_later HG.out E5 HG.out.size)
          clear E5
          go_wp2
          go_ret
          exact ⟨_, w9.heap.size, 0, _, _, _, rfl, by omega, by omega, by omega, HY.out, fun _ => Hz.out, HC.out, HG.out⟩
        have y3 : (s == 3) = false := by simp; omega
        by_cases z4 : s = 4
        · have y4 : (s == 4) = true := by simp [z4]
          have Z := hide z4
          clear z4
          have E7 : Ext w8 (w8.alloc (.cells #[.int .i64 39, .int .i64 40, .int .i64 (-1)] 3)) := Ext.alloc _ _
          have HS7 : Hid (Seg (w8.alloc (.cells #[.int .i64 39, .int .i64 40, .int .i64 (-1)] 3)) (some ⟨w8.heap.size, 0, none⟩) w8.heap.size 0 3 (fun i => ([39, 40, (-1)] : List Int).getD i 0)) := seg_list w8 [39, 40, (-1)]
          have hne7 : w8.heap.size ≠ C := by have := HG.out.size; omega
          obtain ⟨gg7, hgg7⟩ : ∃ gg : Nat → Int, (fun i => ([39, 40, (-1)] : List Int).getD i 0) = gg := ⟨_, rfl⟩
          rw [hgg7] at HS7
          clear hgg7
          replace HC := hide (HC.out.of_block (E7.block C (Nat.lt_of_lt_of_le hCw HG.out.size)))
          replace HG := hide (gb_later HG.out E7 HG.out.size)
          replace HO := hide (HO.out.alloc (.cells #[.int .i64 39, .int .i64 40, .int .i64 (-1)] 3))
          clear E7
          go_wp2_with fail
          refine (l1PickInt_of C a b off n cap f _ w8.heap.size 0 3 _ _ _ HC.out (HK.out.grow HG.out) hn HS7.out (by decide) (by decide) hne7).mono ?_
          rintro e w9 ⟨j7, hj7, rfl, hCx, Tx⟩
          generalize gg7 j7 = z at *
          clear HS7 hne7
          replace HC := hide hCx
          replace HO := hide (owns_gb HO.out (gb_touch Tx) hCw)
          replace HG := hide (gb_trans HG.out (gb_touch Tx))
          clear hCx Tx
          obtain ⟨ya, yg, yc, rfl, hyg, hyn, hyc, hyO⟩ := iowns_seg HO.out
          obtain rfl := hyO.at' (by omega)
          have hcl := iowns_cell HO.out 1 (by omega)
          have hfr := iowns_free HO.out 1
          have HO9 := hide (iowns_set HO.out 1 z)
          have E9 : Below w.heap.size w9 (w9.setCell ⟨yg, 1, none⟩ (.int .i64 z)) := (Below.refl _ _).setCell hyg _
          have HC9 := hide (HC.out.of_block (E9.block C hCw))
          have HG9 := hide (gb_later HG.out E9 (Nat.le_refl _))
          clear hyO E9
          go_wp2
          go_ret
          exact ⟨_, yg, 0, _, _, _, rfl, hyn, hyc, by omega, (own_of_owns2 HO9.out), fun _ => hyg, HC9.out, HG9.out⟩
        have y4 : (s == 4) = false := by simp; omega
        clear z0 z1 z2 z3 z4
        obtain ⟨ya, yg, yc, rfl, hyg, hyn, hyc, hyO⟩ := iowns_seg HO.out
        have HY := hide hyO.toSeg
        clear hyO
        go_wp2
        go_ret
        exact ⟨_, yg, 0, _, _, _, rfl, hyn, hyc, by omega, HY.out, fun _ => hyg, HC.out, HG.out⟩

end Go.Proofs.Ytjkojofpkeglpaa
