/- Walks: DrawWriteAddress, DrawInNet, DrawReadAddress. -/
import Derived.Test.YtjidlahgfkdipacDoorDrA
import Derived.Test.YtjidlahgfkdipacDoorWad
import Derived.Test.YtjidlahgfkdipacDoorDrS
namespace Go.Proofs.YtjidlahgfkdipacDoor
set_option linter.unusedVariables false
set_option linter.unusedSimpArgs false
open Go.RowKit Go.Sort

theorem drawWrite_any (a : Option Addr) (b off n cap : Nat) (f : Nat → Int) (w : World) (hs : BSeg w a b off n f) (hB : ∀ i, i < n → 0 ≤ f i ∧ f i ≤ 255) (hn : n ≤ 1048576) :
    Calls Tryd.prog 10 #[.slice a n cap] w fun e w' => ∃ (g k sc : Nat) (F : Nat → Int), e = .returned (.slice (some ⟨g, 0, none⟩) k sc) ∧ k ≤ 5 ∧ Seg w' (some ⟨g, 0, none⟩) g 0 k F ∧ Ext w w' := by
  go_enter Tryd.func10, Tryd.ntmps10
  go_wp2_with fail
  refine (l1New_any a b off n cap f _ hs hB hn).mono ?_
  rintro e w1 ⟨rfl, hC1, hlt1, B1⟩
  have K1 : Code w1 w.heap.size a b off n f := ⟨hs.of_all B1, hB, fun h => by have := hs.lt h; omega⟩
  go_wp2_with fail
  refine (l8DrawAddress_any w.heap.size a b off n cap f _ hC1 K1 hn hlt1).mono ?_
  rintro e w2 ⟨g, k, sc, F, rfl, hg, k3, k5, hsc, hS, hC2, hG⟩
  have HE : Hid (Ext w w2) := hide (gb_to_below B1 hG)
  have HS := hide hS
  clear hC1 K1 hC2 hG B1 hs hS
  go_wp2
  go_ret
  exact ⟨g, k, sc, F, rfl, k5, HS.out, HE.out⟩

/-- A net, bits and an address are drawn. -/
def GivesNet (w : World) (e : Ending) (w' : World) : Prop := ∃ (g k sc g2 k2 sc2 : Nat) (F F2 : Nat → Int) (bits : Int), e = .returned (.tuple #[.slice (some ⟨g, 0, none⟩) k sc, .int .i64 bits, .slice (some ⟨g2, 0, none⟩) k2 sc2]) ∧ k ≤ 5 ∧ k2 ≤ 5 ∧ -1 ≤ bits ∧ bits ≤ 33 ∧ Seg w' (some ⟨g, 0, none⟩) g 0 k F ∧ Seg w' (some ⟨g2, 0, none⟩) g2 0 k2 F2 ∧ Ext w w'
theorem pick_bits : ∀ j, j < 9 → -1 ≤ ([0, 8, 16, 24, 31, 32, 33, (-1), 20] : List Int).getD j 0 ∧ ([0, 8, 16, 24, 31, 32, 33, (-1), 20] : List Int).getD j 0 ≤ 33 := by
  decide

set_option maxHeartbeats 3200000 in
set_option maxRecDepth 100000 in
theorem drawInNet_any (a : Option Addr) (b off n cap : Nat) (f : Nat → Int) (w : World) (hs : BSeg w a b off n f) (hB : ∀ i, i < n → 0 ≤ f i ∧ f i ≤ 255) (hn : n ≤ 1048576) :
    Calls Tryd.prog 15 #[.slice a n cap] w fun e w' => GivesNet w e w' := by
  go_enter Tryd.func15, Tryd.ntmps15
  go_wp2_with fail
  refine (l1New_any a b off n cap f _ hs hB hn).mono ?_
  rintro e w1 ⟨rfl, hC1, hlt1, B1⟩
  have K1 : Code w1 w.heap.size a b off n f := ⟨hs.of_all B1, hB, fun h => by have := hs.lt h; omega⟩
  go_wp2_with fail
  refine (l8DrawAddress_any w.heap.size a b off n cap f _ hC1 K1 hn hlt1).mono ?_
  rintro e w2 ⟨g, k, sc, F, rfl, hg, k3, k5, hsc, hS, hC2, hG⟩
  have HC := hide hC2
  have HG := hide hG
  have HS := hide hS
  have HK := hide K1
  have HB1 := hide B1
  clear hC1 K1 hC2 hG B1 hs hS
  have hk0 : (0 : Int) < (k : Int) := by omega
  have hgl : g < w2.heap.size := HS.out.lt (by omega)
  have h12 := HG.out.size
  have HX := hide (HS.out.of_all (Ext.alloc w2 (.cells #[] 3)))
  have E3 : Ext w2 (w2.alloc (.cells #[] 3)) := Ext.alloc _ _
  have HO0 := hide (World.ownsRow_made (base := w2.heap.size) (e := 3) (size := 1) w2 #[] 0 (Nat.le_refl _) (by simp) rfl)
  go_wp2_with (at_builtin; refine wpList_append_is rfl _ _ rfl w2.heap.size _ 0 (ints F 0) rfl HO0.out _ g 0 k sc F rfl HX.out (by omega) (by simp) ?_)
  intro v3 w3 hO3 hb3
  replace hO3 : w3.ownsRow w2.heap.size 3 1 v3 k (ints F k) := by simpa [ints] using hO3
  have HC3 := hide (HC.out.of_block ((hb3.block w.heap.size (by omega)).trans (E3.block w.heap.size (by omega))))
  replace HS := hide (HX.out.below hb3 (fun _ => HS.out.lt (by omega)))
  replace HG := hide (gb_later (gb_later HG.out E3 h12) hb3 h12)
  replace HC := HC3
  obtain ⟨ab, gb, cb, rfl, hgb, hOb⟩ := own_of_owns hO3
  obtain rfl := hOb.at' (by omega)
  have HOb := hide hOb
  clear hO3 hb3 hOb HX E3 HO0 HC3
  go_wp2_with fail
  refine (l1Once_any w.heap.size a b off n cap f 2 _ HC.out (HK.out.grow HG.out) hn (by omega) (by omega)).mono ?_
  rintro e w4 ⟨q, rfl, hCx, Tx⟩
  replace HC := hide hCx
  replace HS := hide (HS.out.touch Tx (fun _ => by omega))
  replace HOb := hide (HOb.out.touch Tx (fun _ => by omega))
  replace HG := hide (gb_trans HG.out (gb_touch Tx))
  clear hCx Tx
  cases q
  · have HSb := hide HOb.out.toSeg
    clear HOb
    go_wp2_with fail
    refine (l1Once_any w.heap.size a b off n cap f 4 _ HC.out (HK.out.grow HG.out) hn (by omega) (by omega)).mono ?_
    rintro e w10 ⟨u, rfl, hCx, Tx⟩
    replace HC := hide hCx
    replace HS := hide (HS.out.touch Tx (fun _ => by omega))
    replace HSb := hide (HSb.out.touch Tx (fun _ => by omega))
    replace HG := hide (gb_trans HG.out (gb_touch Tx))
    clear hCx Tx
    cases u
    · skip
      have E20 : Ext w10 (w10.alloc (.cells #[.int .i64 0, .int .i64 8, .int .i64 16, .int .i64 24, .int .i64 31, .int .i64 32, .int .i64 33, .int .i64 (-1), .int .i64 20] 3)) := Ext.alloc _ _
      have HS20 : Hid (Seg (w10.alloc (.cells #[.int .i64 0, .int .i64 8, .int .i64 16, .int .i64 24, .int .i64 31, .int .i64 32, .int .i64 33, .int .i64 (-1), .int .i64 20] 3)) (some ⟨w10.heap.size, 0, none⟩) w10.heap.size 0 9 (fun i => ([0, 8, 16, 24, 31, 32, 33, (-1), 20] : List Int).getD i 0)) := seg_list w10 [0, 8, 16, 24, 31, 32, 33, (-1), 20]
      have hne20 : w10.heap.size ≠ w.heap.size := by have := HG.out.size; omega
      obtain ⟨gg, hgg⟩ : ∃ gg : Nat → Int, (fun i => ([0, 8, 16, 24, 31, 32, 33, (-1), 20] : List Int).getD i 0) = gg := ⟨_, rfl⟩
      rw [hgg] at HS20
      have hrr : ∀ j, j < 9 → -1 ≤ gg j ∧ gg j ≤ 33 := by rw [← hgg]; exact pick_bits
      clear hgg
      replace HC := hide (HC.out.of_block (E20.block w.heap.size (by have := HG.out.size; omega)))
      replace HS := hide (HS.out.of_all E20)
      replace HSb := hide (HSb.out.of_all E20)
      replace HG := hide (gb_later HG.out E20 HG.out.size)
      clear E20
      go_wp2_with fail
      refine (l1PickInt_of w.heap.size a b off n cap f _ w10.heap.size 0 9 _ _ _ HC.out (HK.out.grow HG.out) hn HS20.out (by decide) (by decide) hne20).mono ?_
      rintro e w21 ⟨j1, hj1, rfl, hCx, Tx⟩
      have hr1 := hrr j1 hj1
      generalize gg j1 = bits at *
      have HF : Hid (GivesNet w (.returned (.tuple #[.slice (some ⟨g, 0, none⟩) k sc, .int .i64 bits, .slice (some ⟨gb, 0, none⟩) k cb])) w21) := ⟨g, k, sc, gb, k, cb, F, F, bits, rfl, k5, k5, hr1.1, hr1.2, HS.out.touch Tx (fun _ => by omega), HSb.out.touch Tx (fun _ => by omega), gb_to_below HB1.out (gb_trans HG.out (gb_touch Tx))⟩
      clear hCx Tx HS20 hne20 hrr hj1 hr1
      go_wp2
      go_ret3
      exact HF.out
    · go_wp2_with fail
      refine (l8DrawAddress_any w.heap.size a b off n cap f _ HC.out (HK.out.grow HG.out) hn (by have := HG.out.size; omega)).mono ?_
      rintro e w11 ⟨g4, k4, sc4, F4, rfl, hg4, k43, k45, hsc4, hS4, hC4, hG4⟩
      replace HC := hide hC4
      replace HS := hide (seg_gb HS.out hG4 (fun _ => by omega))
      have h10 := HG.out.size
      replace HG := hide (gb_trans HG.out hG4)
      replace HSb := hide hS4
      clear hC4 hS4 hG4
      have E20 : Ext w11 (w11.alloc (.cells #[.int .i64 0, .int .i64 8, .int .i64 16, .int .i64 24, .int .i64 31, .int .i64 32, .int .i64 33, .int .i64 (-1), .int .i64 20] 3)) := Ext.alloc _ _
      have HS20 : Hid (Seg (w11.alloc (.cells #[.int .i64 0, .int .i64 8, .int .i64 16, .int .i64 24, .int .i64 31, .int .i64 32, .int .i64 33, .int .i64 (-1), .int .i64 20] 3)) (some ⟨w11.heap.size, 0, none⟩) w11.heap.size 0 9 (fun i => ([0, 8, 16, 24, 31, 32, 33, (-1), 20] : List Int).getD i 0)) := seg_list w11 [0, 8, 16, 24, 31, 32, 33, (-1), 20]
      have hne20 : w11.heap.size ≠ w.heap.size := by have := HG.out.size; omega
      obtain ⟨gg, hgg⟩ : ∃ gg : Nat → Int, (fun i => ([0, 8, 16, 24, 31, 32, 33, (-1), 20] : List Int).getD i 0) = gg := ⟨_, rfl⟩
      rw [hgg] at HS20
      have hrr : ∀ j, j < 9 → -1 ≤ gg j ∧ gg j ≤ 33 := by rw [← hgg]; exact pick_bits
      clear hgg
      replace HC := hide (HC.out.of_block (E20.block w.heap.size (by have := HG.out.size; omega)))
      replace HS := hide (HS.out.of_all E20)
      replace HSb := hide (HSb.out.of_all E20)
      replace HG := hide (gb_later HG.out E20 HG.out.size)
      clear E20
      go_wp2_with fail
      refine (l1PickInt_of w.heap.size a b off n cap f _ w11.heap.size 0 9 _ _ _ HC.out (HK.out.grow HG.out) hn HS20.out (by decide) (by decide) hne20).mono ?_
      rintro e w21 ⟨j1, hj1, rfl, hCx, Tx⟩
      have hr1 := hrr j1 hj1
      generalize gg j1 = bits at *
      have HF : Hid (GivesNet w (.returned (.tuple #[.slice (some ⟨g, 0, none⟩) k sc, .int .i64 bits, .slice (some ⟨g4, 0, none⟩) k4 sc4])) w21) := ⟨g, k, sc, g4, k4, sc4, F, F4, bits, rfl, k5, k45, hr1.1, hr1.2, HS.out.touch Tx (fun _ => by omega), HSb.out.touch Tx (fun _ => by omega), gb_to_below HB1.out (gb_trans HG.out (gb_touch Tx))⟩
      clear hCx Tx HS20 hne20 hrr hj1 hr1
      go_wp2
      go_ret3
      exact HF.out
  · go_wp2_with fail
    refine (l1Below_any w.heap.size a b off n cap f 256 _ HC.out (HK.out.grow HG.out) hn (by omega) (by omega)).mono ?_
    rintro e w5 ⟨x, rfl, -, -, hCx, Tx⟩
    replace HC := hide hCx
    replace HS := hide (HS.out.touch Tx (fun _ => by omega))
    replace HOb := hide (HOb.out.touch Tx (fun _ => by omega))
    replace HG := hide (gb_trans HG.out (gb_touch Tx))
    clear hCx Tx
    obtain ⟨j, hj⟩ : ∃ j, k = j + 1 := ⟨k - 1, by omega⟩
    have cj := HOb.out.cell j (by omega)
    have fj := HOb.out.free j (by omega)
    rw [Nat.zero_add] at cj fj
    have hset := HOb.out.set (show j < k by omega) x
    rw [Nat.zero_add] at hset
    have HSb := hide hset.toSeg
    have hwk : wrap64 ((k : Int) - 1) = (j : Int) := by unfold wrap64; omega
    have hjk : (j : Int) < (k : Int) := by omega
    have hk1 : (k : Int) - 1 = (j : Int) := by omega
    have hk2 : k - 1 = j := by omega
    replace HC := hide (HC.out.of_block (Below.heap_setCell w5 ⟨gb, j, none⟩ (.int .i64 x) w.heap.size (by show w.heap.size ≠ gb; omega)))
    replace HS := hide (HS.out.touch ((Touch.refl gb w5).set j (.int .i64 x)) (fun _ => by omega))
    replace HG := hide (gb_later HG.out (show Below w1.heap.size w5 (w5.setCell ⟨gb, j, none⟩ (.int .i64 x)) from Below.setCell (Below.refl _ _) (by show w1.heap.size ≤ gb; omega) _) (Nat.le_refl _))
    have hgk : j < k := by omega
    clear hset HOb hj
    go_wp2_with fail
    generalize w5.setCell ⟨gb, j, none⟩ (.int .i64 x) = w6 at *
    clear cj fj hwk hjk hgk hk1 hk2
    refine (l1Once_any w.heap.size a b off n cap f 4 _ HC.out (HK.out.grow HG.out) hn (by omega) (by omega)).mono ?_
    rintro e w10 ⟨u, rfl, hCx, Tx⟩
    replace HC := hide hCx
    replace HS := hide (HS.out.touch Tx (fun _ => by omega))
    replace HSb := hide (HSb.out.touch Tx (fun _ => by omega))
    replace HG := hide (gb_trans HG.out (gb_touch Tx))
    clear hCx Tx
    cases u
    · skip
      have E20 : Ext w10 (w10.alloc (.cells #[.int .i64 0, .int .i64 8, .int .i64 16, .int .i64 24, .int .i64 31, .int .i64 32, .int .i64 33, .int .i64 (-1), .int .i64 20] 3)) := Ext.alloc _ _
      have HS20 : Hid (Seg (w10.alloc (.cells #[.int .i64 0, .int .i64 8, .int .i64 16, .int .i64 24, .int .i64 31, .int .i64 32, .int .i64 33, .int .i64 (-1), .int .i64 20] 3)) (some ⟨w10.heap.size, 0, none⟩) w10.heap.size 0 9 (fun i => ([0, 8, 16, 24, 31, 32, 33, (-1), 20] : List Int).getD i 0)) := seg_list w10 [0, 8, 16, 24, 31, 32, 33, (-1), 20]
      have hne20 : w10.heap.size ≠ w.heap.size := by have := HG.out.size; omega
      obtain ⟨gg, hgg⟩ : ∃ gg : Nat → Int, (fun i => ([0, 8, 16, 24, 31, 32, 33, (-1), 20] : List Int).getD i 0) = gg := ⟨_, rfl⟩
      rw [hgg] at HS20
      have hrr : ∀ j, j < 9 → -1 ≤ gg j ∧ gg j ≤ 33 := by rw [← hgg]; exact pick_bits
      clear hgg
      replace HC := hide (HC.out.of_block (E20.block w.heap.size (by have := HG.out.size; omega)))
      replace HS := hide (HS.out.of_all E20)
      replace HSb := hide (HSb.out.of_all E20)
      replace HG := hide (gb_later HG.out E20 HG.out.size)
      clear E20
      go_wp2_with fail
      refine (l1PickInt_of w.heap.size a b off n cap f _ w10.heap.size 0 9 _ _ _ HC.out (HK.out.grow HG.out) hn HS20.out (by decide) (by decide) hne20).mono ?_
      rintro e w21 ⟨j1, hj1, rfl, hCx, Tx⟩
      have hr1 := hrr j1 hj1
      generalize gg j1 = bits at *
      have HF : Hid (GivesNet w (.returned (.tuple #[.slice (some ⟨g, 0, none⟩) k sc, .int .i64 bits, .slice (some ⟨gb, 0, none⟩) k cb])) w21) := ⟨g, k, sc, gb, k, cb, F, _, bits, rfl, k5, k5, hr1.1, hr1.2, HS.out.touch Tx (fun _ => by omega), HSb.out.touch Tx (fun _ => by omega), gb_to_below HB1.out (gb_trans HG.out (gb_touch Tx))⟩
      clear hCx Tx HS20 hne20 hrr hj1 hr1
      go_wp2
      go_ret3
      exact HF.out
    · go_wp2_with fail
      refine (l8DrawAddress_any w.heap.size a b off n cap f _ HC.out (HK.out.grow HG.out) hn (by have := HG.out.size; omega)).mono ?_
      rintro e w11 ⟨g4, k4, sc4, F4, rfl, hg4, k43, k45, hsc4, hS4, hC4, hG4⟩
      replace HC := hide hC4
      replace HS := hide (seg_gb HS.out hG4 (fun _ => by omega))
      have h10 := HG.out.size
      replace HG := hide (gb_trans HG.out hG4)
      replace HSb := hide hS4
      clear hC4 hS4 hG4
      have E20 : Ext w11 (w11.alloc (.cells #[.int .i64 0, .int .i64 8, .int .i64 16, .int .i64 24, .int .i64 31, .int .i64 32, .int .i64 33, .int .i64 (-1), .int .i64 20] 3)) := Ext.alloc _ _
      have HS20 : Hid (Seg (w11.alloc (.cells #[.int .i64 0, .int .i64 8, .int .i64 16, .int .i64 24, .int .i64 31, .int .i64 32, .int .i64 33, .int .i64 (-1), .int .i64 20] 3)) (some ⟨w11.heap.size, 0, none⟩) w11.heap.size 0 9 (fun i => ([0, 8, 16, 24, 31, 32, 33, (-1), 20] : List Int).getD i 0)) := seg_list w11 [0, 8, 16, 24, 31, 32, 33, (-1), 20]
      have hne20 : w11.heap.size ≠ w.heap.size := by have := HG.out.size; omega
      obtain ⟨gg, hgg⟩ : ∃ gg : Nat → Int, (fun i => ([0, 8, 16, 24, 31, 32, 33, (-1), 20] : List Int).getD i 0) = gg := ⟨_, rfl⟩
      rw [hgg] at HS20
      have hrr : ∀ j, j < 9 → -1 ≤ gg j ∧ gg j ≤ 33 := by rw [← hgg]; exact pick_bits
      clear hgg
      replace HC := hide (HC.out.of_block (E20.block w.heap.size (by have := HG.out.size; omega)))
      replace HS := hide (HS.out.of_all E20)
      replace HSb := hide (HSb.out.of_all E20)
      replace HG := hide (gb_later HG.out E20 HG.out.size)
      clear E20
      go_wp2_with fail
      refine (l1PickInt_of w.heap.size a b off n cap f _ w11.heap.size 0 9 _ _ _ HC.out (HK.out.grow HG.out) hn HS20.out (by decide) (by decide) hne20).mono ?_
      rintro e w21 ⟨j1, hj1, rfl, hCx, Tx⟩
      have hr1 := hrr j1 hj1
      generalize gg j1 = bits at *
      have HF : Hid (GivesNet w (.returned (.tuple #[.slice (some ⟨g, 0, none⟩) k sc, .int .i64 bits, .slice (some ⟨g4, 0, none⟩) k4 sc4])) w21) := ⟨g, k, sc, g4, k4, sc4, F, F4, bits, rfl, k5, k45, hr1.1, hr1.2, HS.out.touch Tx (fun _ => by omega), HSb.out.touch Tx (fun _ => by omega), gb_to_below HB1.out (gb_trans HG.out (gb_touch Tx))⟩
      clear hCx Tx HS20 hne20 hrr hj1 hr1
      go_wp2
      go_ret3
      exact HF.out

end Go.Proofs.YtjidlahgfkdipacDoor
