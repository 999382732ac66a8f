/- Walks: the model's draws of addresses. -/
import Derived.Test.YtjidlahgfkdipacDoorDrawN
import Derived.Test.YtjidlahgfkdipacDoorGb
import Derived.Test.YtjidlahgfkdipacDoorBlk
import Derived.Test.YtjidlahgfkdipacDoorStepsC
namespace Go.Proofs.YtjidlahgfkdipacDoor
set_option linter.unusedVariables false
set_option linter.unusedSimpArgs false
open Go.RowKit

/-- An address is drawn. -/
def GivesAd (w : World) (C : Nat) (a : Option Addr) (n cap : Nat) (e : Ending) (w' : World) : Prop :=
  ∃ (g k sc : Nat) (F : Nat → Int), e = .returned (.slice (some ⟨g, 0, none⟩) k sc) ∧ w.heap.size ≤ g ∧ 3 ≤ k ∧ k ≤ 5 ∧ k ≤ sc ∧ Seg w' (some ⟨g, 0, none⟩) g 0 k F ∧ Cur w' C a n cap ∧ w.grownBy w' (some C)

theorem lit_ints (x0 x1 x2 x3 : Int) : (#[Value.int .i64 x0, .int .i64 x1, .int .i64 x2, .int .i64 x3] : Array Value).toList = ints (fun i => ([x0, x1, x2, x3] : List Int).getD i 0) 4 := rfl
theorem lit_seg {w : World} {B G : Nat} {x0 x1 x2 x3 : Int} (h : w.ownsRow B 3 1 (.slice (some ⟨G, 0, none⟩) 4 4) 4 (#[Value.int .i64 x0, .int .i64 x1, .int .i64 x2, .int .i64 x3] : Array Value).toList) : Seg w (some ⟨G, 0, none⟩) G 0 4 (fun i => ([x0, x1, x2, x3] : List Int).getD i 0) := by
  rw [lit_ints] at h
  obtain ⟨a, g, cap, e, -, hO⟩ := own_of_owns h
  have := hO.at' (by omega)
  subst this
  injection e with e1 e2 e3
  injection e1 with e1
  injection e1 with e1
  subst e1
  exact hO.toSeg
theorem lit_own {w : World} {B G : Nat} {x0 x1 x2 x3 : Int} (h : w.ownsRow B 3 1 (.slice (some ⟨G, 0, none⟩) 4 4) 4 (#[Value.int .i64 x0, .int .i64 x1, .int .i64 x2, .int .i64 x3] : Array Value).toList) : Own w (some ⟨G, 0, none⟩) G 0 4 (fun i => ([x0, x1, x2, x3] : List Int).getD i 0) := by
  rw [lit_ints] at h
  obtain ⟨a, g, cap, e, -, hO⟩ := own_of_owns h
  have := hO.at' (by omega)
  subst this
  injection e with e1 e2 e3
  injection e1 with e1
  injection e1 with e1
  subst e1
  exact hO
theorem seg_one' (w : World) (x : Int) : Seg (w.alloc (.cells #[.int .i64 x] 3)) (some ⟨w.heap.size, 0, none⟩) w.heap.size 0 1 (fun _ => x) :=
  ⟨fun _ => rfl, fun i hi => by
    obtain rfl : i = 0 := by omega
    exact (Blk.alloc w [.int .i64 x] 3 0 _ rfl).1⟩
theorem owns_five {w : World} {B : Nat} {v : Value} {x0 x1 x2 x3 : Int} (h : w.ownsRow B 3 1 v (4 + 1) ((#[Value.int .i64 x0, .int .i64 x1, .int .i64 x2, .int .i64 x3] : Array Value).toList ++ ints (fun _ => 1) 1)) : ∃ g sc, v = .slice (some ⟨g, 0, none⟩) 5 sc ∧ B ≤ g ∧ 5 ≤ sc ∧ Seg w (some ⟨g, 0, none⟩) g 0 5 (fun i => ([x0, x1, x2, x3, 1] : List Int).getD i 0) := by
  have e : (#[Value.int .i64 x0, .int .i64 x1, .int .i64 x2, .int .i64 x3] : Array Value).toList ++ ints (fun _ => 1) 1 = ints (fun i => ([x0, x1, x2, x3, 1] : List Int).getD i 0) 5 := rfl
  rw [e] at h
  have h' := h
  obtain ⟨a, g, cap, rfl, hg, hO⟩ := own_of_owns h
  have := hO.at' (by omega)
  subst this
  rcases h'.2 with ⟨e, h1⟩ | ⟨g2, cap2, cur, hv, -, -, h1, -⟩
  · omega
  · injection hv with e1 e2 e3
    subst e3
    exact ⟨g, cap, rfl, hg, h1, hO.toSeg⟩

set_option maxHeartbeats 3200000 in
set_option maxRecDepth 100000 in
theorem l8DrawAddress_any (C : Nat) (a : Option Addr) (b off n cap : Nat) (f : Nat → Int) (w : World) (hC : Cur w C a n cap) (hK : Code w C a b off n f) (hn : n ≤ 1048576) (hCw : C < w.heap.size) :
    Calls Tryd.prog 41 #[.pointer (some ⟨C, 0, none⟩)] w fun e w' => GivesAd w C a n cap e w' := by
  have HK := hide hK
  have HC := hide hC
  have HG : Hid (w.grownBy w (some C)) := gb_refl w
  have E1 : Ext w (w.alloc (.cells #[.int .i64 10, .int .i64 192, .int .i64 127, .int .i64 0, .int .i64 255] 3)) := Ext.alloc _ _
  have HS1 : Hid (Seg (w.alloc (.cells #[.int .i64 10, .int .i64 192, .int .i64 127, .int .i64 0, .int .i64 255] 3)) (some ⟨w.heap.size, 0, none⟩) w.heap.size 0 5 (fun i => ([10, 192, 127, 0, 255] : List Int).getD i 0)) := seg_list w [10, 192, 127, 0, 255]
  have hne1 : w.heap.size ≠ C := by omega
  generalize (fun i => ([10, 192, 127, 0, 255] : List Int).getD i 0) = gg at *
  replace HC := hide (HC.out.of_block (E1.block C hCw))
  replace HG := hide (gb_later HG.out E1 (Nat.le_refl _))
  clear hC hK E1
  go_enter Tryd.func41, Tryd.ntmps41
  go_wp2_with fail
  refine (l1PickInt_of C a b off n cap f _ w.heap.size 0 5 _ _ _ HC.out (HK.out.grow HG.out) hn HS1.out (by decide) (by decide) hne1).mono ?_
  rintro e w2 ⟨j1, hj1, rfl, hCx, Tx⟩
  generalize gg j1 = x0 at *
  replace HC := hide hCx
  replace HG := hide (gb_trans HG.out (gb_touch Tx))
  clear hCx Tx HS1 hne1 hj1
  go_wp2_with fail
  refine (l1Below_any C a b off n cap f 3 _ HC.out (HK.out.grow HG.out) hn (by omega) (by omega)).mono ?_
  rintro e w3 ⟨x1, rfl, -, -, hCx, Tx⟩
  replace HC := hide hCx
  replace HG := hide (gb_trans HG.out (gb_touch Tx))
  clear hCx Tx
  go_wp2_with fail
  refine (l1Below_any C a b off n cap f 256 _ HC.out (HK.out.grow HG.out) hn (by omega) (by omega)).mono ?_
  rintro e w4 ⟨x2, rfl, -, -, hCx, Tx⟩
  replace HC := hide hCx
  replace HG := hide (gb_trans HG.out (gb_touch Tx))
  clear hCx Tx
  go_wp2_with fail
  refine (l1Below_any C a b off n cap f 256 _ HC.out (HK.out.grow HG.out) hn (by omega) (by omega)).mono ?_
  rintro e w5 ⟨x3, rfl, -, -, hCx, Tx⟩
  replace HC := hide hCx
  replace HG := hide (gb_trans HG.out (gb_touch Tx))
  clear hCx Tx
  have hB5 : w.heap.size ≤ w5.heap.size := HG.out.size
  have HO := hide (World.ownsRow_lit (e := 3) (size := 1) (base := w.heap.size) w5 #[.int .i64 x0, .int .i64 x1, .int .i64 x2, .int .i64 x3] 4 hB5 (by decide) rfl)
  have E6 : Ext w5 (w5.alloc (.cells #[.int .i64 x0, .int .i64 x1, .int .i64 x2, .int .i64 x3] 3)) := Ext.alloc _ _
  replace HC := hide (HC.out.of_block (E6.block C (by omega)))
  replace HG := hide (gb_later HG.out E6 hB5)
  clear E6
  go_wp2_with fail
  generalize w5.alloc (.cells #[.int .i64 x0, .int .i64 x1, .int .i64 x2, .int .i64 x3] 3) = w6 at *
  generalize w5.heap.size = G at *
  refine (l1Below_any C a b off n cap f 25 _ HC.out (HK.out.grow HG.out) hn (by omega) (by omega)).mono ?_
  rintro e w7 ⟨d, rfl, d0, d1, hCx, Tx⟩
  replace HC := hide hCx
  replace HO := hide (owns_gb HO.out (gb_touch Tx) hCw)
  replace HG := hide (gb_trans HG.out (gb_touch Tx))
  clear hCx Tx
  by_cases c0 : d = 0
  · subst c0
    go_wp2_with fail
    refine (l1Below_any C a b off n cap f 4 _ HC.out (HK.out.grow HG.out) hn (by omega) (by omega)).mono ?_
    rintro e w8 ⟨jj, rfl, y0, y1, hCx, Tx⟩
    replace HC := hide hCx
    replace HO := hide (owns_gb HO.out (gb_touch Tx) hCw)
    replace HG := hide (gb_trans HG.out (gb_touch Tx))
    obtain ⟨j, rfl⟩ := Int.eq_ofNat_of_zero_le y0
    have hj : j < 4 := by omega
    have hj' : (j : Int) < 4 := by omega
    clear hCx Tx y0 y1
    have E9 : Ext w8 (w8.alloc (.cells #[.int .i64 (-1), .int .i64 256] 3)) := Ext.alloc _ _
    have HS9 : Hid (Seg (w8.alloc (.cells #[.int .i64 (-1), .int .i64 256] 3)) (some ⟨w8.heap.size, 0, none⟩) w8.heap.size 0 2 (fun i => ([-1, 256] : List Int).getD i 0)) := seg_list w8 [-1, 256]
    have hne9 : w8.heap.size ≠ C := by have := HG.out.size; omega
    generalize (fun i => ([-1, 256] : List Int).getD i 0) = gg2 at *
    replace HC := hide (HC.out.of_block (E9.block C (by have := HG.out.size; omega)))
    replace HO := hide (HO.out.alloc (.cells #[.int .i64 (-1), .int .i64 256] 3))
    replace HG := hide (gb_later HG.out E9 HG.out.size)
    clear E9
    go_wp2_with fail
    refine (l1PickInt_of C a b off n cap f _ w8.heap.size 0 2 _ _ _ HC.out (HK.out.grow HG.out) hn HS9.out (by decide) (by decide) hne9).mono ?_
    rintro e w10 ⟨i1, hi1, rfl, hCx, Tx⟩
    generalize gg2 i1 = x4 at *
    replace HC := hide hCx
    replace HO := hide (owns_gb HO.out (gb_touch Tx) hCw)
    replace HG := hide (gb_trans HG.out (gb_touch Tx))
    clear hCx Tx HS9 hne9 hi1
    have hW := lit_own HO.out
    have cj := hW.cell j hj
    have fj := hW.free j hj
    rw [Nat.zero_add] at cj fj
    have hnC : G ≠ C := by omega
    have hset := hW.set hj x4
    rw [Nat.zero_add] at hset
    have HF : Hid (GivesAd w C a n cap (.returned (.slice (some ⟨G, 0, none⟩) 4 4)) (w10.setCell ⟨G, j, none⟩ (.int .i64 x4))) := ⟨G, 4, 4, _, rfl, hB5, by omega, by omega, by omega, hset.toSeg, HC.out.of_block (Below.heap_setCell _ _ _ _ (fun e => hnC e.symm)), gb_later HG.out (Below.setCell (Below.refl w.heap.size w10) hB5 _) (Nat.le_refl _)⟩
    clear hW hset
    go_wp2
    go_ret
    exact HF.out
  · have q0 : (d == 0) = false := by simp [c0]
    by_cases c1 : d = 1
    · subst c1
      clear c0 q0
      have HF : Hid (GivesAd w C a n cap (.returned (.slice (some ⟨G, 0, none⟩) 3 4)) w7) := ⟨G, 3, 4, fun i => ([x0, x1, x2, x3] : List Int).getD i 0, rfl, hB5, by omega, by omega, by omega, (lit_seg HO.out).cut (by omega), HC.out, HG.out⟩
      go_wp2
      go_ret
      exact HF.out
    · have q1 : (d == 1) = false := by simp [c1]
      by_cases c2 : d = 2
      · subst c2
        clear c0 c1 q0 q1
        have HX := hide (seg_one' w7 1)
        have E8 : Ext w7 (w7.alloc (.cells #[.int .i64 1] 3)) := Ext.alloc _ _
        have HO8 := hide (HO.out.alloc (.cells #[.int .i64 1] 3))
        have hB8 : w.heap.size ≤ (w7.alloc (.cells #[.int .i64 1] 3)).heap.size := by have := HG.out.size; simp; omega
        go_wp2_with (at_builtin; refine wpList_append_is rfl _ _ rfl w.heap.size _ 4 _ rfl HO8.out _ w7.heap.size 0 1 1 (fun _ => 1) rfl HX.out (by omega) hB8 ?_)
        intro v9 w9 hO9 hb9
        have HC9 := hide (HC.out.of_block ((hb9.block C hCw).trans (E8.block C (by have := HG.out.size; omega))))
        have HG9 := hide (gb_later (gb_later HG.out E8 HG.out.size) hb9 (Nat.le_refl _))
        obtain ⟨gg9, sc9, rfl, hge, hsc, hS9⟩ := owns_five hO9
        clear hO9 hb9 E8 HX HO8 hB8
        go_wp2
        go_ret
        exact ⟨gg9, 5, sc9, _, rfl, hge, by omega, by omega, hsc, hS9, HC9.out, HG9.out⟩
      · have q2 : (d == 2) = false := by simp [c2]
        have HF : Hid (GivesAd w C a n cap (.returned (.slice (some ⟨G, 0, none⟩) 4 4)) w7) := ⟨G, 4, 4, fun i => ([x0, x1, x2, x3] : List Int).getD i 0, rfl, hB5, by omega, by omega, by omega, lit_seg HO.out, HC.out, HG.out⟩
        clear c0 c1 c2
        go_wp2
        go_ret
        exact HF.out

end Go.Proofs.YtjidlahgfkdipacDoor
