/- Walks: DrawReadAddress. -/
import Derived.Test.YtjidlahgfkdipacDoorDrB
import Derived.Test.YtjidlahgfkdipacDoorAdL
namespace Go.Proofs.YtjidlahgfkdipacDoor
set_option linter.unusedVariables false
set_option linter.unusedSimpArgs false
open Go.RowKit Go.Sort

/-- A text is drawn. -/
def GivesStr (w : World) (e : Ending) (w' : World) : Prop := ∃ s : ByteArray, e = .returned (.string s) ∧ s.size ≤ 1048576 ∧ Ext w w'
theorem adrB_size (k : Nat) (F : Nat → Int) : (adrB k F).size ≤ 15 := by
  unfold adrB
  cases h : fourB k F with
  | false => show (⟨#[]⟩ : ByteArray).size ≤ _; decide
  | true => exact adr_size (four_is h).2
/-- The texts that are picked from. -/
def pkL : List ByteArray := [⟨#[]⟩, ⟨#[49, 46, 50, 46, 51]⟩, ⟨#[49, 46, 50, 46, 51, 46, 52, 46, 53]⟩, ⟨#[48, 49, 46, 50, 46, 51, 46, 52]⟩, ⟨#[49, 46, 50, 46, 51, 46, 50, 53, 54]⟩, ⟨#[49, 46, 50, 46, 51, 46]⟩, ⟨#[97, 46, 50, 46, 51, 46, 52]⟩, ⟨#[49, 46, 50, 46, 51, 46, 48, 48, 48, 52]⟩, ⟨#[48, 46, 48, 46, 48, 46, 48]⟩, ⟨#[49, 46, 46, 50, 46, 51]⟩, ⟨#[32, 49, 46, 50, 46, 51, 46, 52]⟩]
theorem pk_row (w : World) : ∀ i, i < 11 → (w.alloc (.cells (pkL.map Value.string).toArray 9)).cell? ⟨w.heap.size, i, none⟩ = some (.string (nth pkL i)) := row_strs w pkL
theorem pk_small : ∀ i, (nth pkL i).size ≤ 15 := nth_small pkL 15 (by decide)

set_option maxHeartbeats 3200000 in
set_option maxRecDepth 100000 in
theorem drawRead_any (a : Option Addr) (b off n cap : Nat) (f : Nat → Int) (w : World) (hs : BSeg w a b off n f) (hB : ∀ i, i < n → 0 ≤ f i ∧ f i ≤ 255) (hn : n ≤ 1048576) :
    Calls Tryd.prog 18 #[.slice a n cap] w fun e w' => GivesStr w e w' := by
  go_enter Tryd.func18, Tryd.ntmps18
  go_wp2_with fail
  refine (l1New_any a b off n cap f _ hs hB hn).mono ?_
  rintro e w1 ⟨rfl, hC1, hlt1, B1⟩
  have K1 : Code w1 w.heap.size a b off n f := ⟨hs.of_all B1, hB, fun h => by have := hs.lt h; omega⟩
  go_wp2_with fail
  refine (l8DrawAddress_any w.heap.size a b off n cap f _ hC1 K1 hn hlt1).mono ?_
  rintro e w2 ⟨g, k, sc, F, rfl, hg, k3, k5, hsc, hS, hC2, hG⟩
  have HC := hide hC2
  have HG := hide hG
  have HK := hide K1
  have HB1 := hide B1
  have HW := hide (specWrite_any _ g 0 k sc F _ hS (by omega))
  have hz := adrB_size k F
  generalize adrB k F = s at *
  generalize fourB k F = B4 at *
  clear hC1 K1 hC2 hG B1 hs hS
  go_wp2_with fail
  refine HW.out.mono ?_
  rintro e w3 ⟨rfl, E3⟩
  have h12 := HG.out.size
  replace HC := hide (HC.out.of_block (E3.block w.heap.size (by omega)))
  replace HG := hide (gb_later HG.out E3 h12)
  clear E3 HW
  go_wp2_with fail
  refine (l1Below_any w.heap.size a b off n cap f 6 _ HC.out (HK.out.grow HG.out) hn (by omega) (by omega)).mono ?_
  rintro e w4 ⟨d, rfl, d0, d1, hCx, Tx⟩
  replace HC := hide hCx
  replace HG := hide (gb_trans HG.out (gb_touch Tx))
  clear hCx Tx d0 d1
  by_cases c0 : d = 0
  · subst c0
    have h4 := HG.out.size
    have E5 : Ext w4 (w4.alloc (.cells (pkL.map Value.string).toArray 9)) := Ext.alloc _ _
    have HR := hide (pk_row w4)
    have hne : w4.heap.size ≠ w.heap.size := by omega
    replace HC := hide (HC.out.of_block (E5.block w.heap.size (by omega)))
    replace HG := hide (gb_later HG.out E5 h4)
    clear E5
    have HP := hide (l1Pick_any w.heap.size a b off n cap f w4.heap.size 11 11 (nth pkL) _ HC.out (HK.out.grow HG.out) hn HR.out (by decide) (by decide) hne)
    go_wp2_with fail
    refine HP.out.mono ?_
    rintro e w6 ⟨i, hi, rfl, hCx, Tx⟩
    have hps := pk_small i
    generalize nth pkL i = r at *
    have HF : Hid (GivesStr w (.returned (.string r)) w6) := ⟨r, rfl, by omega, gb_to_below HB1.out (gb_trans HG.out (gb_touch Tx))⟩
    clear hCx Tx HP HR hi hps
    go_wp2
    go_ret
    exact HF.out
  · have q0 : (d == 0) = false := by simp [c0]
    by_cases c1 : d = 1
    · subst c1
      clear c0 q0
      by_cases hN : s.size = 0
      · have hN' : ¬ (0 : Int) < (s.size : Int) := by omega
        have HF : Hid (GivesStr w (.returned (.string s)) w4) := ⟨s, rfl, by omega, gb_to_below HB1.out HG.out⟩
        clear hN
        go_wp2
        go_ret
        exact HF.out
      · have hN' : (0 : Int) < (s.size : Int) := by omega
        go_wp2_with fail
        refine (l1Below_any w.heap.size a b off n cap f (s.size : Int) _ HC.out (HK.out.grow HG.out) hn (by omega) (by omega)).mono ?_
        rintro e w5 ⟨x, rfl, x0, x1, hCx, Tx⟩
        obtain ⟨j, rfl⟩ := Int.eq_ofNat_of_zero_le x0
        have hj : j ≤ s.size := by omega
        have hj' : (j : Int) ≤ (s.size : Int) := by omega
        have HF : Hid (GivesStr w (.returned (.string (s.extract 0 j))) w5) := ⟨_, rfl, by rw [ByteArray.size_extract]; omega, gb_to_below HB1.out (gb_trans HG.out (gb_touch Tx))⟩
        clear hCx Tx x0 x1 hN
        go_wp2
        go_ret
        exact HF.out
    · have q1 : (d == 1) = false := by simp [c1]
      have HF : Hid (GivesStr w (.returned (.string s)) w4) := ⟨s, rfl, by omega, gb_to_below HB1.out HG.out⟩
      clear c0 c1
      go_wp2
      go_ret
      exact HF.out

end Go.Proofs.YtjidlahgfkdipacDoor
