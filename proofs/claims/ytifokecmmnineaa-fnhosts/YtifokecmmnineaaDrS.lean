/- Walks of the model's draws of strings: l1Pick, l8DrawHost, l8DrawAny, DrawHostMatch, DrawUnder (written by mkdrs.py). -/
import Derived.Test.YtifokecmmnineaaHos
import Derived.Test.YtifokecmmnineaaDrawN
import Derived.Test.YtifokecmmnineaaGb
namespace Go.Proofs.Ytifokecmmnineaa
set_option linter.unusedVariables false
set_option linter.unusedSimpArgs false
open Go.RowKit

theorem row_strs (w : World) (L : List ByteArray) : ∀ i, i < L.length → (w.alloc (.cells (L.map Value.string).toArray 9)).cell? ⟨w.heap.size, i, none⟩ = some (.string (nth L i)) := by
  intro i hi
  have hb : (w.alloc (.cells (L.map Value.string).toArray 9)).heap[w.heap.size]? = some (.cells (L.map Value.string).toArray 9) := heap_alloc_new w _
  simp only [World.cell?, hb]
  simp [nth, hi]

theorem nth_small (L : List ByteArray) (m : Nat) (h : ∀ x ∈ L, x.size ≤ m) : ∀ i, (nth L i).size ≤ m := by
  intro i
  unfold nth
  rw [List.getD_eq_getElem?_getD]
  by_cases hi : i < L.length
  · rw [List.getElem?_eq_getElem hi]; exact h _ (List.getElem_mem hi)
  · rw [List.getElem?_eq_none (by omega)]; exact Nat.zero_le _

/-- One of the texts is drawn. -/
def GivesPk (w : World) (C : Nat) (a : Option Addr) (n cap m : Nat) (g : Nat → ByteArray) (e : Ending) (w' : World) : Prop :=
  ∃ j, j < m ∧ e = .returned (.string (g j)) ∧ Cur w' C a n cap ∧ Touch C w w'

set_option maxHeartbeats 800000 in
theorem l1Pick_any (C : Nat) (a : Option Addr) (b off n cap : Nat) (f : Nat → Int) (b2 m cap2 : Nat) (g : Nat → ByteArray) (w : World) (hC : Cur w C a n cap) (hK : Code w C a b off n f) (hn : n ≤ 1048576) (hs : ∀ i, i < m → w.cell? ⟨b2, i, none⟩ = some (.string (g i))) (hm : 0 < m) (hm1 : m ≤ 100) (hne : b2 ≠ C) :
    Calls Try.prog 35 #[.pointer (some ⟨C, 0, none⟩), .slice (some ⟨b2, 0, none⟩) m cap2] w fun e w' => GivesPk w C a n cap m g e w' := by
  go_enter Try.func35, Try.ntmps35
  go_wp2_with fail
  refine (l1Below_any C a b off n cap f (m : Int) _ hC hK hn (by omega) (by omega)).mono ?_
  rintro e w1 ⟨x, rfl, x0, x1, hC1, T1⟩
  obtain ⟨i, rfl⟩ := Int.eq_ofNat_of_zero_le x0
  have hc := (World.cell?_of_block (a := ⟨b2, i, none⟩) (T1.grown.block b2 (World.block_lt_of_cell? _ _ (hs 0 hm)) (by simp; exact hne))).trans (hs i (by omega))
  have him : (i : Int) < (m : Int) := by omega
  clear hs hK
  go_wp2
  go_ret
  exact ⟨i, by omega, rfl, hC1, T1⟩

/-- A text is drawn. -/
def GivesT (w : World) (C : Nat) (a : Option Addr) (n cap lim : Nat) (e : Ending) (w' : World) : Prop :=
  ∃ x : ByteArray, e = .returned (.string x) ∧ x.size ≤ lim ∧ Cur w' C a n cap ∧ w.grownBy w' (some C)

set_option maxHeartbeats 3200000 in
set_option maxRecDepth 100000 in
theorem l8DrawHost_any (C : Nat) (a : Option Addr) (b off n cap : Nat) (f : Nat → Int) (w : World) (hC : Cur w C a n cap) (hK : Code w C a b off n f) (hn : n ≤ 1048576) (hCw : C < w.heap.size) :
    Calls Try.prog 42 #[.pointer (some ⟨C, 0, none⟩)] w fun e w' => GivesT w C a n cap 400 e w' := by
  have HK := hide hK
  have HC := hide hC
  have HG : Hid (w.grownBy w (some C)) := gb_refl w
  clear hC hK
  go_enter Try.func42, Try.ntmps42
  have E1 : Ext w (w.alloc (.cells #[.string ⟨#[97]⟩, .string ⟨#[119, 119, 119]⟩, .string ⟨#[109, 97, 105, 108]⟩, .string ⟨#[120, 49]⟩, .string ⟨#[98, 45, 99]⟩] 9)) := Ext.alloc _ _
  have HR : Hid (∀ i, i < 5 → (w.alloc (.cells #[.string ⟨#[97]⟩, .string ⟨#[119, 119, 119]⟩, .string ⟨#[109, 97, 105, 108]⟩, .string ⟨#[120, 49]⟩, .string ⟨#[98, 45, 99]⟩] 9)).cell? ⟨w.heap.size, i, none⟩ = some (.string (nth ([⟨#[97]⟩, ⟨#[119, 119, 119]⟩, ⟨#[109, 97, 105, 108]⟩, ⟨#[120, 49]⟩, ⟨#[98, 45, 99]⟩] : List ByteArray) i))) := row_strs w ([⟨#[97]⟩, ⟨#[119, 119, 119]⟩, ⟨#[109, 97, 105, 108]⟩, ⟨#[120, 49]⟩, ⟨#[98, 45, 99]⟩] : List ByteArray)
  have hne : w.heap.size ≠ C := by have := HG.out.size; omega
  have HSz : Hid (∀ i, (nth ([⟨#[97]⟩, ⟨#[119, 119, 119]⟩, ⟨#[109, 97, 105, 108]⟩, ⟨#[120, 49]⟩, ⟨#[98, 45, 99]⟩] : List ByteArray) i).size ≤ 64) := nth_small _ _ (by decide)
  obtain ⟨gg, hgg⟩ : ∃ gg : Nat → ByteArray, nth ([⟨#[97]⟩, ⟨#[119, 119, 119]⟩, ⟨#[109, 97, 105, 108]⟩, ⟨#[120, 49]⟩, ⟨#[98, 45, 99]⟩] : List ByteArray) = gg := ⟨_, rfl⟩
  rw [hgg] at HR HSz
  clear hgg
  replace HC := hide (HC.out.of_block (Below.block E1 C (Nat.lt_of_lt_of_le hCw HG.out.size)))
  replace HG := hide (gb_later HG.out E1 HG.out.size)
  clear E1
  go_wp2_with fail
  refine (l1Pick_any C a b off n cap f w.heap.size 5 _ gg _ HC.out (HK.out.grow HG.out) hn HR.out (by decide) (by decide) hne).mono ?_
  rintro e w1 ⟨j, hj, rfl, hCx, Tx⟩
  have xs := HSz.out j
  generalize gg j = x at *
  clear HSz HR hne hj
  replace HC := hide hCx
  replace HG := hide (gb_trans HG.out (gb_touch Tx))
  clear hCx Tx
  go_wp2_with fail
  refine (l1Below_any C a b off n cap f 3 _ HC.out (HK.out.grow HG.out) hn (by omega) (by omega)).mono ?_
  rintro e w2 ⟨y, rfl, y0, y1, hCx, Tx⟩
  replace HC := hide hCx
  replace HG := hide (gb_trans HG.out (gb_touch Tx))
  clear hCx Tx
  obtain ⟨i, rfl⟩ := Int.eq_ofNat_of_zero_le y0
  go_wp2
  go_loopw [3, 4] (fun v q wr => ∃ (x : ByteArray) (k : Nat), v = .string x ∧ q = .int .i64 (k : Int) ∧ k ≤ 2 ∧ x.size + 65 * k ≤ 194 ∧ Cur wr C a n cap ∧ w.grownBy wr (some C)) (fun _ q _ => (intOf q).toNat)
  case atStart => exact ⟨x, i, rfl, rfl, by omega, by omega, HC.out, HG.out⟩
  case round =>
    clear HC HG
    obtain ⟨x, k, rfl, rfl, hk, hx, hC, hG⟩ := hrel
    have HC := hide hC
    have HG := hide hG
    clear hC hG
    by_cases hk0 : k = 0
    · subst hk0
      have g1 : ¬ 9223372036854775807 < x.size + 1 := by omega
      have E1 : Ext wr (wr.alloc (.cells #[.string ⟨#[111, 114, 103]⟩, .string ⟨#[116, 101, 115, 116]⟩, .string ⟨#[110, 101, 116]⟩] 9)) := Ext.alloc _ _
      have HR : Hid (∀ i, i < 3 → (wr.alloc (.cells #[.string ⟨#[111, 114, 103]⟩, .string ⟨#[116, 101, 115, 116]⟩, .string ⟨#[110, 101, 116]⟩] 9)).cell? ⟨wr.heap.size, i, none⟩ = some (.string (nth ([⟨#[111, 114, 103]⟩, ⟨#[116, 101, 115, 116]⟩, ⟨#[110, 101, 116]⟩] : List ByteArray) i))) := row_strs wr ([⟨#[111, 114, 103]⟩, ⟨#[116, 101, 115, 116]⟩, ⟨#[110, 101, 116]⟩] : List ByteArray)
      have hne : wr.heap.size ≠ C := by have := HG.out.size; omega
      have HSz : Hid (∀ i, (nth ([⟨#[111, 114, 103]⟩, ⟨#[116, 101, 115, 116]⟩, ⟨#[110, 101, 116]⟩] : List ByteArray) i).size ≤ 64) := nth_small _ _ (by decide)
      obtain ⟨gg, hgg⟩ : ∃ gg : Nat → ByteArray, nth ([⟨#[111, 114, 103]⟩, ⟨#[116, 101, 115, 116]⟩, ⟨#[110, 101, 116]⟩] : List ByteArray) = gg := ⟨_, rfl⟩
      rw [hgg] at HR HSz
      clear hgg
      replace HC := hide (HC.out.of_block (Below.block E1 C (Nat.lt_of_lt_of_le hCw HG.out.size)))
      replace HG := hide (gb_later HG.out E1 HG.out.size)
      clear E1
      go_wp2_with fail
      refine (l1Pick_any C a b off n cap f wr.heap.size 3 _ gg _ HC.out (HK.out.grow HG.out) hn HR.out (by decide) (by decide) hne).mono ?_
      rintro e w4 ⟨j, hj, rfl, hCx, Tx⟩
      have zs := HSz.out j
      generalize gg j = z at *
      clear HSz HR hne hj
      replace HC := hide hCx
      replace HG := hide (gb_trans HG.out (gb_touch Tx))
      clear hCx Tx
      have g2 : ¬ 9223372036854775807 < x.size + 1 + z.size := by omega
      go_wp2
      go_ret
      exact ⟨_, rfl, by simp [ByteArray.size_append', ByteArray.size_mk']; omega, HC.out, HG.out⟩
    · have hk1 : (0 : Int) < (k : Int) := by omega
      have g1 : ¬ 9223372036854775807 < x.size + 1 := by omega
      have E1 : Ext wr (wr.alloc (.cells #[.string ⟨#[97]⟩, .string ⟨#[98]⟩, .string ⟨#[101, 120, 97, 109, 112, 108, 101]⟩, .string ⟨#[119, 51]⟩, .string ⟨#[120, 45, 121]⟩] 9)) := Ext.alloc _ _
      have HR : Hid (∀ i, i < 5 → (wr.alloc (.cells #[.string ⟨#[97]⟩, .string ⟨#[98]⟩, .string ⟨#[101, 120, 97, 109, 112, 108, 101]⟩, .string ⟨#[119, 51]⟩, .string ⟨#[120, 45, 121]⟩] 9)).cell? ⟨wr.heap.size, i, none⟩ = some (.string (nth ([⟨#[97]⟩, ⟨#[98]⟩, ⟨#[101, 120, 97, 109, 112, 108, 101]⟩, ⟨#[119, 51]⟩, ⟨#[120, 45, 121]⟩] : List ByteArray) i))) := row_strs wr ([⟨#[97]⟩, ⟨#[98]⟩, ⟨#[101, 120, 97, 109, 112, 108, 101]⟩, ⟨#[119, 51]⟩, ⟨#[120, 45, 121]⟩] : List ByteArray)
      have hne : wr.heap.size ≠ C := by have := HG.out.size; omega
      have HSz : Hid (∀ i, (nth ([⟨#[97]⟩, ⟨#[98]⟩, ⟨#[101, 120, 97, 109, 112, 108, 101]⟩, ⟨#[119, 51]⟩, ⟨#[120, 45, 121]⟩] : List ByteArray) i).size ≤ 64) := nth_small _ _ (by decide)
      obtain ⟨gg, hgg⟩ : ∃ gg : Nat → ByteArray, nth ([⟨#[97]⟩, ⟨#[98]⟩, ⟨#[101, 120, 97, 109, 112, 108, 101]⟩, ⟨#[119, 51]⟩, ⟨#[120, 45, 121]⟩] : List ByteArray) = gg := ⟨_, rfl⟩
      rw [hgg] at HR HSz
      clear hgg
      replace HC := hide (HC.out.of_block (Below.block E1 C (Nat.lt_of_lt_of_le hCw HG.out.size)))
      replace HG := hide (gb_later HG.out E1 HG.out.size)
      clear E1
      go_wp2_with fail
      refine (l1Pick_any C a b off n cap f wr.heap.size 5 _ gg _ HC.out (HK.out.grow HG.out) hn HR.out (by decide) (by decide) hne).mono ?_
      rintro e w4 ⟨j, hj, rfl, hCx, Tx⟩
      have zs := HSz.out j
      generalize gg j = z at *
      clear HSz HR hne hj
      replace HC := hide hCx
      replace HG := hide (gb_trans HG.out (gb_touch Tx))
      clear hCx Tx
      have g2 : ¬ 9223372036854775807 < x.size + 1 + z.size := by omega
      go_wp2
      go_roundw
      case rel => exact ⟨_, k - 1, rfl, by congr 1; omega, by omega, by simp [ByteArray.size_append', ByteArray.size_mk']; omega, HC.out, HG.out⟩
      case measure => simp [intOf]; omega

set_option maxHeartbeats 3200000 in
set_option maxRecDepth 100000 in
theorem l8DrawAny_any (C : Nat) (a : Option Addr) (b off n cap : Nat) (f : Nat → Int) (w : World) (hC : Cur w C a n cap) (hK : Code w C a b off n f) (hn : n ≤ 1048576) (hCw : C < w.heap.size) :
    Calls Try.prog 33 #[.pointer (some ⟨C, 0, none⟩)] w fun e w' => GivesT w C a n cap 500 e w' := by
  have HK := hide hK
  have HC := hide hC
  have HG : Hid (w.grownBy w (some C)) := gb_refl w
  clear hC hK
  go_enter Try.func33, Try.ntmps33
  go_wp2_with fail
  refine (l1Below_any C a b off n cap f 8 _ HC.out (HK.out.grow HG.out) hn (by omega) (by omega)).mono ?_
  rintro e w1 ⟨y, rfl, y0, y1, hCx, Tx⟩
  replace HC := hide hCx
  replace HG := hide (gb_trans HG.out (gb_touch Tx))
  clear hCx Tx
  have HX : Hid (C < w1.heap.size) := Nat.lt_of_lt_of_le hCw HG.out.size
  by_cases s0 : y = 0
  · subst s0
    have E1 : Ext w1 (w1.alloc (.cells #[.string ⟨#[]⟩, .string ⟨#[46]⟩, .string ⟨#[97, 46, 46, 98]⟩, .string ⟨#[45, 97, 46, 111, 114, 103]⟩, .string ⟨#[97, 45, 46, 111, 114, 103]⟩, .string ⟨#[65, 46, 111, 114, 103]⟩, .string ⟨#[97, 46, 49]⟩, .string ⟨#[49, 46, 97]⟩, .string ⟨#[97, 32, 98, 46, 111, 114, 103]⟩, .string ⟨#[97, 98, 99, 100, 101, 102, 103, 104, 105, 106, 107, 108, 109, 110, 111, 112, 113, 114, 115, 116, 46, 111, 114, 103]⟩, .string ⟨#[97, 98, 99, 100, 101, 102, 103, 104, 105, 106, 107, 108, 109, 110, 111, 112, 113, 114, 115, 116, 117, 46, 111, 114, 103]⟩, .string ⟨#[97, 46, 98, 46, 99, 46, 100, 46, 101, 46, 102, 46, 103, 46, 104]⟩, .string ⟨#[97, 46, 98, 46, 99, 46, 100, 46, 101, 46, 102, 46, 103, 46, 104, 46, 105]⟩, .string ⟨#[111, 114, 103]⟩, .string ⟨#[42]⟩, .string ⟨#[42, 46]⟩, .string ⟨#[42, 46, 111, 114, 103]⟩, .string ⟨#[42, 46, 97, 46, 111, 114, 103]⟩, .string ⟨#[97, 46, 42, 46, 111, 114, 103]⟩, .string ⟨#[42, 42, 46, 97, 46, 111, 114, 103]⟩, .string ⟨#[49, 57, 50, 46, 48, 46, 50, 46, 49]⟩] 9)) := Ext.alloc _ _
    have HR : Hid (∀ i, i < 21 → (w1.alloc (.cells #[.string ⟨#[]⟩, .string ⟨#[46]⟩, .string ⟨#[97, 46, 46, 98]⟩, .string ⟨#[45, 97, 46, 111, 114, 103]⟩, .string ⟨#[97, 45, 46, 111, 114, 103]⟩, .string ⟨#[65, 46, 111, 114, 103]⟩, .string ⟨#[97, 46, 49]⟩, .string ⟨#[49, 46, 97]⟩, .string ⟨#[97, 32, 98, 46, 111, 114, 103]⟩, .string ⟨#[97, 98, 99, 100, 101, 102, 103, 104, 105, 106, 107, 108, 109, 110, 111, 112, 113, 114, 115, 116, 46, 111, 114, 103]⟩, .string ⟨#[97, 98, 99, 100, 101, 102, 103, 104, 105, 106, 107, 108, 109, 110, 111, 112, 113, 114, 115, 116, 117, 46, 111, 114, 103]⟩, .string ⟨#[97, 46, 98, 46, 99, 46, 100, 46, 101, 46, 102, 46, 103, 46, 104]⟩, .string ⟨#[97, 46, 98, 46, 99, 46, 100, 46, 101, 46, 102, 46, 103, 46, 104, 46, 105]⟩, .string ⟨#[111, 114, 103]⟩, .string ⟨#[42]⟩, .string ⟨#[42, 46]⟩, .string ⟨#[42, 46, 111, 114, 103]⟩, .string ⟨#[42, 46, 97, 46, 111, 114, 103]⟩, .string ⟨#[97, 46, 42, 46, 111, 114, 103]⟩, .string ⟨#[42, 42, 46, 97, 46, 111, 114, 103]⟩, .string ⟨#[49, 57, 50, 46, 48, 46, 50, 46, 49]⟩] 9)).cell? ⟨w1.heap.size, i, none⟩ = some (.string (nth ([⟨#[]⟩, ⟨#[46]⟩, ⟨#[97, 46, 46, 98]⟩, ⟨#[45, 97, 46, 111, 114, 103]⟩, ⟨#[97, 45, 46, 111, 114, 103]⟩, ⟨#[65, 46, 111, 114, 103]⟩, ⟨#[97, 46, 49]⟩, ⟨#[49, 46, 97]⟩, ⟨#[97, 32, 98, 46, 111, 114, 103]⟩, ⟨#[97, 98, 99, 100, 101, 102, 103, 104, 105, 106, 107, 108, 109, 110, 111, 112, 113, 114, 115, 116, 46, 111, 114, 103]⟩, ⟨#[97, 98, 99, 100, 101, 102, 103, 104, 105, 106, 107, 108, 109, 110, 111, 112, 113, 114, 115, 116, 117, 46, 111, 114, 103]⟩, ⟨#[97, 46, 98, 46, 99, 46, 100, 46, 101, 46, 102, 46, 103, 46, 104]⟩, ⟨#[97, 46, 98, 46, 99, 46, 100, 46, 101, 46, 102, 46, 103, 46, 104, 46, 105]⟩, ⟨#[111, 114, 103]⟩, ⟨#[42]⟩, ⟨#[42, 46]⟩, ⟨#[42, 46, 111, 114, 103]⟩, ⟨#[42, 46, 97, 46, 111, 114, 103]⟩, ⟨#[97, 46, 42, 46, 111, 114, 103]⟩, ⟨#[42, 42, 46, 97, 46, 111, 114, 103]⟩, ⟨#[49, 57, 50, 46, 48, 46, 50, 46, 49]⟩] : List ByteArray) i))) := row_strs w1 ([⟨#[]⟩, ⟨#[46]⟩, ⟨#[97, 46, 46, 98]⟩, ⟨#[45, 97, 46, 111, 114, 103]⟩, ⟨#[97, 45, 46, 111, 114, 103]⟩, ⟨#[65, 46, 111, 114, 103]⟩, ⟨#[97, 46, 49]⟩, ⟨#[49, 46, 97]⟩, ⟨#[97, 32, 98, 46, 111, 114, 103]⟩, ⟨#[97, 98, 99, 100, 101, 102, 103, 104, 105, 106, 107, 108, 109, 110, 111, 112, 113, 114, 115, 116, 46, 111, 114, 103]⟩, ⟨#[97, 98, 99, 100, 101, 102, 103, 104, 105, 106, 107, 108, 109, 110, 111, 112, 113, 114, 115, 116, 117, 46, 111, 114, 103]⟩, ⟨#[97, 46, 98, 46, 99, 46, 100, 46, 101, 46, 102, 46, 103, 46, 104]⟩, ⟨#[97, 46, 98, 46, 99, 46, 100, 46, 101, 46, 102, 46, 103, 46, 104, 46, 105]⟩, ⟨#[111, 114, 103]⟩, ⟨#[42]⟩, ⟨#[42, 46]⟩, ⟨#[42, 46, 111, 114, 103]⟩, ⟨#[42, 46, 97, 46, 111, 114, 103]⟩, ⟨#[97, 46, 42, 46, 111, 114, 103]⟩, ⟨#[42, 42, 46, 97, 46, 111, 114, 103]⟩, ⟨#[49, 57, 50, 46, 48, 46, 50, 46, 49]⟩] : List ByteArray)
    have hne : w1.heap.size ≠ C := by have := HG.out.size; omega
    have HSz : Hid (∀ i, (nth ([⟨#[]⟩, ⟨#[46]⟩, ⟨#[97, 46, 46, 98]⟩, ⟨#[45, 97, 46, 111, 114, 103]⟩, ⟨#[97, 45, 46, 111, 114, 103]⟩, ⟨#[65, 46, 111, 114, 103]⟩, ⟨#[97, 46, 49]⟩, ⟨#[49, 46, 97]⟩, ⟨#[97, 32, 98, 46, 111, 114, 103]⟩, ⟨#[97, 98, 99, 100, 101, 102, 103, 104, 105, 106, 107, 108, 109, 110, 111, 112, 113, 114, 115, 116, 46, 111, 114, 103]⟩, ⟨#[97, 98, 99, 100, 101, 102, 103, 104, 105, 106, 107, 108, 109, 110, 111, 112, 113, 114, 115, 116, 117, 46, 111, 114, 103]⟩, ⟨#[97, 46, 98, 46, 99, 46, 100, 46, 101, 46, 102, 46, 103, 46, 104]⟩, ⟨#[97, 46, 98, 46, 99, 46, 100, 46, 101, 46, 102, 46, 103, 46, 104, 46, 105]⟩, ⟨#[111, 114, 103]⟩, ⟨#[42]⟩, ⟨#[42, 46]⟩, ⟨#[42, 46, 111, 114, 103]⟩, ⟨#[42, 46, 97, 46, 111, 114, 103]⟩, ⟨#[97, 46, 42, 46, 111, 114, 103]⟩, ⟨#[42, 42, 46, 97, 46, 111, 114, 103]⟩, ⟨#[49, 57, 50, 46, 48, 46, 50, 46, 49]⟩] : List ByteArray) i).size ≤ 64) := nth_small _ _ (by decide)
    obtain ⟨gg, hgg⟩ : ∃ gg : Nat → ByteArray, nth ([⟨#[]⟩, ⟨#[46]⟩, ⟨#[97, 46, 46, 98]⟩, ⟨#[45, 97, 46, 111, 114, 103]⟩, ⟨#[97, 45, 46, 111, 114, 103]⟩, ⟨#[65, 46, 111, 114, 103]⟩, ⟨#[97, 46, 49]⟩, ⟨#[49, 46, 97]⟩, ⟨#[97, 32, 98, 46, 111, 114, 103]⟩, ⟨#[97, 98, 99, 100, 101, 102, 103, 104, 105, 106, 107, 108, 109, 110, 111, 112, 113, 114, 115, 116, 46, 111, 114, 103]⟩, ⟨#[97, 98, 99, 100, 101, 102, 103, 104, 105, 106, 107, 108, 109, 110, 111, 112, 113, 114, 115, 116, 117, 46, 111, 114, 103]⟩, ⟨#[97, 46, 98, 46, 99, 46, 100, 46, 101, 46, 102, 46, 103, 46, 104]⟩, ⟨#[97, 46, 98, 46, 99, 46, 100, 46, 101, 46, 102, 46, 103, 46, 104, 46, 105]⟩, ⟨#[111, 114, 103]⟩, ⟨#[42]⟩, ⟨#[42, 46]⟩, ⟨#[42, 46, 111, 114, 103]⟩, ⟨#[42, 46, 97, 46, 111, 114, 103]⟩, ⟨#[97, 46, 42, 46, 111, 114, 103]⟩, ⟨#[42, 42, 46, 97, 46, 111, 114, 103]⟩, ⟨#[49, 57, 50, 46, 48, 46, 50, 46, 49]⟩] : List ByteArray) = gg := ⟨_, rfl⟩
    rw [hgg] at HR HSz
    clear hgg
    replace HC := hide (HC.out.of_block (Below.block E1 C (Nat.lt_of_lt_of_le hCw HG.out.size)))
    replace HG := hide (gb_later HG.out E1 HG.out.size)
    clear E1
    go_wp2_with fail
    refine (l1Pick_any C a b off n cap f w1.heap.size 21 _ gg _ HC.out (HK.out.grow HG.out) hn HR.out (by decide) (by decide) hne).mono ?_
    rintro e w2 ⟨j, hj, rfl, hCx, Tx⟩
    have xs := HSz.out j
    generalize gg j = x at *
    clear HSz HR hne hj
    replace HC := hide hCx
    replace HG := hide (gb_trans HG.out (gb_touch Tx))
    clear hCx Tx
    go_wp2
    go_ret
    exact ⟨x, rfl, by omega, HC.out, HG.out⟩
  · have t0 : (y == 0) = false := by simp; omega
    by_cases s1 : y = 1
    · subst s1
      go_wp2_with fail
      refine (l8DrawHost_any C a b off n cap f _ HC.out (HK.out.grow HG.out) hn HX.out).mono ?_
      rintro e w2 ⟨x, rfl, xs, hCx, hGx⟩
      have g1 : ¬ 9223372036854775807 < 2 + x.size := by omega
      replace HC := hide hCx
      replace HG := hide (gb_trans HG.out hGx)
      clear hCx hGx
      go_wp2
      go_ret
      exact ⟨_, rfl, by simp [ByteArray.size_append', ByteArray.size_mk']; omega, HC.out, HG.out⟩
    · have t1 : (y == 1) = false := by simp; omega
      go_wp2_with fail
      refine (l8DrawHost_any C a b off n cap f _ HC.out (HK.out.grow HG.out) hn HX.out).mono ?_
      rintro e w2 ⟨x, rfl, xs, hCx, hGx⟩
      replace HC := hide hCx
      replace HG := hide (gb_trans HG.out hGx)
      clear hCx hGx
      go_wp2
      go_ret
      exact ⟨x, rfl, by omega, HC.out, HG.out⟩

/-- Two texts are drawn. -/
def GivesTT (w : World) (e : Ending) (w' : World) : Prop :=
  ∃ x y : ByteArray, e = .returned (.tuple #[.string x, .string y]) ∧ x.size ≤ 1000 ∧ y.size ≤ 1000 ∧ Ext w w'

set_option maxHeartbeats 3200000 in
set_option maxRecDepth 100000 in
theorem drawHostMatch_any (a : Option Addr) (b off n cap : Nat) (f : Nat → Int) (w : World) (hs : BSeg w a b off n f) (hB : ∀ i, i < n → 0 ≤ f i ∧ f i ≤ 255) (hn : n ≤ 1048576) :
    Calls Try.prog 20 #[.slice a n cap] w fun e w' => GivesTT w e w' := by
  go_enter Try.func20, Try.ntmps20
  go_wp2_with fail
  refine (l1New_any a b off n cap f _ hs hB hn).mono ?_
  rintro e w1 ⟨rfl, hC1, hlt1, B1⟩
  have HK : Hid (Code w1 w.heap.size a b off n f) := ⟨hs.of_all B1, hB, fun h => by have := hs.lt h; omega⟩
  have HB1 := hide B1
  have HC := hide hC1
  have HG : Hid (w1.grownBy w1 (some w.heap.size)) := gb_refl w1
  clear hC1 B1 hs hB
  go_wp2_with fail
  refine (l8DrawAny_any w.heap.size a b off n cap f _ HC.out HK.out hn hlt1).mono ?_
  rintro e w2 ⟨h, rfl, hh, hCx, hGx⟩
  replace HC := hide hCx
  replace HG := hide hGx
  clear hCx hGx
  have hCw2 : w.heap.size < w2.heap.size := Nat.lt_of_lt_of_le hlt1 HG.out.size
  have g0 : ¬ 9223372036854775807 < 2 + h.size := by omega
  have g4 : ¬ 9223372036854775807 < 4 + h.size := by omega
  have g9 : ¬ 9223372036854775807 < 1 + h.size := by omega
  go_wp2_with fail
  refine (l1Below_any w.heap.size a b off n cap f 5 _ HC.out (HK.out.grow HG.out) hn (by omega) (by omega)).mono ?_
  rintro e w3 ⟨y, rfl, y0, y1, hCx, Tx⟩
  replace HC := hide hCx
  replace HG := hide (gb_trans HG.out (gb_touch Tx))
  clear hCx Tx
  have HX : Hid (w.heap.size < w3.heap.size) := Nat.lt_of_lt_of_le hlt1 HG.out.size
  by_cases s0 : y = 0
  · subst s0
    go_wp2
    go_ret2
    exact ⟨_, _, rfl, by (try simp [ByteArray.size_append', ByteArray.size_mk']); omega, by (try simp [ByteArray.size_append', ByteArray.size_mk']); omega, gb_to_below HB1.out HG.out⟩
  · have t0 : (y == 0) = false := by simp; omega
    by_cases s1 : y = 1
    · subst s1
      have E1 : Ext w3 (w3.alloc (.cells #[.string ⟨#[120]⟩, .string ⟨#[119, 119, 119]⟩, .string ⟨#[97, 46, 98]⟩, .string ⟨#[]⟩] 9)) := Ext.alloc _ _
      have HR : Hid (∀ i, i < 4 → (w3.alloc (.cells #[.string ⟨#[120]⟩, .string ⟨#[119, 119, 119]⟩, .string ⟨#[97, 46, 98]⟩, .string ⟨#[]⟩] 9)).cell? ⟨w3.heap.size, i, none⟩ = some (.string (nth ([⟨#[120]⟩, ⟨#[119, 119, 119]⟩, ⟨#[97, 46, 98]⟩, ⟨#[]⟩] : List ByteArray) i))) := row_strs w3 ([⟨#[120]⟩, ⟨#[119, 119, 119]⟩, ⟨#[97, 46, 98]⟩, ⟨#[]⟩] : List ByteArray)
      have hne : w3.heap.size ≠ w.heap.size := by have := HG.out.size; omega
      have HSz : Hid (∀ i, (nth ([⟨#[120]⟩, ⟨#[119, 119, 119]⟩, ⟨#[97, 46, 98]⟩, ⟨#[]⟩] : List ByteArray) i).size ≤ 64) := nth_small _ _ (by decide)
      obtain ⟨gg, hgg⟩ : ∃ gg : Nat → ByteArray, nth ([⟨#[120]⟩, ⟨#[119, 119, 119]⟩, ⟨#[97, 46, 98]⟩, ⟨#[]⟩] : List ByteArray) = gg := ⟨_, rfl⟩
      rw [hgg] at HR HSz
      clear hgg
      replace HC := hide (HC.out.of_block (Below.block E1 w.heap.size (Nat.lt_of_lt_of_le hlt1 HG.out.size)))
      replace HG := hide (gb_later HG.out E1 HG.out.size)
      clear E1
      go_wp2_with fail
      refine (l1Pick_any w.heap.size a b off n cap f w3.heap.size 4 _ gg _ HC.out (HK.out.grow HG.out) hn HR.out (by decide) (by decide) hne).mono ?_
      rintro e w4 ⟨j, hj, rfl, hCx, Tx⟩
      have xs := HSz.out j
      generalize gg j = x at *
      clear HSz HR hne hj
      replace HC := hide hCx
      replace HG := hide (gb_trans HG.out (gb_touch Tx))
      clear hCx Tx
      have g1 : ¬ 9223372036854775807 < x.size + 1 := by omega
      have g2 : ¬ 9223372036854775807 < x.size + 1 + h.size := by omega
      go_wp2
      go_ret2
      exact ⟨_, _, rfl, by simp [ByteArray.size_append', ByteArray.size_mk']; omega, by simp [ByteArray.size_append', ByteArray.size_mk']; omega, gb_to_below HB1.out HG.out⟩
    · have t1 : (y == 1) = false := by simp; omega
      by_cases s2 : y = 2
      · subst s2
        go_wp2
        go_ret2
        exact ⟨_, _, rfl, by (try simp [ByteArray.size_append', ByteArray.size_mk']); omega, by (try simp [ByteArray.size_append', ByteArray.size_mk']); omega, gb_to_below HB1.out HG.out⟩
      · have t2 : (y == 2) = false := by simp; omega
        go_wp2_with fail
        refine (l8DrawAny_any w.heap.size a b off n cap f _ HC.out (HK.out.grow HG.out) hn HX.out).mono ?_
        rintro e w5 ⟨z, rfl, hz, hCx, hGx⟩
        replace HG := hide (gb_trans HG.out hGx)
        clear hCx hGx
        go_wp2
        go_ret2
        exact ⟨_, _, rfl, by omega, by omega, gb_to_below HB1.out HG.out⟩

set_option maxHeartbeats 3200000 in
set_option maxRecDepth 100000 in
theorem drawUnder_any (a : Option Addr) (b off n cap : Nat) (f : Nat → Int) (w : World) (hs : BSeg w a b off n f) (hB : ∀ i, i < n → 0 ≤ f i ∧ f i ≤ 255) (hn : n ≤ 1048576) :
    Calls Try.prog 21 #[.slice a n cap] w fun e w' => GivesTT w e w' := by
  go_enter Try.func21, Try.ntmps21
  go_wp2_with fail
  refine (l1New_any a b off n cap f _ hs hB hn).mono ?_
  rintro e w1 ⟨rfl, hC1, hlt1, B1⟩
  have HK : Hid (Code w1 w.heap.size a b off n f) := ⟨hs.of_all B1, hB, fun h => by have := hs.lt h; omega⟩
  have HB1 := hide B1
  have HC := hide hC1
  have HG : Hid (w1.grownBy w1 (some w.heap.size)) := gb_refl w1
  clear hC1 B1 hs hB
  go_wp2_with fail
  refine (l8DrawAny_any w.heap.size a b off n cap f _ HC.out HK.out hn hlt1).mono ?_
  rintro e w2 ⟨h, rfl, hh, hCx, hGx⟩
  replace HC := hide hCx
  replace HG := hide hGx
  clear hCx hGx
  have hCw2 : w.heap.size < w2.heap.size := Nat.lt_of_lt_of_le hlt1 HG.out.size
  have g0 : ¬ 9223372036854775807 < 2 + h.size := by omega
  have g4 : ¬ 9223372036854775807 < 4 + h.size := by omega
  have g9 : ¬ 9223372036854775807 < 1 + h.size := by omega
  go_wp2_with fail
  refine (l1Below_any w.heap.size a b off n cap f 4 _ HC.out (HK.out.grow HG.out) hn (by omega) (by omega)).mono ?_
  rintro e w3 ⟨y, rfl, y0, y1, hCx, Tx⟩
  replace HC := hide hCx
  replace HG := hide (gb_trans HG.out (gb_touch Tx))
  clear hCx Tx
  have HX : Hid (w.heap.size < w3.heap.size) := Nat.lt_of_lt_of_le hlt1 HG.out.size
  by_cases s0 : y = 0
  · subst s0
    go_wp2
    go_ret2
    exact ⟨_, _, rfl, by (try simp [ByteArray.size_append', ByteArray.size_mk']); omega, by (try simp [ByteArray.size_append', ByteArray.size_mk']); omega, gb_to_below HB1.out HG.out⟩
  · have t0 : (y == 0) = false := by simp; omega
    by_cases s1 : y = 1
    · subst s1
      go_wp2
      go_ret2
      exact ⟨_, _, rfl, by (try simp [ByteArray.size_append', ByteArray.size_mk']); omega, by (try simp [ByteArray.size_append', ByteArray.size_mk']); omega, gb_to_below HB1.out HG.out⟩
    · have t1 : (y == 1) = false := by simp; omega
      by_cases s2 : y = 2
      · subst s2
        go_wp2
        go_ret2
        exact ⟨_, _, rfl, by (try simp [ByteArray.size_append', ByteArray.size_mk']); omega, by (try simp [ByteArray.size_append', ByteArray.size_mk']); omega, gb_to_below HB1.out HG.out⟩
      · have t2 : (y == 2) = false := by simp; omega
        go_wp2_with fail
        refine (l8DrawAny_any w.heap.size a b off n cap f _ HC.out (HK.out.grow HG.out) hn HX.out).mono ?_
        rintro e w5 ⟨z, rfl, hz, hCx, hGx⟩
        replace HG := hide (gb_trans HG.out hGx)
        clear hCx hGx
        go_wp2
        go_ret2
        exact ⟨_, _, rfl, by omega, by omega, gb_to_below HB1.out HG.out⟩

end Go.Proofs.Ytifokecmmnineaa
