/- Walks of the model's draw of two names, and of the law FnNames10 (written by mknm.py). -/
import Derived.Test.YtdaneanloknkpaaDoorNmD
namespace Go.Proofs.YtdaneanloknkpaaDoor
set_option linter.unusedVariables false
set_option linter.unusedSimpArgs false
open Go.RowKit

theorem SSeg.news {w : World} {g n : Nat} {L : List ByteArray} (h : SSeg w (some ⟨g, 0, none⟩) g 0 n (nth L)) (hn : n = L.length) : ∀ j u, (strs L)[j]? = some u → w.cell? ((⟨g, 0, none⟩ : Addr).add j) = some u := by
  intro j u hu
  have e : (⟨g, 0, none⟩ : Addr).add j = ⟨g, 0 + j, none⟩ := by
    by_cases h0 : j = 0
    · subst h0; simp [Addr.add]
    · simp [Addr.add, h0]
  have hj : j < L.length := by
    have := (List.getElem?_eq_some_iff.1 hu).1
    simpa [strs] using this
  rw [e, h.cell j (by omega)]
  simp [strs, nth, hj] at hu ⊢
  exact hu
theorem strs_ones (L : List ByteArray) : ∀ u ∈ strs L, u.oneCell' = true := by
  intro u hu
  unfold strs at hu
  obtain ⟨s, -, rfl⟩ := List.mem_map.1 hu
  rfl
theorem ext_append {w w1 : World} {v : Value} {o : Obj} {B e n : Nat} {xs : List Value} (hO : w.ownsRow B e 1 v n xs) (hg : w.grownBy w1 v.ownBlock) (w0 : World) (h0 : Ext w0 w) (hB0 : w0.heap.size ≤ B) : Ext w0 w1 :=
  Below.grown h0 hg (Below.size h0) (fun j hj => by have := (hO.lt j hj).1; omega)

theorem row_free {w : World} {B e n n2 cap gb o : Nat} {xs : List Value} (h : w.ownsRow B e 1 (.slice (some ⟨gb, 0, none⟩) n2 cap) n xs) : w.frozen? ⟨gb, o, none⟩ = false := by
  rcases h.2 with ⟨h0, _⟩ | ⟨g, c, cur, hv, hb, hg, _⟩
  · simp at h0
  · simp only [Value.slice.injEq, Option.some.injEq, Addr.mk.injEq] at hv
    obtain ⟨⟨rfl, -⟩, -⟩ := hv
    simp [World.frozen?, hg]

theorem nth_lim {L : List ByteArray} {m : Nat} (h : ∀ x ∈ L, x.size ≤ m) (i : Nat) : (nth L i).size ≤ m := nth_small L m h i

/-- Two names are drawn. -/
def GivesNN (w : World) (e : Ending) (w' : World) : Prop :=
  ∃ (k : Nat) (M : List ByteArray) (g : Nat) (a2 : Option Addr) (g2 cap2 : Nat), k < 6 ∧ e = .returned (.tuple #[.slice (some ⟨g, 0, none⟩) (whoL k).length (whoL k).length, .slice a2 M.length cap2]) ∧ SSeg w' (some ⟨g, 0, none⟩) g 0 (whoL k).length (nth (whoL k)) ∧ SSeg w' a2 g2 0 M.length (nth M) ∧ M.length ≤ 3 ∧ (∀ x ∈ M, x.size ≤ 100) ∧ Ext w w'

set_option maxHeartbeats 6400000 in
set_option maxRecDepth 100000 in
theorem drawNameSame_any (a : Option Addr) (b off n cap : Nat) (f : Nat → Int) (w : World) (hs : BSeg w a b off n f) (hB : ∀ i, i < n → 0 ≤ f i ∧ f i ≤ 255) (hn : n ≤ 1048576) :
    Calls Tryd.prog 11 #[.slice a n cap] w fun e w' => GivesNN w e w' := by
  obtain ⟨i0, hi, hz0, hz1, hz2⟩ := info_parts Tryd.infoS
  go_enter Tryd.func11, Tryd.ntmps11
  go_wp2_with fail
  refine (l1New_any a b off n cap f _ hs hB hn).mono ?_
  rintro e w1 ⟨rfl, hC1, hlt1, B1⟩
  obtain ⟨C, hCe⟩ : ∃ C, C = w.heap.size := ⟨_, rfl⟩
  have HK : Hid (Code w1 C a b off n f) := by rw [hCe]; exact ⟨hs.of_all B1, hB, fun h => by have := hs.lt h; omega⟩
  rw [← hCe] at hC1 hlt1 ⊢
  have HCe := hide hCe
  have HB1 := hide B1
  have HC := hide hC1
  have HG : Hid (w1.grownBy w1 (some C)) := gb_refl w1
  have hCw := hlt1
  clear hC1 B1 hs hB hCe hlt1
  go_wp2_with fail
  refine (l1Below_any C a b off n cap f 6 _ HC.out (HK.out.grow HG.out) hn (by omega) (by omega)).mono ?_
  rintro e w2 ⟨x, rfl, x0, x1, hCx, Tx⟩
  replace HC := hide hCx
  replace HG := hide (gb_trans HG.out (gb_touch Tx))
  clear hCx Tx
  obtain ⟨i, rfl⟩ := Int.eq_ofNat_of_zero_le x0
  have hi6 : i < 6 := by omega
  go_wp2_with fail
  refine (l10Who_any i hi6 _).mono ?_
  rintro e w3 ⟨g, rfl, hg, hsA, hE⟩
  have HgC : Hid (g ≠ C) := by show _ ≠ _; have := HG.out.size; omega
  have HA := hide hsA
  replace HC := hide (HC.out.of_block (Below.block hE C (Nat.lt_of_lt_of_le hCw HG.out.size)))
  replace HG := hide (gb_later HG.out hE HG.out.size)
  clear hsA hE hg
  obtain ⟨hl1, hl2, hl3⟩ := who_len i hi6
  have Hl3 := hide hl3
  have HL0 : Hid (∀ (e : Ending) (w' : World), (∃ (M : List ByteArray) (g : Nat) (a2 : Option Addr) (g2 cap2 : Nat), e = .returned (.tuple #[.slice (some ⟨g, 0, none⟩) (whoL i).length (whoL i).length, .slice a2 M.length cap2]) ∧ SSeg w' (some ⟨g, 0, none⟩) g 0 (whoL i).length (nth (whoL i)) ∧ SSeg w' a2 g2 0 M.length (nth M) ∧ M.length ≤ 3 ∧ (∀ x ∈ M, x.size ≤ 100) ∧ Ext w w') → GivesNN w e w') := fun e w' ⟨M, g, a2, g2, cap2, h⟩ => ⟨i, M, g, a2, g2, cap2, hi6, h⟩
  clear hl3
  generalize whoL i = L at *
  obtain ⟨m, hm⟩ : ∃ m, L.length = m := ⟨_, rfl⟩
  rw [hm] at hl1 hl2
  have Hm := hide hm
  have hO0 := World.ownsRow_made (base := w3.heap.size) (e := 9) (size := 1) w3 #[] 0 (Nat.le_refl _) (by simp) rfl
  have HO0 := hide hO0
  have E3 : Ext w3 (w3.alloc (.cells #[] 9)) := Ext.alloc _ _
  have HN := hide (SSeg.news (HA.out.of_all E3) rfl)
  have HE3 := hide E3
  clear hO0 E3
  rw [hm] at HA ⊢
  clear hm
  go_wp2_with (at_builtin; refine wpList_append_own _ rfl _ _ 22 rfl w3.heap.size 9 i0 (.string ⟨#[]⟩) 1 16 Tryd.underlying22 hi hz0 hz1 hz2 rfl (by decide) _ _ _ rfl HO0.out ⟨g, 0, none⟩ m m (strs L) rfl (by simp [strs]; exact Hm.out) HN.out (strs_ones L) (by unfold maxLen; omega) (by omega) (by simp) ?_; intro v4 w4 hown' hgrow hnil)
  have HA0 := hide HA.out
  have E34 : Ext w3 w4 := ext_append (o := .cells #[] 9) HO0.out hgrow w3 HE3.out (Nat.le_refl _)
  have HE34 := hide E34
  have hO4 : w4.ownsRow w3.heap.size 9 1 v4 L.length (strs L) := by rw [Hm.out]; simpa using hown'
  have HO := hide hO4
  replace HA := hide (HA.out.of_all E34)
  replace HC := hide (HC.out.of_block (Below.block E34 C (Nat.lt_of_lt_of_le hCw HG.out.size)))
  have HB : Hid (C < w3.heap.size) := Nat.lt_of_lt_of_le hCw HG.out.size
  have HgB : Hid (g < w3.heap.size) := by
    show _ < _
    have h1 := HA0.out.lt (by omega)
    exact h1
  replace HG := hide (gb_later HG.out E34 HG.out.size)
  have HW : Hid (w.heap.size ≤ w3.heap.size) := by show _ ≤ _; have h1 := HB.out; rw [HCe.out] at h1; omega
  have hO5 := hO4
  rw [Hm.out] at hO5
  obtain ⟨va, vc, rfl⟩ := row_slice hO5
  clear hown' hgrow hnil E34 hO4 hO5 HO0 HN HE3
  go_wp2_with fail
  refine (l1Below_any C a b off n cap f 4 _ HC.out (HK.out.grow HG.out) hn (by omega) (by omega)).mono ?_
  rintro e w5 ⟨y, rfl, y0, y1, hCx, Tx⟩
  replace HC := hide hCx
  replace HG := hide (gb_trans HG.out (gb_touch Tx))
  replace HO := hide (owns_gb HO.out (gb_touch Tx) HB.out)
  replace HA := hide (HA.out.touch Tx HgC.out)
  clear hCx Tx
  by_cases s0 : y = 0
  · subst s0
    have E1 : Ext w5 (w5.alloc (.cells #[.string ⟨#[82, 79, 79, 84, 32, 32, 111, 110, 101, 32]⟩, .string ⟨#[109, 105, 100, 32, 97]⟩, .string ⟨#[76, 101, 97, 102]⟩, .string ⟨#[114, 111, 111, 116]⟩] 9)) := Ext.alloc _ _
    have HR : Hid (∀ i, i < 4 → (w5.alloc (.cells #[.string ⟨#[82, 79, 79, 84, 32, 32, 111, 110, 101, 32]⟩, .string ⟨#[109, 105, 100, 32, 97]⟩, .string ⟨#[76, 101, 97, 102]⟩, .string ⟨#[114, 111, 111, 116]⟩] 9)).cell? ⟨w5.heap.size, i, none⟩ = some (.string (nth ([⟨#[82, 79, 79, 84, 32, 32, 111, 110, 101, 32]⟩, ⟨#[109, 105, 100, 32, 97]⟩, ⟨#[76, 101, 97, 102]⟩, ⟨#[114, 111, 111, 116]⟩] : List ByteArray) i))) := row_strs w5 ([⟨#[82, 79, 79, 84, 32, 32, 111, 110, 101, 32]⟩, ⟨#[109, 105, 100, 32, 97]⟩, ⟨#[76, 101, 97, 102]⟩, ⟨#[114, 111, 111, 116]⟩] : List ByteArray)
    have hne : w5.heap.size ≠ C := by have := HG.out.size; omega
    have HSz : Hid (∀ i, (nth ([⟨#[82, 79, 79, 84, 32, 32, 111, 110, 101, 32]⟩, ⟨#[109, 105, 100, 32, 97]⟩, ⟨#[76, 101, 97, 102]⟩, ⟨#[114, 111, 111, 116]⟩] : List ByteArray) i).size ≤ 64) := nth_small _ _ (by decide)
    obtain ⟨gg, hgg⟩ : ∃ gg : Nat → ByteArray, nth ([⟨#[82, 79, 79, 84, 32, 32, 111, 110, 101, 32]⟩, ⟨#[109, 105, 100, 32, 97]⟩, ⟨#[76, 101, 97, 102]⟩, ⟨#[114, 111, 111, 116]⟩] : List ByteArray) = gg := ⟨_, rfl⟩
    rw [hgg] at HR HSz
    clear hgg
    replace HC := hide (HC.out.of_block (Below.block E1 C (Nat.lt_of_lt_of_le hCw HG.out.size)))
    replace HG := hide (gb_later HG.out E1 HG.out.size)
    replace HO := hide (rowE HO.out E1)
    replace HA := hide (HA.out.of_all E1)
    clear E1
    go_wp2_with fail
    refine (l1Pick_any C a b off n cap f w5.heap.size 4 _ gg _ HC.out (HK.out.grow HG.out) hn HR.out (by decide) (by decide) hne).mono ?_
    rintro e w7 ⟨j, hj, rfl, hCx, Tx⟩
    have xs := HSz.out j
    generalize gg j = x at *
    clear HSz HR hne hj
    replace HC := hide hCx
    replace HG := hide (gb_trans HG.out (gb_touch Tx))
    replace HO := hide (owns_gb HO.out (gb_touch Tx) HB.out)
    replace HA := hide (HA.out.touch Tx HgC.out)
    clear hCx Tx
    obtain ⟨gb, vcb, hvb, hcb⟩ := owns_strs HO.out (by rw [Hm.out]; omega)
    have hOl := HO.out.lt gb (by rw [hvb]; rfl)
    rw [Hm.out] at hvb hcb
    simp only [Value.slice.injEq, true_and] at hvb
    obtain ⟨rfl, rfl⟩ := hvb
    have c0 := hcb 0 (by omega)
    have f0 : w7.frozen? ⟨gb, 0, none⟩ = false := row_free HO.out
    have g1 : ¬ 9223372036854775807 < 1 + x.size := by omega
    have hm0 : (0 : Int) < (m : Int) := by omega
    have Hcb := hide hcb
    have HOl := hide hOl
    have Hc0 := hide c0
    clear hcb hOl
    go_wp2
    go_ret2
    obtain ⟨X, hX⟩ : ∃ X, X = (⟨#[32]⟩ ++ x : ByteArray) := ⟨_, rfl⟩
    have hXs : X.size ≤ 100 := by rw [hX]; simp [ByteArray.size_append', ByteArray.size_mk']; omega
    rw [← hX]
    refine HL0.out _ _ ⟨X :: L.tail, g, some ⟨gb, 0, none⟩, gb, vc, ?_, ?_, ?_, ?_, ?_, ?_⟩
    · rw [List.length_cons, List.length_tail, Hm.out, show m - 1 + 1 = m by omega]
      rfl
    · refine ⟨fun _ => rfl, fun i hi => ?_⟩
      rw [Hm.out] at hi
      have hne : g ≠ gb := by have h1 := HOl.out.1; have h2 := HgB.out; omega
      rw [World.cell?_of_block (a := ⟨g, 0 + i, none⟩) (Below.heap_setCell _ _ _ _ hne)]
      exact HA.out.cell i hi
    · refine ⟨fun _ => rfl, fun i hi => ?_⟩
      rw [Nat.zero_add]
      cases i with
      | zero => exact World.cell?_setCell_same _ _ _ Hc0.out
      | succ i =>
        rw [World.cell?_setCell_other _ _ _ _ (fun e => by have := congrArg Addr.off e; simp at this)]
        rw [List.length_cons, List.length_tail, Hm.out] at hi
        rw [Hcb.out (i + 1) (by omega)]
        congr 2
        unfold nth
        cases L with
        | nil => have := Hm.out; simp at this; omega
        | cons s l => rfl
    · rw [List.length_cons, List.length_tail, Hm.out]; omega
    · intro s hs
      rcases List.mem_cons.1 hs with h | h
      · rw [h]; exact hXs
      · have := Hl3.out s (List.mem_of_mem_tail h); omega
    · exact below_touch (gb_to_below (by rw [← HCe.out] at HB1 ⊢; exact HB1.out) (by rw [← HCe.out]; exact HG.out)) ((Touch.refl gb w7).set 0 _) (by have h1 := HOl.out.1; have h2 := HW.out; omega)
  · have t0 : (y == 0) = false := by simp; omega
    by_cases s1 : y = 1
    · subst s1
      go_wp2_with fail
      refine (l1Below_any C a b off n cap f 6 _ HC.out (HK.out.grow HG.out) hn (by omega) (by omega)).mono ?_
      rintro e w6 ⟨z, rfl, z0, z1, hCx, Tx⟩
      replace HC := hide hCx
      replace HG := hide (gb_trans HG.out (gb_touch Tx))
      replace HO := hide (owns_gb HO.out (gb_touch Tx) HB.out)
      replace HA := hide (HA.out.touch Tx HgC.out)
      clear hCx Tx
      obtain ⟨j, rfl⟩ := Int.eq_ofNat_of_zero_le z0
      go_wp2_with fail
      refine (l10Who_any j (by omega) _).mono ?_
      rintro e w8 ⟨g2, rfl, hg2, hs2, hE⟩
      have HS2 := hide hs2
      replace HA := hide (HA.out.of_all hE)
      have HF := hide (Ext.trans (gb_to_below (by rw [← HCe.out] at HB1 ⊢; exact HB1.out) (by rw [← HCe.out]; exact HG.out)) hE)
      obtain ⟨k1, k2, k3⟩ := who_len j (by omega)
      have Hk3 := hide k3
      clear hs2 hE hg2 k3
      generalize whoL j = M at *
      generalize hM : M.length = q at *
      have HM := hide hM
      clear hM
      go_wp2
      go_ret2
      exact HL0.out _ _ ⟨M, g, some ⟨g2, 0, none⟩, g2, q, by rw [HM.out, Hm.out]; rfl, by rw [Hm.out]; exact HA.out, by rw [HM.out]; exact HS2.out, by rw [HM.out]; omega, fun s hs => by have := Hk3.out s hs; omega, HF.out⟩
    · have t1 : (y == 1) = false := by simp; omega
      by_cases s2 : y = 2
      · subst s2
        have E1 : Ext w5 (w5.alloc (.cells #[.string ⟨#[]⟩, .string ⟨#[32]⟩] 9)) := Ext.alloc _ _
        have HR : Hid (∀ i, i < 2 → (w5.alloc (.cells #[.string ⟨#[]⟩, .string ⟨#[32]⟩] 9)).cell? ⟨w5.heap.size, i, none⟩ = some (.string (nth ([⟨#[]⟩, ⟨#[32]⟩] : List ByteArray) i))) := row_strs w5 ([⟨#[]⟩, ⟨#[32]⟩] : List ByteArray)
        have hne : w5.heap.size ≠ C := by have := HG.out.size; omega
        have HSz : Hid (∀ i, (nth ([⟨#[]⟩, ⟨#[32]⟩] : List ByteArray) i).size ≤ 64) := nth_small _ _ (by decide)
        obtain ⟨gg, hgg⟩ : ∃ gg : Nat → ByteArray, nth ([⟨#[]⟩, ⟨#[32]⟩] : List ByteArray) = gg := ⟨_, rfl⟩
        rw [hgg] at HR HSz
        clear hgg
        replace HC := hide (HC.out.of_block (Below.block E1 C (Nat.lt_of_lt_of_le hCw HG.out.size)))
        replace HG := hide (gb_later HG.out E1 HG.out.size)
        replace HO := hide (rowE HO.out E1)
        replace HA := hide (HA.out.of_all E1)
        clear E1
        go_wp2_with fail
        refine (l1Pick_any C a b off n cap f w5.heap.size 2 _ gg _ HC.out (HK.out.grow HG.out) hn HR.out (by decide) (by decide) hne).mono ?_
        rintro e w7 ⟨j, hj, rfl, hCx, Tx⟩
        have xs := HSz.out j
        generalize gg j = x at *
        clear HSz HR hne hj
        replace HC := hide hCx
        replace HG := hide (gb_trans HG.out (gb_touch Tx))
        replace HO := hide (owns_gb HO.out (gb_touch Tx) HB.out)
        replace HA := hide (HA.out.touch Tx HgC.out)
        clear hCx Tx
        obtain ⟨gb, vcb, hvb, -⟩ := owns_strs HO.out (by rw [Hm.out]; omega)
        have HW7 : Hid (w3.heap.size ≤ w7.heap.size) := by show _ ≤ _; have := HO.out.lt gb (by rw [hvb]; rfl); omega
        clear hvb
        have HOm := hide HO.out
        rw [Hm.out] at HOm
        go_wp2_with (at_builtin; refine wpList_append_own _ rfl _ _ 22 rfl w3.heap.size 9 i0 (.string ⟨#[]⟩) 1 16 Tryd.underlying22 hi hz0 hz1 hz2 rfl (by decide) _ _ _ rfl (HOm.out.alloc _) ⟨w7.heap.size, 0, none⟩ 1 1 [.string x] rfl rfl (cell_one_new _ _ _) (strs_one _) (by unfold maxLen; omega) (by omega) (by have := HW7.out; simp; omega) ?_; intro v9 w9 hown' hgrow hnil)
        have hO9 : w9.ownsRow w3.heap.size 9 1 v9 (L ++ [x]).length (strs (L ++ [x])) := by
          rw [List.length_append, Hm.out]
          simpa [strs] using hown'
        have HF := hide (gb_to_below (w2 := w7) (by rw [← HCe.out] at HB1 ⊢; exact HB1.out) (by rw [← HCe.out]; exact HG.out))
        have HF9 := hide (Below.grown (Below.alloc HF.out (Below.size HF.out) (.cells #[.string x] 9)) hgrow (by have := Below.size HF.out; simp; omega) (fun j hj => by have h1 := (HOm.out.lt j hj).1; have h2 := HW.out; omega))
        have HA9 : Hid (SSeg w9 (some ⟨g, 0, none⟩) g 0 m (nth L)) := ⟨fun _ => rfl, fun i hi => by
          have hl := HA.out.lt (by omega)
          rw [World.cell?_of_block (a := ⟨g, 0 + i, none⟩) (hgrow.block g (by simp; omega) (fun e => by have h1 := (HOm.out.lt g e.symm).1; have h2 := HgB.out; omega)), World.cell?_of_block (a := ⟨g, 0 + i, none⟩) (Below.heap_alloc _ _ _ hl)]
          exact HA.out.cell i hi⟩
        obtain ⟨a9, g9, c9, rfl, hs9⟩ := row_seg hO9
        have HS9 := hide hs9
        clear hown' hgrow hnil hO9 hs9
        rw [show (L ++ [x]).length = m + 1 by rw [List.length_append, Hm.out]; rfl] at HS9 ⊢
        go_wp2
        go_ret2
        exact HL0.out _ _ ⟨L ++ [x], g, a9, g9, c9, by rw [List.length_append, Hm.out]; rfl, by rw [Hm.out]; exact HA9.out, by rw [List.length_append, Hm.out]; exact HS9.out, by rw [List.length_append, Hm.out]; simp; omega, fun s hs => by
          rcases List.mem_append.1 hs with h | h
          · have := Hl3.out s h; omega
          · simp at h; rw [h]; omega, HF9.out⟩
      · have t2 : (y == 2) = false := by simp; omega
        obtain ⟨a9, g9, c9, hv9, hs9⟩ := row_seg HO.out
        simp only [Value.slice.injEq] at hv9
        obtain ⟨rfl, -, rfl⟩ := hv9
        have HS9 := hide hs9
        rw [Hm.out] at HS9
        have HF := hide (gb_to_below (w2 := w5) (by rw [← HCe.out] at HB1 ⊢; exact HB1.out) (by rw [← HCe.out]; exact HG.out))
        clear hs9
        go_wp2
        go_ret2
        exact HL0.out _ _ ⟨L, g, va, g9, vc, by rw [Hm.out]; rfl, by rw [Hm.out]; exact HA.out, by rw [Hm.out]; exact HS9.out, by rw [Hm.out]; omega, fun s hs => by have := Hl3.out s hs; omega, HF.out⟩

end Go.Proofs.YtdaneanloknkpaaDoor
