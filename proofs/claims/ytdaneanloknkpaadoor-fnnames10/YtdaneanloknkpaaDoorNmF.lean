/- The walk of the law FnNames10 (written by mknm.py). -/
import Derived.Test.YtdaneanloknkpaaDoorNmE
namespace Go.Proofs.YtdaneanloknkpaaDoor
set_option linter.unusedVariables false
set_option linter.unusedSimpArgs false
open Go.RowKit

theorem wpList_append_on {P : Program} {w : World} {ops : Array Oper} {rest : List Oper} {o : Oper} {a : Act} {Q : Exit → Act → World → Prop} (hw : Region.wanted o (yielded ops a.tmps) = true) (s x : Operand) (t : TypeId)
    (ho : o.op = .call { callee := .builtin .append, args := #[s, x], argTypes := #[t, t] })
    (base : Nat) (e : TypeId) (i : TypeInfo) (z : Value) (size bytes : Nat) (ht : P.underlying t = some (.slice e)) (hi : P.info? e = some i) (hz : i.zero = some z)
    (hsize : i.size = size) (hby : i.bytes = bytes) (hzs : z.cells.size = size) (hsz : 0 < size)
    (v : Value) (n : Nat) (xs : List Value) (hs : a.eval s = v) (hown : w.ownsRow base e size v n xs)
    (ad : Addr) (m c : Nat) (news : List Value) (hx : a.eval x = .slice (some ad) m c) (hl : news.length = m * size) (hnews : ∀ j u, news[j]? = some u → w.cell? (ad.add j) = some u) (h1 : ∀ u ∈ news, u.oneCell' = true)
    (h63 : n + m ≤ maxLen) (hbytes : (n + m) * bytes ≤ 140737488355328) (hbase : base ≤ w.heap.size)
    (h : ∀ v' w', w'.ownsRow base e size v' (n + m) (xs ++ news) → w.grownBy w' v.ownBlock → (v' = .slice none 0 0 ↔ v = .slice none 0 0 ∧ m = 0) → wpList P ops Q rest (a.put o.dst v') w') : wpList P ops Q (o :: rest) a w :=
  wpList_step fun _ hK => by
    simp only [hw, if_true]
    exact wp_append_own w s x t ho base e i z size bytes ht hi hz hsize hby hzs hsz v n xs hs hown ad m c news hx hl hnews h1 h63 hbytes hbase fun v' w' h2 h3 h4 => hK _ _ (h v' w' h2 h3 h4)

theorem samN_comm (n : Nat) (f g : Nat → ByteArray) : samN n f g = samN n g f := by
  unfold samN
  congr 1
  exact propext ⟨fun h i hi => (h i hi).symm, fun h i hi => (h i hi).symm⟩
theorem nameB_comm (n m : Nat) (f g : Nat → ByteArray) : nameB m n g f = nameB n m f g := by
  unfold nameB
  by_cases h : n = m
  · subst h; rw [samN_comm]
  · rw [decide_eq_false h, decide_eq_false (fun e => h e.symm)]
    rfl
theorem nameB_self (n : Nat) (f : Nat → ByteArray) : nameB n n f f = true := by
  unfold nameB
  rw [samN_yes (fun i _ => eqS_refl _)]
  simp
theorem nameB_more (n : Nat) (f g : Nat → ByteArray) : nameB n (n + 1) f g = false := by
  unfold nameB
  rw [decide_eq_false (by omega)]
  rfl
theorem nameB_yes {n : Nat} {f g : Nat → ByteArray} (h : ∀ i, i < n → eqS (plainS (f i)) (plainS (g i)) = true) : nameB n n f g = true := by
  unfold nameB
  rw [samN_yes h]
  simp
theorem take_next (L : List ByteArray) (j : Nat) (h : j < L.length) : (L.take (j + 1)).map wideS = (L.take j).map wideS ++ [wideS (nth L j)] := by
  rw [List.take_succ_eq_append_getElem h, List.map_append]
  simp [nth, h]

set_option maxHeartbeats 6400000 in
set_option maxRecDepth 100000 in
theorem lawNames10_any (a : Option Addr) (b off n cap : Nat) (f : Nat → Int) (w : World) (hs : BSeg w a b off n f) (hB : ∀ i, i < n → 0 ≤ f i ∧ f i ≤ 255) :
    Calls Tryd.prog 4 #[.slice a n cap] w fun e w' => e = .returned (.bool true) ∧ Below w.heap.size w w' := by
  by_cases hn : n ≤ 1048576
  · obtain ⟨i0, hi, hz0, hz1, hz2⟩ := info_parts Tryd.infoS
    have HNs : Hid (∀ (a : Option Addr) (b off n cap : Nat) (f : Nat → ByteArray) (a2 : Option Addr) (b2 off2 m cap2 : Nat) (g : Nat → ByteArray) (w : World), SSeg w a b off n f → SSeg w a2 b2 off2 m g → n ≤ 100 → m ≤ 100 → (∀ i, i < n → (f i).size ≤ 1048576) → (∀ i, i < m → (g i).size ≤ 1048576) → Calls Tryd.prog 8 #[.slice a n cap, .slice a2 m cap2] w fun e w' => e = .returned (.bool (nameB n m f g)) ∧ Ext w w') := fun a b off n cap f a2 b2 off2 m cap2 g w h1 h2 h3 h4 h5 h6 => implNameSame_any a b off n cap f a2 b2 off2 m cap2 g w h1 h2 (by omega) (by omega) h5 h6
    go_enter Tryd.func4, Tryd.ntmps4
    go_wp2_with fail
    refine (big_any a n cap w hn).mono ?_
    rintro e w0 ⟨rfl, rfl⟩
    go_wp2_with fail
    refine (drawNameSame_any a b off n cap f _ hs hB hn).mono ?_
    rintro e w1 ⟨k, M, g, a2, g2, cap2, hk, rfl, hA, hM, hMl, hMs, hE⟩
    have HE := hide hE
    have HA := hide hA
    have HM := hide hM
    obtain ⟨hl1, hl2, hl3⟩ := who_len k hk
    have HW := hide (who_wide k hk)
    have HLs : Hid (∀ i, i < (whoL k).length → (nth (whoL k) i).size ≤ 1048576) := fun i _ => by have := nth_lim hl3 i; omega
    have HLs2 : Hid (∀ i, i < (whoL k).length → (nth (whoL k) i).size ≤ 64) := fun i _ => nth_lim hl3 i
    have HMs : Hid (∀ i, i < M.length → (nth M i).size ≤ 1048576) := fun i _ => by have := nth_lim hMs i; omega
    clear hE hA hM hs hB hl3 hMs
    generalize whoL k = L at *
    obtain ⟨p, hp⟩ : ∃ p, L.length = p := ⟨_, rfl⟩
    obtain ⟨q, hq⟩ : ∃ q, M.length = q := ⟨_, rfl⟩
    have Hp := hide hp
    rw [hp] at hl1 hl2 HA HLs HLs2 HW ⊢
    rw [hq] at hMl HM HMs ⊢
    clear hp hq
    go_wp2_with fail
    refine (HNs.out _ _ _ _ _ _ _ _ _ _ _ _ _ HA.out HM.out (by omega) (by omega) HLs.out HMs.out).mono ?_
    rintro e w2 ⟨rfl, hE2⟩
    obtain ⟨X, hX⟩ : ∃ X, X = nameB p q (nth L) (nth M) := ⟨_, rfl⟩
    rw [← hX]
    have HX := hide hX
    replace HE := hide (Ext.trans HE.out hE2)
    replace HA := hide (HA.out.of_all hE2)
    replace HM := hide (HM.out.of_all hE2)
    clear hE2 hX
    have HO0 := hide (World.ownsRow_made (base := w2.heap.size) (e := 9) (size := 1) w2 #[] 0 (Nat.le_refl _) (by simp) rfl)
    go_wp2
    go_loopw [6, 7] (fun v i wr => ∃ j : Nat, j ≤ p ∧ i = .int .i64 (j : Int) ∧ wr.ownsRow w2.heap.size 9 1 v j (strs ((L.take j).map wideS)) ∧ Ext w2 wr) (fun _ i _ => p - (intOf i).toNat)
    case atStart => exact ⟨0, Nat.zero_le _, rfl, HO0.out, Ext.alloc _ _⟩
    case round =>
      clear HO0
      obtain ⟨j, hj, rfl, hO, hE⟩ := hrel
      have HO := hide hO
      have HE2 := hide hE
      by_cases hlt : j < p
      · have hc := (HA.out.of_all hE).cell j hlt
        simp only [Nat.zero_add] at hc
        have hsz := HLs2.out j hlt
        have HT := hide (take_next L j (by rw [Hp.out]; exact hlt))
        have hjp : (j : Int) < (p : Int) := by omega
        have HWs : Hid (wideS (nth L j) = ⟨#[32, 32]⟩ ++ nth L j ++ ⟨#[32]⟩) := rfl
        generalize nth L j = s at *
        obtain ⟨va, vc, rfl⟩ := row_slice hO
        have g1 : ¬ 9223372036854775807 < 2 + s.size := by omega
        have g2 : ¬ 9223372036854775807 < 2 + s.size + 1 := by omega
        clear hO hE
        go_wp2_with (at_builtin; refine wpList_append_own _ rfl _ _ 22 rfl w2.heap.size 9 i0 (.string ⟨#[]⟩) 1 16 Tryd.underlying22 hi hz0 hz1 hz2 rfl (by decide) _ _ _ rfl (HO.out.alloc _) ⟨wr.heap.size, 0, none⟩ 1 1 [.string (⟨#[32, 32]⟩ ++ s ++ ⟨#[32]⟩)] rfl rfl (cell_one_new _ _ _) (strs_one _) (by unfold maxLen; omega) (by omega) (by have := Below.size HE2.out; simp; omega) ?_; intro v9 w9 hown' hgrow hnil)
        have hN0 : w9.ownsRow w2.heap.size 9 1 v9 (j + 1) (strs ((L.take (j + 1)).map wideS)) := by
          rw [HT.out, HWs.out]
          simpa [strs] using hown'
        have HN := hide hN0
        clear hN0
        have HE9 := hide ((Below.alloc HE2.out (Below.size HE2.out) _).grown hgrow (by have := Below.size HE2.out; simp; omega) (fun j hj => (HO.out.lt j hj).1))
        clear hown' hgrow hnil
        go_wp2
        go_roundw
        case rel => exact ⟨j + 1, by omega, by go_num, HN.out, HE9.out⟩
        case measure => simp [intOf]; omega
      · obtain rfl : j = p := by omega
        have hO' : wr.ownsRow w2.heap.size 9 1 u6 (L.map wideS).length (strs (L.map wideS)) := by
          have h := HO.out
          rw [show L.take j = L by rw [← Hp.out]; exact List.take_length] at h
          rw [List.length_map, Hp.out]
          exact h
        obtain ⟨aw, gw, cw, rfl, hsw⟩ := row_seg hO'
        rw [List.length_map, Hp.out] at hsw ⊢
        have HSw := hide hsw
        replace HE := hide (Ext.trans HE.out HE2.out)
        replace HA := hide (HA.out.of_all HE2.out)
        replace HM := hide (HM.out.of_all HE2.out)
        have HWs : Hid (∀ i, i < j → (nth (L.map wideS) i).size ≤ 1048576) := fun i h => by
          have h1 := HLs2.out i h
          unfold nth at h1 ⊢
          rw [List.getD_eq_getElem?_getD, List.getElem?_eq_getElem (by rw [Hp.out]; exact h)] at h1
          rw [List.getD_eq_getElem?_getD, List.getElem?_map, List.getElem?_eq_getElem (by rw [Hp.out]; exact h)]
          simp [wideS, ByteArray.size_append', ByteArray.size_mk'] at h1 ⊢
          omega
        clear hO hE hO' hsw HO HE2
        have hxx : (X == X) = true := by simp
        go_wp2_with fail
        refine (HNs.out _ _ _ _ _ _ _ _ _ _ _ _ _ HM.out HA.out (by omega) (by omega) HMs.out HLs.out).mono ?_
        rintro e w3 ⟨rfl, hE3⟩
        rw [nameB_comm, ← HX.out]
        replace HE := hide (Ext.trans HE.out hE3)
        replace HA := hide (HA.out.of_all hE3)
        replace HSw := hide (HSw.out.of_all hE3)
        clear hE3
        go_wp2_with fail
        refine (HNs.out _ _ _ _ _ _ _ _ _ _ _ _ _ HA.out HA.out (by omega) (by omega) HLs.out HLs.out).mono ?_
        rintro e w4 ⟨rfl, hE4⟩
        rw [nameB_self]
        replace HE := hide (Ext.trans HE.out hE4)
        replace HA := hide (HA.out.of_all hE4)
        replace HSw := hide (HSw.out.of_all hE4)
        clear hE4
        go_wp2_with fail
        refine (HNs.out _ _ _ _ _ _ _ _ _ _ _ _ _ HA.out HSw.out (by omega) (by omega) HLs.out HWs.out).mono ?_
        rintro e w5 ⟨rfl, hE5⟩
        rw [nameB_yes HW.out]
        replace HE := hide (Ext.trans HE.out hE5)
        replace HA := hide (HA.out.of_all hE5)
        clear hE5 HSw
        have hO0 := World.ownsRow_made (base := w5.heap.size) (e := 9) (size := 1) w5 #[] 0 (Nat.le_refl _) (by simp) rfl
        have HO0 := hide hO0
        have E5 : Ext w5 (w5.alloc (.cells #[] 9)) := Ext.alloc _ _
        have HN := hide (SSeg.news (HA.out.of_all E5) Hp.out.symm)
        have HE5 := hide E5
        clear hO0 E5
        go_wp2_with (first
          | (at_builtin; refine wpList_append_on (by first | rfl | simp [Region.wanted, yielded]) _ _ 22 rfl w5.heap.size 9 i0 (.string ⟨#[]⟩) 1 16 Tryd.underlying22 hi hz0 hz1 hz2 rfl (by decide) _ _ _ rfl HO0.out ⟨g, 0, none⟩ j j (strs L) rfl (by simp [strs]; exact Hp.out) HN.out (strs_ones L) (by unfold maxLen; omega) (by omega) (by simp) ?_; intro v6 w6 hown' hgrow hnil; have HE6 := hide (ext_append (o := .cells #[] 9) HO0.out hgrow w5 HE5.out (Nat.le_refl _)); have HO6 : Hid (w6.ownsRow w5.heap.size 9 1 v6 j (strs L)) := hide (by simpa using hown'); clear hown' hgrow hnil)
          | (at_builtin; refine wpList_append_on (by first | rfl | simp [Region.wanted, yielded]) _ _ 22 rfl w5.heap.size 9 i0 (.string ⟨#[]⟩) 1 16 Tryd.underlying22 hi hz0 hz1 hz2 rfl (by decide) _ _ _ rfl (HO6.out.alloc _) ⟨w6.heap.size, 0, none⟩ 1 1 [.string ⟨#[109, 111, 114, 101]⟩] rfl rfl (cell_one_new _ _ _) (strs_one _) (by unfold maxLen; omega) (by omega) (by have := Below.size HE6.out; simp; omega) ?_; intro v7 w7 hown' hgrow hnil; have HE7 := hide ((Below.alloc HE6.out (Below.size HE6.out) _).grown hgrow (by have := Below.size HE6.out; simp; omega) (fun j hj => (HO6.out.lt j hj).1)); have HO7 : Hid (w7.ownsRow w5.heap.size 9 1 v7 (j + 1) (strs (L ++ [(⟨#[109, 111, 114, 101]⟩ : ByteArray)]))) := hide (by simpa [strs] using hown'); clear hown' hgrow hnil; obtain ⟨a7, c7, rfl⟩ := row_slice HO7.out))
        have hO7 : w7.ownsRow w5.heap.size 9 1 (.slice a7 (j + 1) c7) (L ++ [(⟨#[109, 111, 114, 101]⟩ : ByteArray)]).length (strs (L ++ [(⟨#[109, 111, 114, 101]⟩ : ByteArray)])) := by
          rw [List.length_append, Hp.out]
          exact HO7.out
        obtain ⟨a7', g7, c7', hv7, hs7⟩ := row_seg hO7
        simp only [Value.slice.injEq] at hv7
        obtain ⟨rfl, -, rfl⟩ := hv7
        rw [List.length_append, Hp.out, List.length_singleton] at hs7
        replace HE := hide (Ext.trans HE.out HE7.out)
        replace HA := hide (HA.out.of_all HE7.out)
        have HS7 := hide hs7
        have HL7 : Hid (∀ i, i < j + 1 → (nth (L ++ [(⟨#[109, 111, 114, 101]⟩ : ByteArray)]) i).size ≤ 1048576) := fun i h => by
          by_cases e : i < j
          · have h1 := HLs2.out i e
            unfold nth at h1 ⊢
            rw [List.getD_eq_getElem?_getD, List.getElem?_append_left (by rw [Hp.out]; exact e), ← List.getD_eq_getElem?_getD]
            omega
          · obtain rfl : i = j := by omega
            unfold nth
            rw [List.getD_eq_getElem?_getD, List.getElem?_append_right (by rw [Hp.out]; exact Nat.le_refl _), Hp.out, Nat.sub_self]
            decide
        clear hO7 hs7 HO7 HO6 HE6 HE7 HE5 HO0 HN
        refine (HNs.out _ _ _ _ _ _ _ _ _ _ _ _ _ HA.out HS7.out (by omega) (by omega) HLs.out HL7.out).mono ?_
        rintro e w8 ⟨rfl, hE8⟩
        rw [nameB_more]
        replace HE := hide (Ext.trans HE.out hE8)
        clear hE8 HS7
        have hs9 : SSeg (w8.alloc (.cells #[.string ⟨#[65, 97, 32, 32, 66]⟩] 9)) (some ⟨w8.heap.size, 0, none⟩) w8.heap.size 0 1 (fun _ => ⟨#[65, 97, 32, 32, 66]⟩) := ⟨fun _ => rfl, fun i h => by
          obtain rfl : i = 0 := by omega
          exact row_strs w8 [⟨#[65, 97, 32, 32, 66]⟩] 0 (by decide)⟩
        have hs10 : SSeg ((w8.alloc (.cells #[.string ⟨#[65, 97, 32, 32, 66]⟩] 9)).alloc (.cells #[.string ⟨#[97, 65, 32, 98]⟩] 9)) (some ⟨w8.heap.size + 1, 0, none⟩) (w8.heap.size + 1) 0 1 (fun _ => ⟨#[97, 65, 32, 98]⟩) := ⟨fun _ => rfl, fun i h => by
          obtain rfl : i = 0 := by omega
          have h1 := row_strs (w8.alloc (.cells #[.string ⟨#[65, 97, 32, 32, 66]⟩] 9)) [⟨#[97, 65, 32, 98]⟩] 0 (by decide)
          rw [show (w8.alloc (.cells #[.string ⟨#[65, 97, 32, 32, 66]⟩] 9)).heap.size = w8.heap.size + 1 by simp] at h1
          exact h1⟩
        have HS9 := hide (hs9.of_all (Ext.alloc _ (.cells #[.string ⟨#[97, 65, 32, 98]⟩] 9)))
        have HS10 := hide hs10
        replace HE := hide (Ext.trans HE.out (Ext.trans (Ext.alloc _ _) (Ext.alloc (w8.alloc (.cells #[.string ⟨#[65, 97, 32, 32, 66]⟩] 9)) (.cells #[.string ⟨#[97, 65, 32, 98]⟩] 9))))
        clear hs9 hs10
        go_wp2_with fail
        refine (HNs.out _ _ _ _ _ _ _ _ _ _ _ _ _ HS9.out HS10.out (by omega) (by omega) (fun _ _ => by decide) (fun _ _ => by decide)).mono ?_
        rintro e w11 ⟨rfl, hE11⟩
        rw [nameB_yes (fun _ _ => aab)]
        replace HE := hide (Ext.trans HE.out hE11)
        clear hE11
        go_wp2
        go_ret
        exact ⟨rfl, HE.out⟩
  · go_enter Tryd.func4, Tryd.ntmps4
    go_wp2_with fail
    refine (big_long a n cap w hn).mono ?_
    rintro e w0 ⟨rfl, rfl⟩
    go_wp2
    go_ret
    exact ⟨rfl, Below.refl _ _⟩

end Go.Proofs.YtdaneanloknkpaaDoor
