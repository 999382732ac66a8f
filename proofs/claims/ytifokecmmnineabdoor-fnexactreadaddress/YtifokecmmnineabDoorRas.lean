/- Walks: ReadAddress of the model. -/
import Derived.Test.YtifokecmmnineabDoorRai
import Derived.Test.YtifokecmmnineabDoorHom
namespace Go.Proofs.YtifokecmmnineabDoor
set_option linter.unusedVariables false
set_option linter.unusedSimpArgs false
open Go.RowKit Go.Sort

instance (p : List UInt8) : Decidable (canon p) := inferInstanceAs (Decidable (_ ∧ _))

theorem vlF_snoc (l : List UInt8) (b : UInt8) : ∀ acc, vlF acc (l ++ [b]) = 10 * vlF acc l + dv b := by
  induction l with
  | nil => intro acc; rw [List.nil_append, vlF_cons, vlF_nil, vlF_nil, stp_eq]
  | cons a l ih => intro acc; rw [List.cons_append, vlF_cons, vlF_cons, ih]
/-- What the first j digits spell. -/
def vq (p : ByteArray) (j : Nat) : Nat := vlF 0 (p.data.toList.take j)
theorem vq_step {p : ByteArray} {j : Nat} (h : j < p.size) : vq p (j + 1) = 10 * vq p j + (bt p j - 48) := by
  obtain ⟨x, hx, hb⟩ := bt_at h
  unfold vq
  rw [List.take_add_one, hx]
  show vlF 0 (p.data.toList.take j ++ [x]) = _
  rw [vlF_snoc, dv_eq, hb]
theorem vq_all (p : ByteArray) : vq p p.size = vl p.data.toList := by
  have hsz : p.data.toList.length = p.size := by rw [Array.length_toList]; rfl
  unfold vq
  rw [← hsz, List.take_length, vl_eq]
theorem len_size (p : ByteArray) : p.data.toList.length = p.size := by rw [Array.length_toList]; rfl
theorem head_bt {p : ByteArray} (h : 0 < p.size) : p.data.toList.head? = some 48 ↔ bt p 0 = 48 := by
  obtain ⟨x, hx, hb⟩ := bt_at h
  rw [List.head?_eq_getElem?, hx]
  constructor
  · intro e
    rw [← hb, Option.some.inj e]; rfl
  · intro e
    rw [UInt8.toNat_inj.1 (show x.toNat = (48 : UInt8).toNat from hb.trans e)]
theorem digP_iff (p : ByteArray) : digB p = true ↔ ∀ b ∈ p.data.toList, dgt b := by
  unfold digB
  rw [allN_iff]
  constructor
  · intro h b hb
    obtain ⟨j, hj⟩ := List.mem_iff_getElem?.1 hb
    have hl : j < p.size := by rw [← len_size]; exact (List.getElem?_eq_some_iff.1 hj).1
    obtain ⟨x, hx, hbt⟩ := bt_at hl
    rw [hx] at hj
    obtain rfl := Option.some.inj hj
    have := h j hl
    unfold dgB at this
    simp only [Bool.and_eq_true, decide_eq_true_eq] at this
    unfold dgt
    omega
  · intro h i hi
    obtain ⟨x, hx, hbt⟩ := bt_at hi
    have := h x (List.mem_iff_getElem?.2 ⟨i, hx⟩)
    unfold dgt at this
    unfold dgB
    simp only [Bool.and_eq_true, decide_eq_true_eq]
    omega
theorem nc_dig {p : ByteArray} (h : (digB p && decide (0 < p.size)) = false) : ¬ canon p.data.toList := fun c => by
  have h1 := (digP_iff p).2 c.1
  have h2 := c.2.1
  rw [len_size] at h2
  rw [h1, Bool.true_and, decide_eq_false_iff_not] at h
  omega
theorem nc_len {p : ByteArray} (h : 3 < p.size) : ¬ canon p.data.toList := fun c => by
  have h2 := c.2.2.1
  rw [len_size] at h2
  omega
theorem nc_zero {p : ByteArray} (h : 1 < p.size) (h0 : bt p 0 = 48) : ¬ canon p.data.toList := fun c =>
  c.2.2.2.1 (by rw [len_size]; exact h) ((head_bt (by omega)).2 h0)
theorem nc_big {p : ByteArray} (h : 255 < vq p p.size) : ¬ canon p.data.toList := fun c => by
  have := c.2.2.2.2
  rw [← vq_all] at this
  omega
theorem canon_of {p : ByteArray} (h : (digB p && decide (0 < p.size)) = true) (h3 : p.size ≤ 3) (h0 : 1 < p.size → bt p 0 ≠ 48) (hv : vq p p.size ≤ 255) : canon p.data.toList := by
  simp only [Bool.and_eq_true, decide_eq_true_eq] at h
  exact ⟨(digP_iff p).1 h.1, by rw [len_size]; omega, by rw [len_size]; exact h3, fun h1 e => h0 (by rw [← len_size]; exact h1) ((head_bt h.2).1 e), by rw [← vq_all]; exact hv⟩

theorem owns_keep0 {w : World} {B B' n : Nat} {v : Value} {xs : List Value} (ho : w.ownsRow B 3 1 v n xs) (h : B' ≤ B) : w.ownsRow B' 3 1 v n xs := by
  refine ⟨ho.1, ?_⟩
  rcases ho.2 with h0 | ⟨g, cap, cur, rfl, hb, rest⟩
  · exact .inl h0
  · exact .inr ⟨g, cap, cur, rfl, Nat.le_trans h hb, rest⟩

theorem e_facts {c n m : Nat} (hm : m = c - 48) (h : 48 ≤ c) (h2 : c ≤ 57) (hn : n ≤ 100) : IntKind.u8.wrap ((c : Int) - 48) = (m : Int) ∧ wrap64 (10 * (n : Int)) = 10 * n ∧ wrap64 (10 * (n : Int) + (m : Int)) = 10 * n + m ∧ IntKind.i64.wrap (10 * (n : Int)) = 10 * n ∧ IntKind.i64.wrap (10 * (n : Int) + (m : Int)) = 10 * n + m ∧ IntKind.i64.wrap (m : Int) = m ∧ wrap64 (m : Int) = m := by
  refine ⟨by rw [IntKind.wrap_u8]; omega, by unfold wrap64; omega, by unfold wrap64; omega, by rw [IntKind.wrap_i64]; omega, by rw [IntKind.wrap_i64]; omega, by rw [IntKind.wrap_i64]; omega, by unfold wrap64; omega⟩

/-- The model's answer. -/
def spL (s : ByteArray) : List Int := (parts s 46).map fun p => (vl p.data.toList : Int)
def spB (s : ByteArray) : Bool := decide (s.size ≤ 15) && (decide ((parts s 46).length = 4) && decide (∀ x ∈ parts s 46, canon x.data.toList))

set_option maxHeartbeats 3200000 in
set_option maxRecDepth 100000 in
theorem specRead_any (s : ByteArray) (w : World) (hss : s.size ≤ 1048576) :
    Calls Tryd.prog 10 #[.string s] w fun e w' => GivesN w (if spB s then spL s else []) (spB s) e w' := by
  obtain ⟨i0, hi0, hz0, hz1, hz2⟩ := info_parts Tryd.info3
  have hO0 := World.ownsRow_made (base := w.heap.size) (e := 3) (size := 1) w #[] 0 (Nat.le_refl _) (by simp) rfl
  by_cases hs : s.size ≤ 15
  · have hg : ¬ (15 : Int) < (s.size : Int) := by omega
    have HL : Hid ((spL s).length = (parts s 46).length ∧ (parts s 46).length ≤ 16 ∧ 1 ≤ (parts s 46).length ∧ (∀ i, i < (parts s 46).length → (nth (parts s 46) i).size ≤ 15 ∧ (spL s)[i]? = some (vl (nth (parts s 46) i).data.toList : Int))) := by
      refine ⟨by simp [spL], by have := parts_le s 46; omega, parts_ne s 46, fun i hi => ⟨rdI_size s hs i hi, ?_⟩⟩
      unfold spL nth
      simp [hi]
    have HP := hide (l8Parts_any s 46 (by omega) (by omega) (w.alloc (.cells #[] 3)))
    have HF : Hid (∀ k, k < (parts s 46).length → ¬ canon (nth (parts s 46) k).data.toList → spB s = false) := fun k hk hc => by
      unfold spB
      rw [decide_eq_false (p := ∀ x ∈ parts s 46, canon x.data.toList) (fun h => hc (h _ (by
        unfold nth
        rw [List.getD_eq_getElem?_getD, List.getElem?_eq_getElem hk]
        exact List.getElem_mem hk)))]
      simp
    have HY : Hid ((∀ k, k < (parts s 46).length → canon (nth (parts s 46) k).data.toList) → spB s = decide ((parts s 46).length = 4)) := fun h => by
      unfold spB
      rw [decide_eq_true hs, decide_eq_true (p := ∀ x ∈ parts s 46, canon x.data.toList) (fun x hx => by
        obtain ⟨i, hi, rfl⟩ := List.mem_iff_getElem.1 hx
        have := h i hi
        unfold nth at this
        rwa [List.getD_eq_getElem?_getD, List.getElem?_eq_getElem hi] at this)]
      simp
    generalize parts s 46 = L at *
    generalize spB s = R at *
    generalize spL s = A at *
    have HO := hide hO0
    clear hO0 hs
    go_enter Tryd.func10, Tryd.ntmps10
    go_wp2_with (go_at_call 26; refine HP.out.mono ?_; rintro e w1 ⟨g, cp, rfl, hgc, hE1⟩; have Hgc := hide hgc; have HE1 := hide hE1; clear hgc hE1)
    have hgl : g < w1.heap.size := World.block_lt_of_cell? _ _ (Hgc.out 0 HL.out.2.2.1)
    have HN : Hid (∀ wr, Ext w1 wr → GivesN w [] false (.returned (.tuple #[.slice (some ⟨w.heap.size, 0, none⟩) 0 0, .bool false])) wr) := fun wr h => ⟨_, rfl, owns_keepY HO.out (Ext.trans HE1.out h), Ext.trans (Ext.trans (Ext.alloc _ _) HE1.out) h⟩
    have HW := hide (World.ownsRow_made (base := w1.heap.size) (e := 3) (size := 1) w1 #[] 0 (Nat.le_refl _) (by simp) rfl)
    have HX : Hid (∀ wr, Ext w1 wr → Ext w wr) := fun wr h => Ext.trans (Ext.trans (Ext.alloc _ _) HE1.out) h
    have hws : w.heap.size ≤ w1.heap.size := Below.size (HX.out w1 (Ext.refl _))
    clear HO HE1 HP
    go_loopw [6, 7] (fun v i wr => ∃ k : Nat, k ≤ L.length ∧ i = .int .i64 (k : Int) ∧ (∀ j, j < k → canon (nth L j).data.toList) ∧ wr.ownsRow w1.heap.size 3 1 v (A.take k).length (ys (A.take k)) ∧ Ext w1 wr) (fun _ i _ => L.length - (intOf i).toNat)
    case atStart => exact ⟨0, Nat.zero_le _, rfl, fun j hj => absurd hj (Nat.not_lt_zero _), HW.out, Ext.alloc _ _⟩
    case round =>
      obtain ⟨k, hk, rfl, hcn, hO, hE⟩ := hrel
      clear HW
      by_cases hlt : k < L.length
      · have hkn : (k : Int) < (L.length : Int) := by omega
        have ck := (World.cell?_of_block (a := ⟨g, k, none⟩) (Below.block hE g hgl)).trans (Hgc.out k hlt)
        obtain ⟨hz, hA⟩ := HL.out.2.2.2 k hlt
        have hAk : A.take (k + 1) = A.take k ++ [(vl (nth L k).data.toList : Int)] := by rw [List.take_add_one, hA]; rfl
        have HAk := hide hAk
        have hAl : (A.take k).length = k := by rw [List.length_take, HL.out.1]; omega
        have HAl := hide hAl
        have hL16 := HL.out.2.1
        have HDi := hide (fun W => l8Digits_any (nth L k) (by omega) W)
        have HNc := hide (HF.out k hlt)
        have HCn : Hid (canon (nth L k).data.toList → ∀ j, j < k + 1 → canon (nth L j).data.toList) := fun h j hj => by
          by_cases e : j = k
          · subst e; exact h
          · exact hcn j (by omega)
        have HVa := hide (vq_all (nth L k))
        have HV := hide (fun j => @vq_step (nth L k) j)
        have HV0 : Hid (vq (nth L k) 0 = 0) := rfl
        have HB := hide (bt_get (nth L k))
        have Hn1 := hide (@nc_dig (nth L k))
        have Hn2 := hide (@nc_len (nth L k))
        have Hn3 := hide (@nc_zero (nth L k))
        have Hn4 := hide (@nc_big (nth L k))
        have Hn5 := hide (@canon_of (nth L k))
        have Hdg : Hid (digB (nth L k) = true → ∀ j, j < (nth L k).size → 48 ≤ bt (nth L k) j ∧ bt (nth L k) j ≤ 57) := fun h j hj => by
          have := (allN_iff _ _ _).1 h j hj
          unfold dgB at this
          simpa using this
        have HO := hide hO
        have HE := hide hE
        clear hO hE hcn hAk hAl hA HY HF Hgc HL
        generalize nth L k = p at *
        cases hd : (digB p && decide (0 < p.size))
        · rw [hd] at HDi
          have hR := HNc.out (Hn1.out hd)
          subst hR
          clear hd
          go_wp2_with (go_at_call 27; refine (HDi.out _).mono ?_; rintro e w2 ⟨rfl, hw⟩; obtain rfl := hw.symm)
          go_ret2
          exact HN.out _ HE.out
        · rw [hd] at HDi
          by_cases h3 : 3 < p.size
          · have hR := HNc.out (Hn2.out h3)
            subst hR
            clear hd
            have h3' : (3 : Int) < (p.size : Int) := by omega
            go_wp2_with (go_at_call 27; refine (HDi.out _).mono ?_; rintro e w2 ⟨rfl, hw⟩; obtain rfl := hw.symm)
            go_ret2
            exact HN.out _ HE.out
          · have h3' : ¬ (3 : Int) < (p.size : Int) := by omega
            have hd2 := hd
            simp only [Bool.and_eq_true, decide_eq_true_eq] at hd2
            obtain ⟨hdig, hpos⟩ := hd2
            have hb0 := HB.out 0 hpos
            have hpos' : (0 : Int) < (p.size : Int) := by omega
            by_cases hzz : 1 < p.size ∧ bt p 0 = 48
            · have hR := HNc.out (Hn3.out hzz.1 hzz.2)
              subst hR
              have h1' : (1 : Int) < (p.size : Int) := by omega
              have hq := hzz.2
              rw [hq] at hb0
              clear hd hdig hzz hq
              go_wp2_with (go_at_call 27; refine (HDi.out _).mono ?_; rintro e w2 ⟨rfl, hw⟩; obtain rfl := hw.symm)
              go_ret2
              exact HN.out _ HE.out
            · have hno : 1 < p.size → bt p 0 ≠ 48 := fun h e => hzz ⟨h, e⟩
              have HG := hide (fun j hj => Hdg.out hdig j hj)
              have H5 := hide (fun hv => Hn5.out hd (by omega) hno hv)
              clear hd hdig hzz Hdg Hn1 Hn2 Hn3 Hn5
              have hc1 : (1 < p.size ∧ ((bt p 0 : Int) == 48) = false) ∨ ¬ 1 < p.size := by
                by_cases h : 1 < p.size
                · exact .inl ⟨h, by have := hno h; simp; omega⟩
                · exact .inr h
              clear hno
              generalize hbe : bt p 0 = c0 at *
              clear hbe
              rcases hc1 with ⟨h1, hc0⟩ | h1
              · have h1' : (1 : Int) < (p.size : Int) := by omega
                clear h1
                go_wp2_with (go_at_call 27; refine (HDi.out _).mono ?_; rintro e w2 ⟨rfl, hw⟩; obtain rfl := hw.symm)
                go_loop [9, 10] (fun nv jv => ∃ j n : Nat, j ≤ p.size ∧ jv = .int .i64 (j : Int) ∧ nv = .int .i64 (n : Int) ∧ n = vq p j ∧ n + 1 ≤ 10 ^ j) (fun _ jv => p.size - (intOf jv).toNat)
                case atStart => exact ⟨0, 0, Nat.zero_le _, rfl, rfl, HV0.out.symm, by simp⟩
                case round =>
                  obtain ⟨j, n, hj, rfl, rfl, hn, hp⟩ := hrel
                  by_cases hjl : j < p.size
                  · have hjn : (j : Int) < (p.size : Int) := by omega
                    have hbj := HB.out j hjl
                    obtain ⟨g0, g1⟩ := HG.out j hjl
                    have hst := HV.out j hjl
                    rw [← hn] at hst
                    have hP : 10 ^ j ≤ 100 := Nat.le_trans (Nat.pow_le_pow_right (by omega) (show j ≤ 2 by omega)) (by decide)
                    have hP2 : 10 ^ (j + 1) = 10 ^ j * 10 := Nat.pow_succ ..
                    have HS := hide hst
                    have HP2 := hide hP2
                    clear hst hP2 hn
                    generalize bt p j = c at *
                    generalize 10 ^ j = P at *
                    obtain ⟨m, hm⟩ : ∃ m, m = c - 48 := ⟨_, rfl⟩
                    have hm9 : m ≤ 9 := by omega
                    obtain ⟨e1, e2, e3, e4, e5, e6, e7⟩ := e_facts hm g0 g1 (show n ≤ 100 by omega)
                    have Hm := hide hm
                    clear hm
                    go_wp2
                    go_round
                    case rel =>
                      clear e1 e2 e3 e4 e5 e6 e7
                      exact ⟨j + 1, 10 * n + m, hjl, congrArg (Value.int IntKind.i64) (show ((j : Int) + 1) = ((j + 1 : Nat) : Int) by omega), congrArg (Value.int IntKind.i64) (show (10 * (n : Int) + (m : Int)) = ((10 * n + m : Nat) : Int) by omega), (Hm.out ▸ HS.out.symm), HP2.out ▸ (show 10 * n + m + 1 ≤ P * 10 by omega)⟩
                    case measure =>
                      clear e1 e2 e3 e4 e5 e6 e7
                      simp [intOf]; omega
                  · obtain rfl : j = p.size := by omega
                    have hjn : ¬ (p.size : Int) < (p.size : Int) := by omega
                    by_cases hbig : 255 < n
                    · have hR := HNc.out (Hn4.out (by rw [← hn]; exact hbig))
                      subst hR
                      have hbig' : (255 : Int) < (n : Int) := by omega
                      clear hbig hn hp
                      go_wp2
                      go_ret2
                      exact HN.out _ HE.out
                    · have hbig' : ¬ (255 : Int) < (n : Int) := by omega
                      have HC := hide (HCn.out (H5.out (by rw [← hn]; omega)))
                      have hvn : vl p.data.toList = n := by rw [← HVa.out, ← hn]
                      rw [hvn] at HAk
                      clear hbig hn hp hvn
                      go_wp2_with (at_builtin; refine wpList_append_own _ rfl _ _ 22 rfl w1.heap.size 3 i0 (.int .i64 0) 1 8 Tryd.underlying22 hi0 hz0 hz1 hz2 rfl (by decide) _ _ _ rfl (HO.out.alloc _) ⟨wr.heap.size, 0, none⟩ 1 1 [.int .i64 (n : Int)] rfl rfl (cell_one_new _ _ _) (ys_one _) (by rw [HAl.out]; unfold maxLen; omega) (by rw [HAl.out]; omega) (by have := Below.size HE.out; simp; omega) ?_; intro v' w4 hown' hgrow hnil)
                      have hE4 : Ext w1 w4 := (Below.alloc HE.out (Below.size HE.out) _).grown hgrow (by have := Below.size HE.out; simp; omega) (fun j hj => (HO.out.lt j hj).1)
                      have hown4 : w4.ownsRow w1.heap.size 3 1 v' (A.take (k + 1)).length (ys (A.take (k + 1))) := by
                        rw [HAk.out]
                        simpa [ys] using hown'
                      have HF4 := hide (And.intro hown4 hE4)
                      clear hown4 hE4 hown' hgrow hnil
                      go_wp2
                      go_roundw
                      case rel => exact ⟨k + 1, by omega, by go_num, HC.out, HF4.out⟩
                      case measure => simp [intOf]; omega
              · have h1' : ¬ (1 : Int) < (p.size : Int) := by omega
                clear h1
                go_wp2_with (go_at_call 27; refine (HDi.out _).mono ?_; rintro e w2 ⟨rfl, hw⟩; obtain rfl := hw.symm)
                go_loop [9, 10] (fun nv jv => ∃ j n : Nat, j ≤ p.size ∧ jv = .int .i64 (j : Int) ∧ nv = .int .i64 (n : Int) ∧ n = vq p j ∧ n + 1 ≤ 10 ^ j) (fun _ jv => p.size - (intOf jv).toNat)
                case atStart => exact ⟨0, 0, Nat.zero_le _, rfl, rfl, HV0.out.symm, by simp⟩
                case round =>
                  obtain ⟨j, n, hj, rfl, rfl, hn, hp⟩ := hrel
                  by_cases hjl : j < p.size
                  · have hjn : (j : Int) < (p.size : Int) := by omega
                    have hbj := HB.out j hjl
                    obtain ⟨g0, g1⟩ := HG.out j hjl
                    have hst := HV.out j hjl
                    rw [← hn] at hst
                    have hP : 10 ^ j ≤ 100 := Nat.le_trans (Nat.pow_le_pow_right (by omega) (show j ≤ 2 by omega)) (by decide)
                    have hP2 : 10 ^ (j + 1) = 10 ^ j * 10 := Nat.pow_succ ..
                    have HS := hide hst
                    have HP2 := hide hP2
                    clear hst hP2 hn
                    generalize bt p j = c at *
                    generalize 10 ^ j = P at *
                    obtain ⟨m, hm⟩ : ∃ m, m = c - 48 := ⟨_, rfl⟩
                    have hm9 : m ≤ 9 := by omega
                    obtain ⟨e1, e2, e3, e4, e5, e6, e7⟩ := e_facts hm g0 g1 (show n ≤ 100 by omega)
                    have Hm := hide hm
                    clear hm
                    go_wp2
                    go_round
                    case rel =>
                      clear e1 e2 e3 e4 e5 e6 e7
                      exact ⟨j + 1, 10 * n + m, hjl, congrArg (Value.int IntKind.i64) (show ((j : Int) + 1) = ((j + 1 : Nat) : Int) by omega), congrArg (Value.int IntKind.i64) (show (10 * (n : Int) + (m : Int)) = ((10 * n + m : Nat) : Int) by omega), (Hm.out ▸ HS.out.symm), HP2.out ▸ (show 10 * n + m + 1 ≤ P * 10 by omega)⟩
                    case measure =>
                      clear e1 e2 e3 e4 e5 e6 e7
                      simp [intOf]; omega
                  · obtain rfl : j = p.size := by omega
                    have hjn : ¬ (p.size : Int) < (p.size : Int) := by omega
                    by_cases hbig : 255 < n
                    · have hR := HNc.out (Hn4.out (by rw [← hn]; exact hbig))
                      subst hR
                      have hbig' : (255 : Int) < (n : Int) := by omega
                      clear hbig hn hp
                      go_wp2
                      go_ret2
                      exact HN.out _ HE.out
                    · have hbig' : ¬ (255 : Int) < (n : Int) := by omega
                      have HC := hide (HCn.out (H5.out (by rw [← hn]; omega)))
                      have hvn : vl p.data.toList = n := by rw [← HVa.out, ← hn]
                      rw [hvn] at HAk
                      clear hbig hn hp hvn
                      go_wp2_with (at_builtin; refine wpList_append_own _ rfl _ _ 22 rfl w1.heap.size 3 i0 (.int .i64 0) 1 8 Tryd.underlying22 hi0 hz0 hz1 hz2 rfl (by decide) _ _ _ rfl (HO.out.alloc _) ⟨wr.heap.size, 0, none⟩ 1 1 [.int .i64 (n : Int)] rfl rfl (cell_one_new _ _ _) (ys_one _) (by rw [HAl.out]; unfold maxLen; omega) (by rw [HAl.out]; omega) (by have := Below.size HE.out; simp; omega) ?_; intro v' w4 hown' hgrow hnil)
                      have hE4 : Ext w1 w4 := (Below.alloc HE.out (Below.size HE.out) _).grown hgrow (by have := Below.size HE.out; simp; omega) (fun j hj => (HO.out.lt j hj).1)
                      have hown4 : w4.ownsRow w1.heap.size 3 1 v' (A.take (k + 1)).length (ys (A.take (k + 1))) := by
                        rw [HAk.out]
                        simpa [ys] using hown'
                      have HF4 := hide (And.intro hown4 hE4)
                      clear hown4 hE4 hown' hgrow hnil
                      go_wp2
                      go_roundw
                      case rel => exact ⟨k + 1, by omega, by go_num, HC.out, HF4.out⟩
                      case measure => simp [intOf]; omega
      · obtain rfl : k = L.length := by omega
        have hAA : A.take L.length = A := by rw [← HL.out.1, List.take_length]
        rw [hAA] at hO
        have hlen := HL.out.1
        have hR := HY.out hcn
        obtain ⟨aa, gg, cg, rfl, hgg, hOw⟩ := own_of_ys hO
        have HO := hide hO
        have HE := hide hE
        clear hO hE hcn hAA hOw HY HF Hgc HL
        by_cases h4 : L.length = 4
        · rw [decide_eq_true h4] at hR
          subst hR
          have h4' : ((A.length : Int) != 4) = false := by simp; omega
          have hL : ¬ ((L.length : Int) < (L.length : Int)) := by omega
          clear h4 hlen
          go_wp2
          go_ret2
          exact ⟨_, rfl, owns_keep0 HO.out hws, HX.out _ HE.out⟩
        · rw [decide_eq_false h4] at hR
          subst hR
          have h4' : ((A.length : Int) != 4) = true := by simp; omega
          have hL : ¬ ((L.length : Int) < (L.length : Int)) := by omega
          clear h4 hlen
          go_wp2
          go_ret2
          exact HN.out _ HE.out
  · have hg : (15 : Int) < (s.size : Int) := by omega
    have hR : spB s = false := by unfold spB; simp [hs]
    rw [hR]
    go_enter Tryd.func10, Tryd.ntmps10
    go_wp2
    go_ret2
    exact ⟨_, rfl, hO0, Ext.alloc _ _⟩

end Go.Proofs.YtifokecmmnineabDoor
