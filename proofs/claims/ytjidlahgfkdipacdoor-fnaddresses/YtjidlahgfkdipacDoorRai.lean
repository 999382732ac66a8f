/- Walks: ReadAddress of the program. -/
import Derived.Test.YtjidlahgfkdipacDoorWai
import Derived.Test.YtjidlahgfkdipacDoorAdP
import Derived.Test.YtjidlahgfkdipacDoorShelfA
namespace Go.Proofs.YtjidlahgfkdipacDoor
set_option linter.unusedVariables false
set_option linter.unusedSimpArgs false
open Go.RowKit Go.Sort

/-- The library's sentinel lies in its variable. -/
def Err (w : World) : Prop := ∃ tp p, w.var? Tryd.prog "strconv.ErrSyntax" = some #[.iface tp p]
theorem Err.ext {w w' : World} (h : Err w) (e : Ext w w') : Err w' := by
  obtain ⟨tp, p, h⟩ := h
  refine ⟨tp, p, ?_⟩
  unfold World.var? at *
  cases hg : Program.globalNamed Tryd.prog "strconv.ErrSyntax" with
  | none => simp [hg] at h
  | some g =>
    simp only [hg, Option.bind_some] at h ⊢
    have hlt : g < w.heap.size := by
      by_cases hlt : g < w.heap.size
      · exact hlt
      · rw [Array.getElem?_eq_none (by omega)] at h; simp at h
    rw [Below.block e g hlt]
    exact h

theorem atoi_any (s : ByteArray) (hs : s.size ≤ 15) (w : World) (hE : Err w) : Calls Tryd.prog 47 #[.string s] w fun e w' => ∃ x, e = .returned (.tuple #[.int .i64 (rdI s.data.toList), x]) ∧ Ext w w' := by
  cases h : Lib.atoi s.data.toList with
  | some n =>
    refine (Tryd.strconv_Atoi s n (by omega) h w).mono ?_
    rintro e w' ⟨rfl, t, rfl⟩
    exact ⟨_, by unfold rdI; rw [h]; rfl, Lib.bytesWorld_below _ _ _⟩
  | none =>
    obtain ⟨tp, p, hv⟩ := hE
    refine (Tryd.strconv_Atoi_err_var s (by omega) h tp p w hv).mono ?_
    rintro e w' ⟨N, rfl, -, -, hb⟩
    exact ⟨_, by unfold rdI; rw [h]; rfl, hb⟩

/-- The numbers that the program reads. -/
def rdL (s : ByteArray) : List Int := (parts s 46).map fun p => rdI p.data.toList
def ys (L : List Int) : List Value := L.map (.int .i64 ·)
theorem ys_ints (L : List Int) : ys L = ints (fun i => L.getD i 0) L.length := by
  unfold ys ints
  apply List.ext_getElem
  · simp
  · intro i h1 h2
    simp at h1
    simp [h1]
theorem ys_one (x : Int) : ∀ u ∈ [Value.int .i64 x], u.oneCell' = true := by
  intro u hu
  simp at hu
  subst hu
  rfl
theorem own_of_ys {w : World} {B : Nat} {v : Value} {L : List Int} (h : w.ownsRow B 3 1 v L.length (ys L)) : ∃ a g cap, v = .slice a L.length cap ∧ B ≤ g ∧ Own w a g 0 L.length (fun i => L.getD i 0) := by
  rw [ys_ints] at h
  exact own_of_owns h
theorem owns_keepY {w w' : World} {B n : Nat} {v : Value} {xs : List Value} (ho : w.ownsRow B 3 1 v n xs) (h : Ext w w') : w'.ownsRow B 3 1 v n xs := by
  refine ⟨ho.1, ?_⟩
  rcases ho.2 with h0 | ⟨g, cap, cur, rfl, hb, hg, rest⟩
  · exact .inl h0
  · exact .inr ⟨g, cap, cur, rfl, hb, (Below.block h g (Array.getElem?_eq_some_iff.1 hg).1).trans hg, rest⟩

/-- A new list of numbers, and ok. -/
def GivesN (w : World) (L : List Int) (ok : Bool) (e : Ending) (w' : World) : Prop := ∃ v, e = .returned (.tuple #[v, .bool ok]) ∧ w'.ownsRow w.heap.size 3 1 v L.length (ys L) ∧ Ext w w'
/-- The program's answer. -/
def rdB (s : ByteArray) : Bool := decide (s.size ≤ 15) && (fourB (rdL s).length (fun i => (rdL s).getD i 0) && (adrB (rdL s).length (fun i => (rdL s).getD i 0)).toList == s.toList)

theorem partsFrom_sz (s : ByteArray) : ∀ n k fr, ∀ p ∈ partsFrom s 46 n k fr, p.size ≤ s.size
  | 0, k, fr => by
    intro p hp
    rw [partsFrom, List.mem_singleton] at hp
    subst hp
    rw [ByteArray.size_extract]
    omega
  | n + 1, k, fr => by
    intro p hp
    unfold partsFrom at hp
    split at hp
    · rcases List.mem_cons.1 hp with rfl | hp
      · rw [ByteArray.size_extract]; omega
      · exact partsFrom_sz s n _ _ p hp
    · exact partsFrom_sz s n _ _ p hp
theorem rdI_size (s : ByteArray) (hs : s.size ≤ 15) : ∀ i, i < (parts s 46).length → (nth (parts s 46) i).size ≤ 15 := by
  intro i hi
  have : nth (parts s 46) i ∈ parts s 46 := by
    unfold nth
    rw [List.getD_eq_getElem?_getD, List.getElem?_eq_getElem hi]
    exact List.getElem_mem hi
  have := partsFrom_sz s _ _ _ _ this
  omega

set_option maxHeartbeats 3200000 in
set_option maxRecDepth 100000 in
theorem implRead_any (s : ByteArray) (w : World) (hss : s.size ≤ 1048576) (hT : Tab w) (hEr : Err w) :
    Calls Tryd.prog 12 #[.string s] w fun e w' => GivesN w (if rdB s then rdL s else []) (rdB s) e w' := by
  obtain ⟨i0, hi0, hz0, hz1, hz2⟩ := info_parts Tryd.info3
  have hO0 := World.ownsRow_made (base := w.heap.size) (e := 3) (size := 1) w #[] 0 (Nat.le_refl _) (by simp) rfl
  by_cases hs : s.size ≤ 15
  · have hg : ¬ (15 : Int) < (s.size : Int) := by omega
    have Hs := hide hs
    have HL : Hid ((rdL s).length = (parts s 46).length ∧ (parts s 46).length ≤ 16 ∧ 1 ≤ (parts s 46).length ∧ (∀ i, i < (parts s 46).length → (nth (parts s 46) i).size ≤ 15 ∧ (rdL s)[i]? = some (rdI (nth (parts s 46) i).data.toList))) := by
      refine ⟨by simp [rdL], by have := parts_le s 46; omega, parts_ne s 46, fun i hi => ⟨rdI_size s hs i hi, ?_⟩⟩
      unfold rdL nth
      simp [hi]
    have HP := hide (pieces_any s (by omega) (w.alloc (.cells #[] 3)))
    have HR : Hid (rdB s = (fourB (rdL s).length (fun i => (rdL s).getD i 0) && (adrB (rdL s).length (fun i => (rdL s).getD i 0)).toList == s.toList)) := by
      show _ = _
      unfold rdB
      simp [hs]
    generalize parts s 46 = L at *
    generalize rdB s = R at *
    generalize rdL s = A at *
    have HO := hide hO0
    have HT := hide hT
    have HEr := hide hEr
    clear hO0 hT hEr hs
    go_enter Tryd.func12, Tryd.ntmps12
    go_wp2_with (go_at_call 46; refine HP.out.mono ?_; rintro e w1 ⟨g, cp, rfl, hgc, hE1⟩; have Hgc := hide hgc; have HE1 := hide hE1; clear hgc hE1)
    go_loopw [4, 19] (fun v i wr => ∃ k : Nat, k ≤ L.length ∧ i = .int .i64 (k : Int) ∧ wr.ownsRow w.heap.size 3 1 v (A.take k).length (ys (A.take k)) ∧ Ext w wr ∧ (∀ i, i < L.length → wr.cell? ⟨g, i, none⟩ = some (.string (nth L i))) ∧ (∀ b', v.ownBlock = some b' → b' ≠ g) ∧ g < wr.heap.size) (fun _ i _ => L.length - (intOf i).toNat)
    case atStart =>
      refine ⟨0, Nat.zero_le _, rfl, owns_keepY HO.out HE1.out, Ext.trans (Ext.alloc _ _) HE1.out, Hgc.out, ?_, World.block_lt_of_cell? _ _ (Hgc.out 0 HL.out.2.2.1)⟩
      intro b' hb' e
      simp only [Value.ownBlock, Option.some.injEq] at hb'
      subst hb'
      have h1 := Hgc.out 0 HL.out.2.2.1
      rw [← e, Below.cell HE1.out (p := ⟨w.heap.size, 0, none⟩) (by simp)] at h1
      simp [go_sem] at h1
    case round =>
      obtain ⟨k, hk, rfl, hO, hE, hc, hne, hgl⟩ := hrel
      clear HP HO HE1 Hgc
      by_cases hlt : k < L.length
      · have hkn : (k : Int) < (L.length : Int) := by omega
        have ck := hc k hlt
        obtain ⟨hz, hA⟩ := HL.out.2.2.2 k hlt
        have HAt := hide (fun W (h : Ext w W) => atoi_any (nth L k) hz W (HEr.out.ext h))
        have hAk : A.take (k + 1) = A.take k ++ [rdI (nth L k).data.toList] := by rw [List.take_add_one, hA]; rfl
        have HAk := hide hAk
        have hAl : (A.take k).length = k := by rw [List.length_take, HL.out.1]; omega
        have HAl := hide hAl
        have hL16 := HL.out.2.1
        generalize rdI (nth L k).data.toList = x at *
        generalize nth L k = p at *
        have HO := hide hO
        have HE := hide hE
        have Hc := hide hc
        have Hne := hide hne
        clear hO hE hc hne hAk hAl hA hz
        go_wp2_with (first | (go_at_call 47; refine (HAt.out _ HE.out).mono ?_; rintro e w2 ⟨y, rfl, hE2⟩; have HE2 := hide hE2; clear hE2) | (at_builtin; refine wpList_append_own_at _ rfl _ _ 24 rfl w.heap.size 3 i0 (.int .i64 0) 1 8 Tryd.underlying24 hi0 hz0 hz1 hz2 rfl (by decide) _ _ _ rfl ((owns_keepY HO.out HE2.out).alloc _) ⟨w2.heap.size, 0, none⟩ 1 1 [.int .i64 x] rfl rfl (cell_one_new _ _ _) (ys_one _) (by rw [HAl.out]; unfold maxLen; omega) (by rw [HAl.out]; omega) (by have := Below.size HE.out; have := Below.size HE2.out; simp; omega) ?_; intro v' w4 hown' hgrow hnil hat; have HV := hide hown'; have HG := hide hgrow; have HA4 := hide hat; clear hown' hgrow hnil hat))
        have s1 := Below.size HE.out
        have s2 := Below.size HE2.out
        have s4 := HG.out.size
        simp at s4
        have hE4 : Ext w w4 := (Below.alloc (Ext.trans HE.out HE2.out) (by omega) _).grown HG.out (by simp; omega) (fun j hj => ((owns_keepY HO.out HE2.out).lt j hj).1)
        have hb4 : w4.heap[g]? = wr.heap[g]? := ((HG.out.block g (by simp; omega) (fun e => Hne.out g e.symm rfl)).trans (Below.heap_alloc _ _ _ (by omega))).trans (Below.block HE2.out g hgl)
        have hne4 : ∀ b', v'.ownBlock = some b' → b' ≠ g := fun b' h e => by
          rcases HA4.out with h5 | h5
          · exact Hne.out b' (h5.symm.trans h) e
          · rw [h5] at h
            simp only [Option.some.injEq] at h
            simp at h
            omega
        have hown4 : w4.ownsRow w.heap.size 3 1 v' (A.take (k + 1)).length (ys (A.take (k + 1))) := by
          rw [HAk.out]
          simpa [ys] using HV.out
        have HF := hide (⟨hown4, hE4, fun i hi => (World.cell?_of_block (a := ⟨g, i, none⟩) hb4).trans (Hc.out i hi), hne4, by omega⟩ : w4.ownsRow w.heap.size 3 1 v' (A.take (k + 1)).length (ys (A.take (k + 1))) ∧ Ext w w4 ∧ (∀ i, i < L.length → w4.cell? ⟨g, i, none⟩ = some (.string (nth L i))) ∧ (∀ b', v'.ownBlock = some b' → b' ≠ g) ∧ g < w4.heap.size)
        clear hown4 hE4 hb4 hne4 s1 s2 s4
        go_wp2
        go_roundw
        case rel => exact ⟨k + 1, by omega, by go_num, HF.out⟩
        case measure => simp [intOf]; omega
      · obtain rfl : k = L.length := by omega
        have hAA : A.take L.length = A := by rw [← HL.out.1, List.take_length]
        rw [hAA] at hO
        have hO2 := hO
        obtain ⟨aa, gg, cg, rfl, hgg, hOw⟩ := own_of_ys hO
        have hA16 : A.length ≤ 1048576 := by rw [HL.out.1]; have := HL.out.2.1; omega
        have HW := hide (implWrite_any aa gg 0 A.length cg (fun i => A.getD i 0) wr hOw.toSeg hA16 (HT.out.ext hE))
        have HO := hide hO2
        have HE := hide hE
        clear hO hO2 hE hc hne hAA hOw
        generalize adrB A.length (fun i => A.getD i 0) = D at *
        generalize fourB A.length (fun i => A.getD i 0) = F at *
        cases F
        · have hR : R = false := by rw [HR.out]; rfl
          subst hR
          go_wp2_with (go_at_call 11; refine HW.out.mono ?_; rintro e w2 ⟨rfl, hE2⟩; have HE2 := hide hE2; clear hE2)
          go_ret2
          exact ⟨_, rfl, World.ownsRow_made (base := w.heap.size) (e := 3) (size := 1) _ #[] 0 (by have := Below.size HE.out; have := Below.size HE2.out; omega) (by simp) rfl, Ext.trans (Ext.trans HE.out HE2.out) (Ext.alloc _ _)⟩
        · cases hq : (D.toList == s.toList)
          · have hR : R = false := by rw [HR.out, hq]; rfl
            subst hR
            go_wp2_with (go_at_call 11; refine HW.out.mono ?_; rintro e w2 ⟨rfl, hE2⟩; have HE2 := hide hE2; clear hE2)
            go_ret2
            exact ⟨_, rfl, World.ownsRow_made (base := w.heap.size) (e := 3) (size := 1) _ #[] 0 (by have := Below.size HE.out; have := Below.size HE2.out; omega) (by simp) rfl, Ext.trans (Ext.trans HE.out HE2.out) (Ext.alloc _ _)⟩
          · have hR : R = true := by rw [HR.out, hq]; rfl
            subst hR
            go_wp2_with (go_at_call 11; refine HW.out.mono ?_; rintro e w2 ⟨rfl, hE2⟩; have HE2 := hide hE2; clear hE2)
            go_ret2
            exact ⟨_, rfl, owns_keepY HO.out HE2.out, Ext.trans HE.out HE2.out⟩
  · have hg : (15 : Int) < (s.size : Int) := by omega
    have hR : rdB s = false := by unfold rdB; simp [hs]
    rw [hR]
    go_enter Tryd.func12, Tryd.ntmps12
    go_wp2
    go_ret2
    exact ⟨_, rfl, hO0, Ext.alloc _ _⟩

end Go.Proofs.YtjidlahgfkdipacDoor
