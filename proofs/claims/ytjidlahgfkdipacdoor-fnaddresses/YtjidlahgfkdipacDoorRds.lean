/- Both readers of addresses agree. -/
import Derived.Test.YtjidlahgfkdipacDoorRas
import Derived.Test.YtjidlahgfkdipacDoorMarks
namespace Go.Proofs.YtjidlahgfkdipacDoor
set_option linter.unusedVariables false
set_option linter.unusedSimpArgs false
open Go.RowKit Go.Sort

theorem four_list {L : List ByteArray} (h : L.length = 4) : ∃ a b c d, L = [a, b, c, d] := by
  match L, h with
  | [a, b, c, d], _ => exact ⟨a, b, c, d, rfl⟩

theorem read_same (s : ByteArray) : rdB s = spB s ∧ (spB s = true → rdL s = spL s) := by
  by_cases hs : s.size ≤ 15
  · have hj := parts_join s
    have hd := parts_dot s
    unfold rdB spB rdL spL
    generalize parts s 46 = L at *
    by_cases h4 : L.length = 4
    · obtain ⟨a, b, c, d, rfl⟩ := four_list h4
      have K := read_alike ([a, b, c, d].map (·.data.toList)) (fun x hx => by
        rw [List.mem_map] at hx
        obtain ⟨p, hp, rfl⟩ := hx
        exact hd p hp) rfl
      rw [hj] at K
      by_cases hc : ∀ x ∈ [a, b, c, d], canon x.data.toList
      · have k := K.1 (fun x hx => by
          rw [List.mem_map] at hx
          obtain ⟨p, hp, rfl⟩ := hx
          exact hc p hp)
        have e : ∀ x ∈ [a, b, c, d], rdI x.data.toList = (vl x.data.toList : Int) := fun x hx => by unfold rdI; rw [canon_atoi (hc x hx)]; rfl
        have hF : fourB 4 (fun i => ([a, b, c, d].map fun p => rdI p.data.toList).getD i 0) = true := by
          rw [four_end (fun i hi => ?_)]
          · rfl
          · have hb : ∀ x ∈ [a, b, c, d], 0 ≤ rdI x.data.toList ∧ rdI x.data.toList ≤ 255 := fun x hx => k.1 _ (List.mem_map.2 ⟨x, hx, rfl⟩)
            rcases i with _ | _ | _ | _ | i
            · exact hb a (by simp)
            · exact hb b (by simp)
            · exact hb c (by simp)
            · exact hb d (by simp)
            · omega
        have hA : (adrB 4 (fun i => ([a, b, c, d].map fun p => rdI p.data.toList).getD i 0)).toList = s.toList := by
          unfold adrB
          rw [hF, Lib.toList_data, Lib.toList_data]
          exact k.2
        refine ⟨?_, fun _ => List.map_congr_left e⟩
        show (decide (s.size ≤ 15) && (fourB 4 (fun i => ([a, b, c, d].map fun p => rdI p.data.toList).getD i 0) && ((adrB 4 (fun i => ([a, b, c, d].map fun p => rdI p.data.toList).getD i 0)).toList == s.toList))) = _
        rw [hF, show ((adrB 4 (fun i => ([a, b, c, d].map fun p => rdI p.data.toList).getD i 0)).toList == s.toList) = true by rw [hA]; simp, decide_eq_true (p := ∀ x ∈ [a, b, c, d], canon x.data.toList) hc]
        simp
      · refine ⟨?_, fun h => ?_⟩
        · rw [decide_eq_false (p := ∀ x ∈ [a, b, c, d], canon x.data.toList) hc]
          show (decide (s.size ≤ 15) && (fourB 4 (fun i => ([a, b, c, d].map fun p => rdI p.data.toList).getD i 0) && ((adrB 4 (fun i => ([a, b, c, d].map fun p => rdI p.data.toList).getD i 0)).toList == s.toList))) = _
          rw [Bool.and_false, Bool.and_false]
          cases hF : fourB 4 (fun i => ([a, b, c, d].map fun p => rdI p.data.toList).getD i 0) with
          | false => simp
          | true =>
            cases hq : ((adrB 4 (fun i => ([a, b, c, d].map fun p => rdI p.data.toList).getD i 0)).toList == s.toList) with
            | false => simp
            | true =>
              exfalso
              have hA := eq_of_beq hq
              unfold adrB at hA
              rw [hF, Lib.toList_data, Lib.toList_data] at hA
              obtain ⟨-, hf⟩ := four_is hF
              refine hc (fun x hx => K.2 ⟨fun y hy => ?_, hA⟩ _ (List.mem_map.2 ⟨x, hx, rfl⟩))
              simp only [List.map_cons, List.map_nil, List.mem_cons, List.not_mem_nil, or_false] at hy
              rcases hy with rfl | rfl | rfl | rfl
              · exact hf 0 (by omega)
              · exact hf 1 (by omega)
              · exact hf 2 (by omega)
              · exact hf 3 (by omega)
        · rw [decide_eq_false (p := ∀ x ∈ [a, b, c, d], canon x.data.toList) hc] at h
          simp at h
    · have hF : ∀ f, fourB L.length f = false := fun f => by
        cases e : fourB L.length f with
        | false => rfl
        | true => exact absurd (four_is e).1 h4
      refine ⟨?_, fun h => ?_⟩
      · rw [List.length_map, hF]
        simp [h4]
      · simp [h4] at h
  · refine ⟨by unfold rdB spB; simp [hs], fun h => ?_⟩
    unfold spB at h
    simp [hs] at h

theorem ext_drewD (w : World) (q : Nat) : Ext w (w.drewN q) := ⟨rfl, rfl, rfl, Nat.le_refl _, fun _ _ => rfl⟩
/-- What the row's variables hold. -/
def Tabs (w : World) : Prop := Tab w ∧ Err w

/-- ReadAddress's answer, as the law reads it. -/
def GivesR' (w : World) (M : Nat) (F : Nat → Int) (ok : Bool) (e : Ending) (w' : World) : Prop := ∃ a g cap, e = .returned (.tuple #[.slice a M cap, .bool ok]) ∧ w.heap.size ≤ g ∧ Own w' a g 0 M F ∧ Ext w w'
theorem GivesN.r {w w' : World} {L : List Int} {ok : Bool} {e : Ending} (h : GivesN w L ok e w') : GivesR' w L.length (fun i => L.getD i 0) ok e w' := by
  obtain ⟨v, rfl, h1, h2⟩ := h
  obtain ⟨a, g, cap, rfl, hg, hO⟩ := own_of_ys h1
  exact ⟨a, g, cap, rfl, hg, hO, h2⟩
theorem rd_len (s : ByteArray) : (if spB s then spL s else []).length ≤ 1048576 := by
  split
  · rename_i h
    unfold spB at h
    simp only [Bool.and_eq_true, decide_eq_true_eq] at h
    unfold spL
    rw [List.length_map]
    omega
  · simp

theorem implRead_sp (s : ByteArray) (w : World) (hss : s.size ≤ 1048576) (hT : Tab w) (hEr : Err w) :
    Calls Tryd.prog 12 #[.string s] w fun e w' => GivesN w (if spB s then spL s else []) (spB s) e w' := by
  have h := implRead_any s w hss hT hEr
  obtain ⟨e1, e2⟩ := read_same s
  rw [e1] at h
  cases hb : spB s with
  | false => rw [hb] at h; exact h
  | true => rw [hb, e2 hb] at h; exact h

end Go.Proofs.YtjidlahgfkdipacDoor
