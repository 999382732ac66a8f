/- Plain facts: the parts of a string, joined by dots, are the string; no part has a dot. -/
import Derived.Test.YtjidlahgfkdipacDoorAdN
import Derived.Test.YtjidlahgfkdipacDoorHos
namespace Go.Proofs.YtjidlahgfkdipacDoor
set_option linter.unusedVariables false
set_option linter.unusedSimpArgs false
open Go.RowKit

theorem ext_list (s : ByteArray) (a b : Nat) : (s.extract a b).data.toList = (s.data.toList.take b).drop a := by
  simp [ByteArray.data_extract, Array.toList_extract, List.extract, List.drop_take]

theorem bt_at {s : ByteArray} {k : Nat} (h : k < s.size) : ∃ x : UInt8, s.data.toList[k]? = some x ∧ x.toNat = bt s k := by
  have hk : k < s.data.size := h
  refine ⟨s.data[k], by simp [hk], ?_⟩
  exact bt_get s k h

theorem partsFrom_join (s : ByteArray) : ∀ n k fr, n + k = s.size → fr ≤ k → (∀ j, fr ≤ j → j < k → bt s j ≠ 46) →
    Lib.join ((partsFrom s 46 n k fr).map (·.data.toList)) [46] = s.data.toList.drop fr ∧ ∀ p ∈ partsFrom s 46 n k fr, (46 : UInt8) ∉ p.data.toList
  | 0, k, fr, hk, hf, hd => by
    have hsz : s.data.toList.length = s.size := by rw [Array.length_toList]; rfl
    have e : (s.extract fr s.size).data.toList = s.data.toList.drop fr := by rw [ext_list, ← hsz, List.take_length]
    refine ⟨by rw [partsFrom, List.map_cons, List.map_nil, Lib.join_one, e], fun p hp => ?_⟩
    rw [partsFrom, List.mem_singleton] at hp
    subst hp
    rw [e]
    intro hm
    obtain ⟨j, hj⟩ := List.mem_iff_getElem?.1 hm
    rw [List.getElem?_drop] at hj
    have hl : fr + j < s.size := by rw [← hsz]; exact (List.getElem?_eq_some_iff.1 hj).1
    obtain ⟨x, hx, hb⟩ := bt_at hl
    rw [hx] at hj
    obtain rfl := Option.some.inj hj
    exact hd (fr + j) (by omega) (by omega) hb.symm
  | n + 1, k, fr, hk, hf, hd => by
    have hsz : s.data.toList.length = s.size := by rw [Array.length_toList]; rfl
    unfold partsFrom
    by_cases h : bt s k = 46
    · rw [if_pos h]
      obtain ⟨ih1, ih2⟩ := partsFrom_join s n (k + 1) (k + 1) (by omega) (Nat.le_refl _) (fun j h1 h2 => by omega)
      obtain ⟨x, hx, hb⟩ := bt_at (s := s) (k := k) (by omega)
      have hx46 : x = 46 := UInt8.toNat_inj.1 (hb.trans h)
      subst hx46
      constructor
      · have hne := partsFrom_ne s 46 n (k + 1) (k + 1)
        cases hr : partsFrom s 46 n (k + 1) (k + 1) with
        | nil => rw [hr] at hne; simp at hne
        | cons y r =>
          rw [hr, List.map_cons] at ih1
          rw [List.map_cons, List.map_cons, join_two, ih1, ext_list]
          have e1 : s.data.toList.drop k = 46 :: s.data.toList.drop (k + 1) := by
            rw [List.drop_eq_getElem_cons (by omega)]
            congr 1
            rw [List.getElem?_eq_getElem (by omega)] at hx
            exact Option.some.inj hx
          rw [← e1]
          conv => rhs; rw [← List.take_append_drop k s.data.toList]
          rw [List.drop_append_of_le_length (by rw [List.length_take]; omega)]
      · intro p hp
        rcases List.mem_cons.1 hp with rfl | hp
        · rw [ext_list]
          intro hm
          obtain ⟨j, hj⟩ := List.mem_iff_getElem?.1 hm
          rw [List.getElem?_drop] at hj
          have hl := (List.getElem?_eq_some_iff.1 hj).1
          rw [List.length_take] at hl
          rw [List.getElem?_take_of_lt (by omega)] at hj
          obtain ⟨x, hx, hb⟩ := bt_at (s := s) (k := fr + j) (by omega)
          rw [hx] at hj
          obtain rfl := Option.some.inj hj
          exact hd (fr + j) (by omega) (by omega) hb.symm
        · exact ih2 p hp
    · rw [if_neg h]
      exact partsFrom_join s n (k + 1) fr (by omega) (by omega) (fun j h1 h2 => by
        by_cases e : j = k
        · subst e; exact h
        · exact hd j h1 (by omega))

theorem parts_join (s : ByteArray) : Lib.join ((parts s 46).map (·.data.toList)) [46] = s.data.toList := by
  have := (partsFrom_join s s.size 0 0 (by omega) (Nat.le_refl _) (fun j h1 h2 => by omega)).1
  simpa [parts] using this
theorem parts_dot (s : ByteArray) : ∀ p ∈ parts s 46, (46 : UInt8) ∉ p.data.toList :=
  (partsFrom_join s s.size 0 0 (by omega) (Nat.le_refl _) (fun j h1 h2 => by omega)).2

end Go.Proofs.YtjidlahgfkdipacDoor
