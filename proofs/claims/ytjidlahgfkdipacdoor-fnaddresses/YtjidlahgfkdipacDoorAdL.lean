/- Plain facts: addresses come back from their texts; nets. -/
import Derived.Test.YtjidlahgfkdipacDoorRds
import Derived.Test.YtjidlahgfkdipacDoorNet
namespace Go.Proofs.YtjidlahgfkdipacDoor
set_option linter.unusedVariables false
set_option linter.unusedSimpArgs false
open Go.RowKit Go.Sort

theorem adr_parts {f : Nat → Int} (hf : ∀ i, i < 4 → 0 ≤ f i ∧ f i ≤ 255) : (parts (adr f) 46).map (·.data.toList) = [Lib.decDigits (f 0).toNat, Lib.decDigits (f 1).toNat, Lib.decDigits (f 2).toNat, Lib.decDigits (f 3).toNat] := by
  have hj := parts_join (adr f)
  have e : (adr f).data.toList = Lib.join [Lib.decDigits (f 0).toNat, Lib.decDigits (f 1).toNat, Lib.decDigits (f 2).toNat, Lib.decDigits (f 3).toNat] [46] := by
    unfold adr
    simp
  rw [e] at hj
  refine join_inj _ _ ?_ (by simp) ?_ ?_ hj
  · intro h
    have h2 := congrArg List.length h
    have := parts_ne (adr f) 46
    simp at h2
    rw [h2] at this
    simp at this
  · intro x hx
    rw [List.mem_map] at hx
    obtain ⟨p, hp, rfl⟩ := hx
    exact parts_dot (adr f) p hp
  · intro y hy
    simp only [List.mem_cons, List.not_mem_nil, or_false] at hy
    rcases hy with rfl | rfl | rfl | rfl
    · exact dec_no_dot (by have := hf 0 (by omega); omega)
    · exact dec_no_dot (by have := hf 1 (by omega); omega)
    · exact dec_no_dot (by have := hf 2 (by omega); omega)
    · exact dec_no_dot (by have := hf 3 (by omega); omega)
theorem adr_size {f : Nat → Int} (hf : ∀ i, i < 4 → 0 ≤ f i ∧ f i ≤ 255) : (adr f).size ≤ 15 := by
  have z : ∀ i, i < 4 → (tld (f i).toNat).size ≤ 3 := fun i hi => tld_size (by have := hf i hi; omega)
  have z0 := z 0 (by omega)
  have z1 := z 1 (by omega)
  have z2 := z 2 (by omega)
  have z3 := z 3 (by omega)
  have zd : (⟨#[46]⟩ : ByteArray).size = 1 := rfl
  rw [adr_eq]
  simp only [ByteArray.size_append]
  omega
theorem read_back {f : Nat → Int} (hf : ∀ i, i < 4 → 0 ≤ f i ∧ f i ≤ 255) : spB (adr f) = true ∧ spL (adr f) = [f 0, f 1, f 2, f 3] := by
  have hp := adr_parts hf
  have hz := adr_size hf
  have hl : (parts (adr f) 46).length = 4 := by
    have := congrArg List.length hp
    simpa using this
  have d : ∀ i, i < 4 → canon (Lib.decDigits (f i).toNat) ∧ (vl (Lib.decDigits (f i).toNat) : Int) = f i := fun i hi => by
    have h := hf i hi
    obtain ⟨h1, h2⟩ := dec_canon (n := (f i).toNat) (by omega)
    exact ⟨h1, by rw [h2]; omega⟩
  refine ⟨?_, ?_⟩
  · unfold spB
    rw [decide_eq_true hz, decide_eq_true hl, decide_eq_true (p := ∀ x ∈ parts (adr f) 46, canon x.data.toList) (fun x hx => by
      have hx2 : x.data.toList ∈ (parts (adr f) 46).map (·.data.toList) := List.mem_map.2 ⟨x, hx, rfl⟩
      rw [hp] at hx2
      simp only [List.mem_cons, List.not_mem_nil, or_false] at hx2
      rcases hx2 with e | e | e | e
      · rw [e]; exact (d 0 (by omega)).1
      · rw [e]; exact (d 1 (by omega)).1
      · rw [e]; exact (d 2 (by omega)).1
      · rw [e]; exact (d 3 (by omega)).1)]
    rfl
  · unfold spL
    have : (parts (adr f) 46).map (fun p => (vl p.data.toList : Int)) = ((parts (adr f) 46).map (·.data.toList)).map (fun l => (vl l : Int)) := by rw [List.map_map]; rfl
    rw [this, hp]
    simp only [List.map_cons, List.map_nil]
    rw [(d 0 (by omega)).2, (d 1 (by omega)).2, (d 2 (by omega)).2, (d 3 (by omega)).2]

theorem net_self {n : Nat} {f : Nat → Int} (h : fourB n f = true) {bits : Int} (h0 : 0 ≤ bits) (h1 : bits ≤ 32) : netB n f bits n f = true := by
  unfold netB
  rw [h, decide_eq_true h0, decide_eq_true h1]
  simp
theorem net_33 (n : Nat) (f : Nat → Int) : netB n f 33 n f = false := by
  unfold netB
  simp
theorem net_symm {n m : Nat} {f g : Nat → Int} {bits : Int} (h : netB n f bits m g = true) : netB m g bits n f = true := by
  unfold netB at *
  simp only [Bool.and_eq_true, beq_iff_eq] at h ⊢
  exact ⟨h.2.1, h.1, h.2.2.1, h.2.2.2.symm⟩
theorem net_less {n m : Nat} {f g : Nat → Int} {bits : Int} (h : netB n f bits m g = true) (hb : 0 < bits) : netB n f (bits - 1) m g = true := by
  unfold netB at *
  simp only [Bool.and_eq_true, beq_iff_eq, decide_eq_true_eq] at h ⊢
  obtain ⟨h1, h2, ⟨h3, h4⟩, h5⟩ := h
  refine ⟨h1, h2, ⟨by omega, by omega⟩, ?_⟩
  unfold lowCut at *
  have e : (32 - (bits - 1)).toNat = (32 - bits).toNat + 1 := by omega
  rw [e, Int.pow_succ, ← Int.ediv_ediv_of_nonneg (Int.le_of_lt (Int.pow_pos (by omega))), ← Int.ediv_ediv_of_nonneg (Int.le_of_lt (Int.pow_pos (by omega))), h5]

end Go.Proofs.YtjidlahgfkdipacDoor
