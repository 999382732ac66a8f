/- What is written of a tree is bytes; in plain numbers. -/
import Derived.Test.YtkogbinfhoiggaaGreatDoorCx25
namespace Go.Proofs.YtkogbinfhoiggaaGreatDoor
set_option linter.unusedVariables false
set_option linter.unusedSimpArgs false
theorem lgL_rng {L : Nat} (hL : L < 65536) : ∀ b ∈ lgL L, 0 ≤ b ∧ b < 256 := by
 intro b hb
 unfold lgL at hb
 rw [List.mem_map] at hb
 obtain ⟨j, hj, rfl⟩ := hb
 rw [List.mem_range] at hj
 by_cases c1 : (L : Int) < 128
 ·obtain ⟨g1, g2⟩ := lg_low c1
  rw [g1] at hj
  rw [g2 j hj]
  omega
 ·by_cases c2 : (L : Int) < 256
  ·obtain ⟨g1, g2, g3⟩ := lg_mid (by omega) c2
   rw [g1] at hj
   have h : j = 0 ∨ j = 1 := by omega
   rcases h with rfl | rfl
   ·rw [g2]; decide
   ·rw [g3]; omega
  ·obtain ⟨g1, g2, g3, g4⟩ := lg_high (n := (L : Int)) (by omega) (by omega)
   rw [g1] at hj
   have h : j = 0 ∨ j = 1 ∨ j = 2 := by omega
   rcases h with rfl | rfl | rfl
   ·rw [g2]; decide
   ·rw [g3]; omega
   ·rw [g4]; omega
theorem wrB_rng {G : Nat → List Int} {E : Nat → Int} {s : Int} {N : Nat} (h : ∀ q, 0 ≤ E q → (G q).length ≤ N → ∀ b ∈ G q, 0 ≤ b ∧ b < 256) : ∀ c, 0 ≤ kidsF E c s → (wrB G E s c).length ≤ N → ∀ b ∈ wrB G E s c, 0 ≤ b ∧ b < 256
 | 0, _, _, b, hb => by simp [wrB] at hb
 | c + 1, h0, hl, b, hb => by
  rw [kidsF] at h0
  by_cases hc : kidsF E c s < 0
  ·rw [if_pos hc] at h0; omega
  ·rw [if_neg hc] at h0
   rw [wrB, List.length_append] at hl
   rw [wrB] at hb
   rcases List.mem_append.1 hb with hb | hb
   ·exact wrB_rng h c (by omega) (by omega) b hb
   ·exact h _ h0 (by omega) b hb
theorem wrF_rng (x : Nat → It) (n : Nat) (hx : ∀ i, i < n → 0 ≤ (x i).tag ∧ (x i).tag ≤ 255) (hr : ∀ i, i < n → ∀ j, j < (x i).len → 0 ≤ (x i).f j ∧ (x i).f j < 256) : ∀ m i, 0 ≤ endF (fun j => (x j).kid) n m i → (wrF x n m i).length ≤ 65535 → ∀ b ∈ wrF x n m i, 0 ≤ b ∧ b < 256
 | 0, i, h, _, _, _ => by simp [endF] at h
 | m + 1, i, h, hl, b, hb => by
  have hi : i < n := endF_lt h
  rw [endF, if_neg (by omega)] at h
  rw [wrF, List.length_cons, List.length_append] at hl
  rw [wrF] at hb
  rcases List.mem_cons.1 hb with rfl | hb
  ·have := hx i hi; omega
  ·rcases List.mem_append.1 hb with hb | hb
   ·exact lgL_rng (by omega) b hb
   ·rw [List.length_append] at hl
    rcases List.mem_append.1 hb with hb | hb
    ·unfold boL at hb
     rw [List.mem_map] at hb
     obtain ⟨j, hj, rfl⟩ := hb
     exact hr i hi j (List.mem_range.1 hj)
    ·exact wrB_rng (N := 65535) (fun q h1 h2 => wrF_rng x n hx hr m q h1 h2) _ h (by omega) b hb
theorem wdL_rng (x : Nat → It) (n : Nat) (hr : ∀ i, i < n → ∀ j, j < (x i).len → 0 ≤ (x i).f j ∧ (x i).f j < 256) : (wdL x n).length ≤ 4000 ∧ ∀ b ∈ wdL x n, 0 ≤ b ∧ b < 256 := by
 unfold wdL
 cases hw : wdB x n
 ·exact ⟨Nat.zero_le _, fun b hb => absurd hb List.not_mem_nil⟩
 ·rw [if_pos rfl]
  unfold wdB at hw
  rw [Bool.and_eq_true, decide_eq_true_eq] at hw
  obtain ⟨ht, hl⟩ := hw
  have hg := (tree_good ht).2.2
  unfold treeV at ht
  rw [decide_eq_true_eq] at ht
  exact ⟨hl, wrF_rng x n (fun i hi => ⟨(hg i hi).1, (hg i hi).2.1⟩) hr 13 0 (by rw [ht.2.2.2]; omega) (by omega)⟩
end Go.Proofs.YtkogbinfhoiggaaGreatDoor
