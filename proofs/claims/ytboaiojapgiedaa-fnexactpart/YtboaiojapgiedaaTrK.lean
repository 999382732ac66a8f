/- Numbers: what an iterator tells of a part of a tree: its places one behind the other, its children where one is around. Nothing of the program. -/
import Derived.Test.YtboaiojapgiedaaTrC
namespace Go.Proofs.Ytboaiojapgiedaa
set_option linter.unusedVariables false
set_option linter.unusedSimpArgs false

theorem nat_of {z : Int} (h : 0 ≤ z) : ∃ e : Nat, z = e := ⟨z.toNat, by omega⟩

theorem kidsF_mono {f g : Nat → Int} (h : ∀ i, 0 ≤ f i → g i = f i) : ∀ (k : Nat) (s : Int), 0 ≤ kidsF f k s → kidsF g k s = kidsF f k s
  | 0, s, _ => rfl
  | k + 1, s, h0 => by
    unfold kidsF at h0 ⊢
    by_cases c : kidsF f k s < 0
    · rw [if_pos c] at h0; omega
    · rw [if_neg c] at h0 ⊢
      rw [kidsF_mono h k s (by omega), if_neg c]
      exact h _ h0

theorem endF_mono (kid : Nat → Int) (n : Nat) : ∀ (m i : Nat), 0 ≤ endF kid n m i → endF kid n (m + 1) i = endF kid n m i
  | 0, i, h => by simp [endF] at h
  | m + 1, i, h => by
    rw [endF] at h ⊢
    rw [endF]
    split
    · rfl
    · rename_i c
      rw [if_neg c] at h
      exact kidsF_mono (endF_mono kid n m) _ _ h

theorem kidsF_within {f : Nat → Int} (hf : ∀ i, 0 ≤ f i → (i : Int) + 1 ≤ f i) : ∀ (K : Nat) (s j : Nat), 0 ≤ kidsF f K s → s ≤ j → (j : Int) < kidsF f K s → ∃ s' : Nat, s' ≤ j ∧ (j : Int) < f s' ∧ f s' ≤ kidsF f K s
  | 0, s, j, h0, h1, h2 => by simp only [kidsF] at h2; omega
  | K + 1, s, j, h0, h1, h2 => by
    unfold kidsF at h0 h2 ⊢
    by_cases c : kidsF f K s < 0
    · rw [if_pos c] at h0; omega
    · rw [if_neg c] at h0 h2 ⊢
      obtain ⟨e, he⟩ := nat_of (show 0 ≤ kidsF f K s by omega)
      rw [he] at h0 h2 ⊢
      simp only [Int.toNat_natCast] at h0 h2 ⊢
      have hfar := hf e h0
      by_cases d : j < e
      · obtain ⟨s', a1, a2, a3⟩ := kidsF_within hf K s j (by omega) h1 (by omega)
        exact ⟨s', a1, a2, by omega⟩
      · exact ⟨e, by omega, h2, Int.le_refl _⟩

theorem endF_within (kid : Nat → Int) (n : Nat) : ∀ (m i j : Nat), 0 ≤ endF kid n m i → i ≤ j → (j : Int) < endF kid n m i → 0 ≤ endF kid n m j
  | 0, i, j, h, _, _ => by simp [endF] at h
  | m + 1, i, j, h0, h1, h2 => by
    by_cases e : j = i
    · subst e; exact h0
    · rw [endF] at h0 h2
      by_cases c : n ≤ i
      · rw [if_pos c] at h0; omega
      · rw [if_neg c] at h0 h2
        obtain ⟨s', a1, a2, a3⟩ := kidsF_within (fun i hi => endF_far kid n m i hi) _ (i + 1) j (by exact_mod_cast h0) (by omega) (by exact_mod_cast h2)
        have h3 := endF_within kid n m s' j (by omega) a1 a2
        rw [endF_mono kid n m j h3]
        exact h3

/-- The places of kids, each where the one ahead ends. -/
def kpF (f : Nat → Int) : Nat → Nat → List Nat
  | 0, _ => []
  | k + 1, s => s :: kpF f k (f s).toNat

/-- What lies behind: the next one on the stack, from e on. -/
def restP (kid : Nat → Int) (n e : Nat) (st : List Nat) : List (Nat × Nat) := match popF st with
  | none => []
  | some st' => trP kid (n - e) e st'

/-- A part of what is told: places s up to e, all deeper than d, the kids of one at d being those. -/
structure SubT (d s e : Nat) (T : List (Nat × Nat)) (kp : List Nat) : Prop where
  deep : ∀ p ∈ T, d < p.2
  places : T.map (·.1) = List.range' s (e - s)
  kids : (T.filter (fun p => p.2 == d + 1)).map (·.1) = kp
  le : s ≤ e

theorem range'_cat (s a b : Nat) (h1 : s ≤ a) (h2 : a ≤ b) : List.range' s (a - s) ++ List.range' a (b - a) = List.range' s (b - s) := by
  have := List.range'_append (s := s) (m := a - s) (n := b - a) (step := 1)
  rw [Nat.one_mul, show s + (a - s) = a by omega, show a - s + (b - a) = b - s by omega] at this
  exact this

theorem sub_kids (kid : Nat → Int) (n m : Nat)
    (C : ∀ (i e : Nat) (st : List Nat), i < n → endF kid n m i = (e : Int) → ∃ T, trP kid (n - i) i st = (i, st.length) :: T ++ restP kid n e st ∧ (∀ p ∈ T, st.length < p.2) ∧ T.map (·.1) = List.range' (i + 1) (e - (i + 1)))
    (st : List Nat) : ∀ (K s e : Nat), s ≤ n → kidsF (endF kid n m) K s = (e : Int) → ∃ T, restP kid n s (K :: st) = T ++ restP kid n e st ∧ SubT st.length s e T (kpF (endF kid n m) K s)
  | 0, s, e, hs, he => by
    simp only [kidsF] at he
    obtain rfl : s = e := by omega
    exact ⟨[], rfl, ⟨fun p hp => absurd hp (by simp), by simp, rfl, Nat.le_refl _⟩⟩
  | K + 1, s, e, hs, he => by
    rw [kidsF_front _ (fun i => (endF_range kid n m i).1)] at he
    have h0 : 0 ≤ endF kid n m s := by
      by_cases c : 0 ≤ endF kid n m s
      · exact c
      · have := (endF_range kid n m s).1
        rw [show endF kid n m s = -1 by omega, kidsF_minus] at he
        omega
    obtain ⟨e1, h1⟩ := nat_of h0
    have hfar := endF_far kid n m s h0
    have hr := (endF_range kid n m s).2
    have hsn : s < n := by omega
    obtain ⟨T1, a1, a2, a3⟩ := C s e1 (K :: st) hsn h1
    rw [h1] at he
    obtain ⟨T2, b1, b2⟩ := sub_kids kid n m C st K e1 e (by omega) he
    refine ⟨(s, st.length + 1) :: T1 ++ T2, ?_, ?_⟩
    · show trP kid (n - s) s (K :: st) = _
      rw [a1, b1]
      simp
    · have hle := b2.le
      refine ⟨fun p hp => ?_, ?_, ?_, by omega⟩
      · rcases List.mem_append.1 hp with h | h
        · rcases List.mem_cons.1 h with rfl | h
          · exact Nat.lt_succ_self _
          · have := a2 p h; simp at this; omega
        · exact b2.deep p h
      · rw [List.map_append, List.map_cons, a3, b2.places, ← range'_cat s e1 e (by omega) hle]
        congr 1
        rw [show e1 - s = (e1 - (s + 1)) + 1 by omega, List.range'_succ]
      · rw [List.filter_append, List.map_append, b2.kids, List.filter_cons_of_pos (by simp), List.filter_eq_nil_iff.2 (fun p hp => by have := a2 p hp; simp at this ⊢; omega)]
        rw [kpF, h1]
        rfl

theorem sub_tree (kid : Nat → Int) (n : Nat) : ∀ (m i e : Nat) (st : List Nat), i < n → endF kid n m i = (e : Int) → ∃ T, trP kid (n - i) i st = (i, st.length) :: T ++ restP kid n e st ∧ (∀ p ∈ T, st.length < p.2) ∧ T.map (·.1) = List.range' (i + 1) (e - (i + 1))
  | 0, i, e, st, hi, he => by simp [endF] at he
  | m + 1, i, e, st, hi, he => by
    rw [endF, if_neg (by omega)] at he
    obtain ⟨T, h1, h2⟩ := sub_kids kid n m (fun i e st => sub_tree kid n m i e st) st (kid i).toNat (i + 1) e (by omega) (by exact_mod_cast he)
    refine ⟨T, ?_, h2.deep, h2.places⟩
    have hx : trP kid (n - i) i st = (i, st.length) :: restP kid n (i + 1) ((kid i).toNat :: st) := by
      rw [show n - i = (n - (i + 1)) + 1 by omega, trP]
      unfold restP
      cases popF ((kid i).toNat :: st) <;> rfl
    rw [hx, h1]
    simp

theorem kpF_mono {f g : Nat → Int} (h : ∀ i, 0 ≤ f i → g i = f i) (hf : ∀ i, -1 ≤ f i) : ∀ (K s : Nat), 0 ≤ kidsF f K s → kpF g K s = kpF f K s
  | 0, s, _ => rfl
  | K + 1, s, h0 => by
    rw [kidsF_front _ hf] at h0
    have h1 : 0 ≤ f s := by
      by_cases c : 0 ≤ f s
      · exact c
      · have := hf s
        rw [show f s = -1 by omega, kidsF_minus] at h0
        omega
    obtain ⟨e, he⟩ := nat_of h1
    rw [kpF, kpF, h s h1, he, Int.toNat_natCast]
    rw [he] at h0
    rw [kpF_mono h hf K e h0]

/-- What is told of the part at i of a right tree. -/
theorem tree_part {x : Nat → It} {n i : Nat} (ht : treeV x n = true) (hi : i < n) : ∃ (e : Nat) (T : List (Nat × Nat)), endF (fun j => (x j).kid) n 13 i = (e : Int) ∧ i < e ∧ e ≤ n ∧ trP (fun j => (x j).kid) (n - i) i [] = (i, 0) :: T ∧ SubT 0 (i + 1) e T (kpF (endF (fun j => (x j).kid) n 13) (x i).kid.toNat (i + 1)) := by
  unfold treeV at ht
  rw [decide_eq_true_eq] at ht
  obtain ⟨h1, h2, h3, h4⟩ := ht
  have h5 := endF_within (fun j => (x j).kid) n 13 0 i (by omega) (Nat.zero_le _) (by omega)
  obtain ⟨e, he⟩ := nat_of h5
  have hfar := endF_far _ n 13 i h5
  have hr := (endF_range (fun j => (x j).kid) n 13 i).2
  have he2 := he
  rw [endF, if_neg (by omega)] at he2
  obtain ⟨T, a1, a2⟩ := sub_kids (fun j => (x j).kid) n 12 (fun i e st => sub_tree _ n 12 i e st) [] (x i).kid.toNat (i + 1) e (by omega) (by exact_mod_cast he2)
  refine ⟨e, T, he, by omega, by omega, ?_, ?_⟩
  · have hx : trP (fun j => (x j).kid) (n - i) i [] = (i, 0) :: restP (fun j => (x j).kid) n (i + 1) ((x i).kid.toNat :: []) := by
      rw [show n - i = (n - (i + 1)) + 1 by omega, trP]
      unfold restP
      cases popF ((x i).kid.toNat :: []) <;> rfl
    rw [hx, a1]
    simp [restP, popF]
  · rw [kpF_mono (endF_mono _ n 12) (fun i => (endF_range _ n 12 i).1) _ _ (by rw [show (((i + 1 : Nat)) : Int) = (i : Int) + 1 by omega, he2]; omega)]
    exact a2

end Go.Proofs.Ytboaiojapgiedaa
