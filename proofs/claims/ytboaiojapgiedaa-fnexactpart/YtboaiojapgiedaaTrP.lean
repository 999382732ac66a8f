/- Numbers: a tree told by a stack of what is still to come, and by places behind its parts. Nothing of the program. -/
import Derived.Test.YtboaiojapgiedaaTrM
namespace Go.Proofs.Ytboaiojapgiedaa
set_option linter.unusedVariables false
set_option linter.unusedSimpArgs false
open Go.RowKit

theorem kidsF_minus (f : Nat → Int) (k : Nat) : kidsF f k (-1) = -1 := by
  induction k with
  | zero => rfl
  | succ k ih => unfold kidsF; rw [ih]; rfl

/-- The first of k + 1 trees ahead. -/
theorem kidsF_front (f : Nat → Int) (hf : ∀ i, -1 ≤ f i) (s : Nat) (k : Nat) : kidsF f (k + 1) s = kidsF f k (f s) := by
  induction k with
  | zero => simp [kidsF]; omega
  | succ k ih =>
    rw [kidsF, ih]
    conv => rhs; rw [kidsF]

/-- What comes of place r, where st is still to come of each item around, the innermost first. -/
def contF (kid : Nat → Int) (n : Nat) : List Nat → Int → Int
  | [], r => r
  | c :: st, r => contF kid n st (kidsF (endF kid n (12 - st.length)) c r)

theorem contF_minus (kid : Nat → Int) (n : Nat) : ∀ st, contF kid n st (-1) = -1
  | [] => rfl
  | c :: st => by unfold contF; rw [kidsF_minus, contF_minus kid n st]

/-- The stack behind an item: what is done is taken away, of the next one is taken. -/
def popF : List Nat → Option (List Nat)
  | [] => none
  | 0 :: st => popF st
  | (c + 1) :: st => some (c :: st)

theorem contF_pop (kid : Nat → Int) (n : Nat) (r : Nat) : ∀ st : List Nat, contF kid n st r = match popF st with
    | none => (r : Int)
    | some st' => contF kid n st' (endF kid n (13 - st'.length) r)
  | [] => rfl
  | 0 :: st => by
    show contF kid n st (kidsF _ 0 r) = _
    rw [show kidsF (endF kid n (12 - st.length)) 0 r = r from rfl, contF_pop kid n r st]
    rfl
  | (c + 1) :: st => by
    show contF kid n st (kidsF _ (c + 1) r) = contF kid n st (kidsF _ c _)
    rw [kidsF_front _ (fun i => (endF_range kid n _ i).1)]
    simp only [List.length_cons]
    rw [show 13 - (st.length + 1) = 12 - st.length by omega]

/-- A step of the walk. -/
theorem contF_step (kid : Nat → Int) (n i : Nat) (st : List Nat) (hi : i < n) (hd : st.length ≤ 12) :
    contF kid n st (endF kid n (13 - st.length) i) = contF kid n ((kid i).toNat :: st) ((i + 1 : Nat) : Int) := by
  show _ = contF kid n st (kidsF _ _ _)
  rw [show 13 - st.length = (12 - st.length) + 1 by omega]
  conv => lhs; rw [endF]
  rw [if_neg (by omega)]
  rfl

theorem contF_deep (kid : Nat → Int) (n i : Nat) (st : List Nat) (h : n ≤ i ∨ 12 < st.length) : contF kid n st (endF kid n (13 - st.length) i) = -1 := by
  have : endF kid n (13 - st.length) i = -1 := by
    by_cases h2 : 12 < st.length
    · rw [show 13 - st.length = 0 by omega]; rfl
    · rw [show 13 - st.length = (12 - st.length) + 1 by omega, endF, if_pos (by omega)]
  rw [this, contF_minus]


theorem kidsF_far (f : Nat → Int) (hf : ∀ i, 0 ≤ f i → (i : Int) + 1 ≤ f i) (s : Int) (k : Nat) (h : 0 ≤ kidsF f k s) : s + k ≤ kidsF f k s := by
  induction k with
  | zero => simp [kidsF]
  | succ k ih =>
    rw [kidsF] at h ⊢
    split at h
    · omega
    · rename_i h1
      rw [if_neg h1]
      have := hf _ h
      have := ih (by omega)
      omega

theorem endF_far (kid : Nat → Int) (n : Nat) : ∀ (m i : Nat), 0 ≤ endF kid n m i → (i : Int) + 1 ≤ endF kid n m i
  | 0, i, h => by rw [endF] at h; omega
  | m + 1, i, h => by
    rw [endF] at h ⊢
    split at h
    · omega
    · rename_i h1
      rw [if_neg h1]
      have := kidsF_far _ (endF_far kid n m) _ _ h
      omega

theorem contF_far (kid : Nat → Int) (n : Nat) : ∀ (st : List Nat) (r : Int), -1 ≤ r → r ≤ n → 0 ≤ contF kid n st r → r + (st.sum : Nat) ≤ contF kid n st r
  | [], r, _, _, h => by simp [contF]
  | c :: st, r, r0, r1, h => by
    rw [contF] at h ⊢
    obtain ⟨k0, k1⟩ := kidsF_range (endF_range kid n (12 - st.length)) r0 r1 c
    have h1 := contF_far kid n st _ k0 k1 h
    by_cases hk : 0 ≤ kidsF (endF kid n (12 - st.length)) c r
    · have := kidsF_far _ (endF_far kid n _) _ _ hk
      simp only [List.sum_cons]
      omega
    · exfalso
      have e : kidsF (endF kid n (12 - st.length)) c r = -1 := by omega
      rw [e, contF_minus] at h
      omega

theorem popF_sum : ∀ (st st' : List Nat), popF st = some st' → st'.sum + 1 = st.sum
  | [], st', h => by simp [popF] at h
  | 0 :: st, st', h => by have := popF_sum st st' h; simpa using this
  | (c + 1) :: st, st', h => by
    simp [popF] at h
    subst h
    simp; omega
theorem popF_none : ∀ (st : List Nat), popF st = none → st.sum = 0
  | [], _ => rfl
  | 0 :: st, h => by have := popF_none st h; simpa using this
  | (c + 1) :: st, h => by simp [popF] at h

/-- An item is well. -/
def itGood (x : It) : Prop := 0 ≤ x.tag ∧ x.tag ≤ 255 ∧ x.tag % 32 ≠ 31 ∧ 0 ≤ x.kid ∧ x.kid ≤ 300 ∧ (x.tag / 32 % 2 = 1 → x.len = 0) ∧ (x.tag / 32 % 2 ≠ 1 → x.kid = 0)
instance (x : It) : Decidable (itGood x) := by unfold itGood; infer_instance

/-- A list of items is one tree. -/
def treeV (x : Nat → It) (n : Nat) : Bool := decide (1 ≤ n ∧ n ≤ 300 ∧ (∀ i, i < n → itGood (x i)) ∧ endF (fun j => (x j).kid) n 13 0 = n)

/-- What the program asks of an item. -/
def itP (x : It) : Prop := 0 ≤ x.tag ∧ x.tag ≤ 255 ∧ x.tag % 32 ≠ 31 ∧ (x.tag / 32 % 2 = 1 → 0 ≤ x.kid ∧ x.len = 0) ∧ (x.tag / 32 % 2 ≠ 1 → x.kid = 0)
instance (x : It) : Decidable (itP x) := by unfold itP; infer_instance

theorem itP_of {x : It} (h : itGood x) : itP x := by
  obtain ⟨h1, h2, h3, h4, h5, h6, h7⟩ := h
  exact ⟨h1, h2, h3, fun m => ⟨h4, h6 m⟩, h7⟩
theorem itGood_of {x : It} (h : itP x) (h5 : x.kid ≤ 300) : itGood x := by
  obtain ⟨h1, h2, h3, h4, h7⟩ := h
  exact ⟨h1, h2, h3, by by_cases m : x.tag / 32 % 2 = 1
                        · exact (h4 m).1
                        · rw [h7 m]; omega, h5, fun m => (h4 m).2, h7⟩
theorem itP_kid {x : It} (h : itP x) : 0 ≤ x.kid := by
  obtain ⟨h1, h2, h3, h4, h7⟩ := h
  by_cases m : x.tag / 32 % 2 = 1
  · exact (h4 m).1
  · rw [h7 m]; omega

/-- The program's walk: from place i on, with st still to come of each item around and u untold. -/
def runP (x : Nat → It) : Nat → Nat → List Nat → Int → Bool
  | 0, _, _, u => decide (u = 0)
  | f + 1, i, st, u => if ¬ itP (x i) ∨ 12 < st.length ∨ u < (x i).kid then false else
    match popF ((x i).kid.toNat :: st) with
    | none => decide (u - (x i).kid = 0)
    | some st' => runP x f (i + 1) st' (u - (x i).kid)

theorem runP_tree (x : Nat → It) (n : Nat) (hn : n ≤ 300) : ∀ (f i : Nat) (st : List Nat) (u : Int), i + f = n → 0 ≤ u → u + (st.sum : Nat) + i + 1 = n → (∀ j, j < i → itGood (x j)) →
    runP x f i st u = decide ((∀ j, j < n → itGood (x j)) ∧ contF (fun j => (x j).kid) n st (endF (fun j => (x j).kid) n (13 - st.length) i) = n)
  | 0, i, st, u, h1, h2, h3, h4 => by omega
  | f + 1, i, st, u, h1, h2, h3, h4 => by
    rw [runP]
    by_cases hb : ¬ itP (x i) ∨ 12 < st.length ∨ u < (x i).kid
    · rw [if_pos hb]
      symm
      refine decide_eq_false (fun ⟨g, e⟩ => ?_)
      rcases hb with hb | hb | hb
      · exact hb (itP_of (g i (by omega)))
      · rw [contF_deep _ _ _ _ (Or.inr hb)] at e; omega
      · by_cases hd : st.length ≤ 12
        · rw [contF_step _ _ _ _ (by omega) hd] at e
          have hk := itP_kid (itP_of (g i (by omega)))
          have := contF_far (fun j => (x j).kid) n ((x i).kid.toNat :: st) ((i + 1 : Nat) : Int) (by omega) (by omega) (by rw [e]; omega)
          rw [e] at this
          simp only [List.sum_cons] at this
          omega
        · rw [contF_deep _ _ _ _ (Or.inr (by omega))] at e; omega
    · rw [if_neg hb]
      have hp : itP (x i) := by
        by_cases h : itP (x i)
        · exact h
        · exact absurd (Or.inl h) hb
      have hd : st.length ≤ 12 := by
        by_cases h : st.length ≤ 12
        · exact h
        · exact absurd (Or.inr (Or.inl (by omega))) hb
      have hu : (x i).kid ≤ u := by
        by_cases h : (x i).kid ≤ u
        · exact h
        · exact absurd (Or.inr (Or.inr (by omega))) hb
      have hk := itP_kid hp
      have hg : ∀ j, j < i + 1 → itGood (x j) := fun j hj => by
        by_cases e : j = i
        · subst e; exact itGood_of hp (by omega)
        · exact h4 j (by omega)
      rw [contF_step _ _ _ _ (by omega) hd, contF_pop]
      cases hq : popF ((x i).kid.toNat :: st) with
      | none =>
        have := popF_none _ hq
        simp only [List.sum_cons] at this
        simp only
        rw [decide_eq_decide]
        constructor
        · intro h
          exact ⟨fun j hj => hg j (by omega), by omega⟩
        · rintro ⟨_, h⟩
          omega
      | some st' =>
        have := popF_sum _ _ hq
        simp only [List.sum_cons] at this
        simp only
        exact runP_tree x n hn f (i + 1) st' _ (by omega) (by omega) (by omega) hg

/-- The program's answer is the model's. -/
theorem runP_treeV (x : Nat → It) (n : Nat) (h1 : 1 ≤ n) (hn : n ≤ 300) : runP x n 0 [] ((n : Int) - 1) = treeV x n := by
  rw [runP_tree x n hn n 0 [] _ (by omega) (by omega) (by simp) (fun j hj => absurd hj (Nat.not_lt_zero _))]
  unfold treeV
  rw [decide_eq_decide]
  exact ⟨fun h => ⟨h1, hn, h.1, h.2⟩, fun h => ⟨h.2.2.1, h.2.2.2⟩⟩

end Go.Proofs.Ytboaiojapgiedaa
