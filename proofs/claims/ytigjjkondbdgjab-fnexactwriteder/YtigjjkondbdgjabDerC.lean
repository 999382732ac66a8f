/- Plain facts: an item's bytes don't turn on how deep one may go; the chain of trees behind a place. -/
import Derived.Test.YtigjjkondbdgjabDerS
namespace Go.Proofs.Ytigjjkondbdgjab
set_option linter.unusedVariables false
set_option linter.unusedSimpArgs false
open Go.RowKit

theorem wrB_mono {g g' : Nat → List Int} {f f' : Nat → Int} (h : ∀ i, 0 ≤ f i → f' i = f i ∧ g' i = g i) (s : Int) : ∀ k, 0 ≤ kidsF f k s → kidsF f' k s = kidsF f k s ∧ wrB g' f' s k = wrB g f s k
  | 0, _ => ⟨rfl, rfl⟩
  | k + 1, h0 => by
    have h1 : 0 ≤ kidsF f k s := kids_ok h0 (Nat.le_succ k)
    obtain ⟨a1, a2⟩ := wrB_mono h s k h1
    have h2 : (if kidsF f k s < 0 then -1 else f (kidsF f k s).toNat) = kidsF f (k + 1) s := rfl
    rw [if_neg (by omega)] at h2
    obtain ⟨b1, b2⟩ := h (kidsF f k s).toNat (by rw [h2]; exact h0)
    refine ⟨?_, ?_⟩
    · show (if kidsF f' k s < 0 then -1 else f' (kidsF f' k s).toNat) = _
      rw [a1, if_neg (by omega), b1, h2]
    · show wrB g' f' s k ++ g' (kidsF f' k s).toNat = wrB g f s k ++ g (kidsF f k s).toNat
      rw [a1, a2, b2]

theorem wrF_mono (x : Nat → It) (n : Nat) : ∀ (m i : Nat), 0 ≤ endF (fun j => (x j).kid) n m i → wrF x n (m + 1) i = wrF x n m i
  | 0, i, h => by
    have : endF (fun j => (x j).kid) n 0 i = -1 := rfl
    omega
  | m + 1, i, h => by
    have hi : i < n := endF_lt h
    have h' : 0 ≤ kidsF (endF (fun j => (x j).kid) n m) (x i).kid.toNat ((i : Int) + 1) := by
      rw [endF, if_neg (by omega)] at h
      exact h
    obtain ⟨-, e⟩ := wrB_mono (g := wrF x n m) (g' := wrF x n (m + 1)) (f := endF (fun j => (x j).kid) n m) (f' := endF (fun j => (x j).kid) n (m + 1)) (fun j hj => ⟨endF_mono _ n m j hj, wrF_mono x n m j hj⟩) ((i : Int) + 1) (x i).kid.toNat h'
    rw [wrF, e]
    conv => rhs; rw [wrF]

/-- The length of an item's content, and of all of it. -/
def clF (x : Nat → It) (n i : Nat) : Nat := (boL (x i) ++ wrB (wrF x n 13) (endF (fun j => (x j).kid) n 13) ((i : Int) + 1) (x i).kid.toNat).length
def wlF (x : Nat → It) (n i : Nat) : Nat := (wrF x n 13 i).length
theorem wl_cl (x : Nat → It) (n i : Nat) (h : 0 ≤ endF (fun j => (x j).kid) n 13 i) : wlF x n i = 1 + lgN (clF x n i : Int) + clF x n i := by
  unfold wlF
  rw [← wrF_mono x n 13 i h, wrF, List.length_cons, List.length_append]
  show (lgL (clF x n i)).length + clF x n i + 1 = _
  have : (lgL (clF x n i)).length = lgN (clF x n i : Int) := by simp [lgL]
  omega

/-- The trees that stand behind a place, one behind the other. -/
def chF (f : Nat → Int) (n : Nat) : Nat → Nat → List Nat
  | 0, _ => []
  | m + 1, i => if n ≤ i then [] else i :: chF f n m (f i).toNat
theorem wrB_len (g : Nat → List Int) (f : Nat → Int) (s : Int) (K : Nat) : (wrB g f s K).length = ((List.range K).map fun k => (g (kidsF f k s).toNat).length).sum := by
  induction K with
  | zero => rfl
  | succ K ih => rw [wrB, List.length_append, ih, List.range_succ, List.map_append, List.sum_append]; simp

theorem chF_fuel {f : Nat → Int} {n : Nat} (hf : ∀ i, i < n → (i : Int) + 1 ≤ f i) : ∀ (m i : Nat), n ≤ i + m → chF f n (m + 1) i = chF f n m i
  | 0, i, h => by
    show (if n ≤ i then [] else i :: chF f n 0 (f i).toNat) = []
    rw [if_pos (by omega)]
  | m + 1, i, h => by
    by_cases c : n ≤ i
    · rw [chF, if_pos c, chF, if_pos c]
    · rw [chF, if_neg c, chF_fuel hf m _ (by have := hf i (by omega); omega)]
      conv => rhs; rw [chF, if_neg c]
/-- The chain behind a place, whatever the fuel. -/
def chn (f : Nat → Int) (n i : Nat) : List Nat := chF f n n i
theorem chn_end {f : Nat → Int} {n i : Nat} (h : n ≤ i) : chn f n i = [] := by
  unfold chn
  cases n with
  | zero => rfl
  | succ n => rw [chF, if_pos h]
theorem chn_step {f : Nat → Int} {n i : Nat} (hf : ∀ i, i < n → (i : Int) + 1 ≤ f i) (h : i < n) : chn f n i = i :: chn f n (f i).toNat := by
  unfold chn
  rw [← chF_fuel hf n i (by omega), chF, if_neg (by omega)]
/-- The kids of an item stand first in the chain behind it. -/
theorem chn_kids {f : Nat → Int} {n : Nat} (hf : ∀ i, i < n → (i : Int) + 1 ≤ f i) (hr : ∀ i, 0 ≤ f i → i < n) (s : Nat) : ∀ k, 0 ≤ kidsF f k (s : Int) → chn f n s = (List.range k).map (fun j => (kidsF f j (s : Int)).toNat) ++ chn f n (kidsF f k (s : Int)).toNat
  | 0, _ => by
    show chn f n s = [] ++ chn f n ((s : Int)).toNat
    simp
  | k + 1, h => by
    have h1 : 0 ≤ kidsF f k (s : Int) := kids_ok h (Nat.le_succ k)
    have h2 : (if kidsF f k (s : Int) < 0 then -1 else f (kidsF f k (s : Int)).toNat) = kidsF f (k + 1) (s : Int) := rfl
    rw [if_neg (by omega)] at h2
    have h3 := hr (kidsF f k (s : Int)).toNat (by rw [h2]; exact h)
    rw [chn_kids hf hr s k h1, chn_step hf h3, h2, List.range_succ, List.map_append, List.append_assoc]
    rfl

end Go.Proofs.Ytigjjkondbdgjab
