/- Plain facts: an item's bytes don't turn on how deep one may go; the chain of trees behind a place. Plain facts: the bytes of a tree are those of its items, one behind the other; what the program's backward walk keeps. -/
import Derived.Test.YtkogbinfhoiggaaGreatDoorCx25
namespace Go.Proofs.YtkogbinfhoiggaaGreatDoor
set_option linter.unusedVariables false
set_option linter.unusedSimpArgs false
section
open Go.RowKit
theorem wrB_mono {g g' : Nat → List Int} {f f' : Nat → Int} (h : ∀ i, 0 ≤ f i → f' i = f i ∧ g' i = g i) (s : Int) : ∀ k, 0 ≤ kidsF f k s → kidsF f' k s = kidsF f k s ∧ wrB g' f' s k = wrB g f s k
 | 0, _ => ⟨rfl, rfl⟩
 | k + 1, h0 => by
  have h1 : 0 ≤ kidsF f k s := kids_ok h0 (Nat.le_succ k)
  obtain ⟨a1, a2⟩ := wrB_mono h s k h1
  have h2 : (if kidsF f k s < 0 then -1 else f (kidsF f k s).toNat) = kidsF f (k + 1) s := rfl
  rw [if_neg (by omega)] at h2
  obtain ⟨b1, b2⟩ := h (kidsF f k s).toNat (by rw [h2]; exact h0)
  refine ⟨?_, ?_⟩
  ·show (if kidsF f' k s < 0 then -1 else f' (kidsF f' k s).toNat) = _
   rw [a1, if_neg (by omega), b1, h2]
  ·show wrB g' f' s k ++ g' (kidsF f' k s).toNat = wrB g f s k ++ g (kidsF f k s).toNat
   rw [a1, a2, b2]
theorem wrF_mono (x : Nat → It) (n : Nat) : ∀ (m i : Nat), 0 ≤ endF (fun j => (x j).kid) n m i → wrF x n (m + 1) i = wrF x n m i
 | 0, i, h => by
  have : endF (fun j => (x j).kid) n 0 i = -1 := rfl
  omega
 | m + 1, i, h => by
  have hi : i < n := endF_lt h
  have h' : 0 ≤ kidsF (endF (fun j => (x j).kid) n m) (x i).kid.toNat ((i : Int) + 1) := by
   rw [endF, if_neg (by omega)] at h
   exact h
  obtain ⟨-, e⟩ := wrB_mono (g := wrF x n m) (g' := wrF x n (m + 1)) (f := endF (fun j => (x j).kid) n m) (f' := endF (fun j => (x j).kid) n (m + 1)) (fun j hj => ⟨endF_mono _ n m j hj, wrF_mono x n m j hj⟩) ((i : Int) + 1) (x i).kid.toNat h'
  rw [wrF, e]
  conv => rhs; rw [wrF]
def clF (x : Nat → It) (n i : Nat) : Nat := (boL (x i) ++ wrB (wrF x n 13) (endF (fun j => (x j).kid) n 13) ((i : Int) + 1) (x i).kid.toNat).length
def wlF (x : Nat → It) (n i : Nat) : Nat := (wrF x n 13 i).length
theorem wl_cl (x : Nat → It) (n i : Nat) (h : 0 ≤ endF (fun j => (x j).kid) n 13 i) : wlF x n i = 1 + lgN (clF x n i : Int) + clF x n i := by
 unfold wlF
 rw [← wrF_mono x n 13 i h, wrF, List.length_cons, List.length_append]
 show (lgL (clF x n i)).length + clF x n i + 1 = _
 have : (lgL (clF x n i)).length = lgN (clF x n i : Int) := by simp [lgL]
 omega
def chF (f : Nat → Int) (n : Nat) : Nat → Nat → List Nat
 | 0, _ => []
 | m + 1, i => if n ≤ i then [] else i :: chF f n m (f i).toNat
theorem wrB_len (g : Nat → List Int) (f : Nat → Int) (s : Int) (K : Nat) : (wrB g f s K).length = ((List.range K).map fun k => (g (kidsF f k s).toNat).length).sum := by
 induction K with
 | zero => rfl
 | succ K ih => rw [wrB, List.length_append, ih, List.range_succ, List.map_append, List.sum_append]; simp
theorem chF_fuel {f : Nat → Int} {n : Nat} (hf : ∀ i, i < n → (i : Int) + 1 ≤ f i) : ∀ (m i : Nat), n ≤ i + m → chF f n (m + 1) i = chF f n m i
 | 0, i, h => by
  show (if n ≤ i then [] else i :: chF f n 0 (f i).toNat) = []
  rw [if_pos (by omega)]
 | m + 1, i, h => by
  by_cases c : n ≤ i
  ·rw [chF, if_pos c, chF, if_pos c]
  ·rw [chF, if_neg c, chF_fuel hf m _ (by have := hf i (by omega); omega)]
   conv => rhs; rw [chF, if_neg c]
def chn (f : Nat → Int) (n i : Nat) : List Nat := chF f n n i
theorem chn_end {f : Nat → Int} {n i : Nat} (h : n ≤ i) : chn f n i = [] := by
 unfold chn
 cases n with
 | zero => rfl
 | succ n => rw [chF, if_pos h]
theorem chn_step {f : Nat → Int} {n i : Nat} (hf : ∀ i, i < n → (i : Int) + 1 ≤ f i) (h : i < n) : chn f n i = i :: chn f n (f i).toNat := by
 unfold chn
 rw [← chF_fuel hf n i (by omega), chF, if_neg (by omega)]
theorem chn_kids {f : Nat → Int} {n : Nat} (hf : ∀ i, i < n → (i : Int) + 1 ≤ f i) (hr : ∀ i, 0 ≤ f i → i < n) (s : Nat) : ∀ k, 0 ≤ kidsF f k (s : Int) → chn f n s = (List.range k).map (fun j => (kidsF f j (s : Int)).toNat) ++ chn f n (kidsF f k (s : Int)).toNat
 | 0, _ => by
  show chn f n s = [] ++ chn f n ((s : Int)).toNat
  simp
 | k + 1, h => by
  have h1 : 0 ≤ kidsF f k (s : Int) := kids_ok h (Nat.le_succ k)
  have h2 : (if kidsF f k (s : Int) < 0 then -1 else f (kidsF f k (s : Int)).toNat) = kidsF f (k + 1) (s : Int) := rfl
  rw [if_neg (by omega)] at h2
  have h3 := hr (kidsF f k (s : Int)).toNat (by rw [h2]; exact h)
  rw [chn_kids hf hr s k h1, chn_step hf h3, h2, List.range_succ, List.map_append, List.append_assoc]
  rfl
def hdL (x : Nat → It) (n j : Nat) : List Int := (x j).tag :: (lgL (clF x n j) ++ boL (x j))
def flt (x : Nat → It) (n s : Nat) : Nat → List Int
 | 0 => []
 | c + 1 => flt x n s c ++ hdL x n (s + c)
theorem flt_add (x : Nat → It) (n s c : Nat) : ∀ d, flt x n s (c + d) = flt x n s c ++ flt x n (s + c) d
 | 0 => by rw [Nat.add_zero]; show _ = _ ++ []; rw [List.append_nil]
 | d + 1 => by
  rw [← Nat.add_assoc, flt, flt_add x n s c d, flt, List.append_assoc, Nat.add_assoc]
theorem flt_one (x : Nat → It) (n s c : Nat) : flt x n s (c + 1) = hdL x n s ++ flt x n (s + 1) c := by
 rw [Nat.add_comm, flt_add]
 show ([] ++ hdL x n (s + 0)) ++ _ = _
 simp
theorem up_mono (x : Nat → It) (n m j : Nat) (h : 0 ≤ endF (fun j => (x j).kid) n m j) : ∀ d, endF (fun j => (x j).kid) n (m + d) j = endF (fun j => (x j).kid) n m j ∧ wrF x n (m + d) j = wrF x n m j
 | 0 => ⟨rfl, rfl⟩
 | d + 1 => by
  obtain ⟨h1, h2⟩ := up_mono x n m j h d
  have h3 : 0 ≤ endF (fun j => (x j).kid) n (m + d) j := by rw [h1]; exact h
  exact ⟨(endF_mono _ n (m + d) j h3).trans h1, (wrF_mono x n (m + d) j h3).trans h2⟩
theorem kids_step {f : Nat → Int} {s : Int} {k : Nat} (h : 0 ≤ kidsF f (k + 1) s) : 0 ≤ kidsF f k s ∧ f (kidsF f k s).toNat = kidsF f (k + 1) s := by
 have h1 : 0 ≤ kidsF f k s := kids_ok h (Nat.le_succ k)
 have h2 : (if kidsF f k s < 0 then -1 else f (kidsF f k s).toNat) = kidsF f (k + 1) s := rfl
 rw [if_neg (by omega)] at h2
 exact ⟨h1, h2⟩
theorem wrB_flt (x : Nat → It) (n : Nat) {g : Nat → List Int} {f : Nat → Int} (hg : ∀ i, 0 ≤ f i → (i : Int) < f i ∧ g i = flt x n i ((f i).toNat - i)) (s : Nat) : ∀ k, 0 ≤ kidsF f k (s : Int) → (s : Int) ≤ kidsF f k (s : Int) ∧ wrB g f (s : Int) k = flt x n s ((kidsF f k (s : Int)).toNat - s)
 | 0, _ => ⟨Int.le_refl _, by show [] = flt x n s (((s : Int)).toNat - s); simp [flt]⟩
 | k + 1, h => by
  obtain ⟨h1, h2⟩ := kids_step h
  obtain ⟨h3, h4⟩ := wrB_flt x n hg s k h1
  obtain ⟨h5, h6⟩ := hg (kidsF f k (s : Int)).toNat (by rw [h2]; exact h)
  rw [h2] at h5 h6
  refine ⟨by omega, ?_⟩
  rw [wrB, h4, h6, show (kidsF f (k + 1) (s : Int)).toNat - s = ((kidsF f k (s : Int)).toNat - s) + ((kidsF f (k + 1) (s : Int)).toNat - (kidsF f k (s : Int)).toNat) by omega, flt_add, show s + ((kidsF f k (s : Int)).toNat - s) = (kidsF f k (s : Int)).toNat by omega]
theorem wrF_flt (x : Nat → It) (n : Nat) : ∀ (m : Nat), m ≤ 13 → ∀ i, 0 ≤ endF (fun j => (x j).kid) n m i → (i : Int) < endF (fun j => (x j).kid) n m i ∧ wrF x n m i = flt x n i ((endF (fun j => (x j).kid) n m i).toNat - i)
 | 0, _, i, h => by
  have : endF (fun j => (x j).kid) n 0 i = -1 := rfl
  omega
 | m + 1, hm, i, h => by
  have hi : i < n := endF_lt h
  have he : endF (fun j => (x j).kid) n (m + 1) i = kidsF (endF (fun j => (x j).kid) n m) (x i).kid.toNat ((i : Int) + 1) := by rw [endF, if_neg (by omega)]
  rw [he] at h ⊢
  obtain ⟨h1, h2⟩ := wrB_flt x n (g := wrF x n m) (f := endF (fun j => (x j).kid) n m) (fun j hj => wrF_flt x n m (by omega) j hj) (i + 1) (x i).kid.toNat (by exact_mod_cast h)
  have hc : ((i + 1 : Nat) : Int) = (i : Int) + 1 := by omega
  rw [hc] at h1 h2
  obtain ⟨-, h3⟩ := wrB_mono (g := wrF x n m) (g' := wrF x n 13) (f := endF (fun j => (x j).kid) n m) (f' := endF (fun j => (x j).kid) n 13) (fun j hj => by
   obtain ⟨a, b⟩ := up_mono x n m j hj (13 - m)
   rw [show m + (13 - m) = 13 by omega] at a b
   exact ⟨a, b⟩) ((i : Int) + 1) (x i).kid.toNat h
  refine ⟨by omega, ?_⟩
  generalize kidsF (endF (fun j => (x j).kid) n m) (x i).kid.toNat ((i : Int) + 1) = e at *
  have hl : (boL (x i) ++ wrB (wrF x n m) (endF (fun j => (x j).kid) n m) ((i : Int) + 1) (x i).kid.toNat).length = clF x n i := by
   unfold clF
   rw [h3]
  rw [wrF, hl, h2, show e.toNat - i = (e.toNat - (i + 1)) + 1 by omega, flt_one]
  unfold hdL
  simp
structure TrO (x : Nat → It) (n : Nat) : Prop where
 ok : ∀ i, i < n → 0 ≤ endF (fun j => (x j).kid) n 13 i
 top : endF (fun j => (x j).kid) n 13 0 = n
 le : ∀ i, endF (fun j => (x j).kid) n 13 i ≤ n
 kid : ∀ i, i < n → 0 ≤ kidsF (endF (fun j => (x j).kid) n 13) (x i).kid.toNat ((i : Int) + 1) ∧ kidsF (endF (fun j => (x j).kid) n 13) (x i).kid.toNat ((i : Int) + 1) = endF (fun j => (x j).kid) n 13 i
theorem trO_of {x : Nat → It} {n : Nat} (h : treeV x n = true) : TrO x n := by
 unfold treeV at h
 rw [decide_eq_true_eq] at h
 obtain ⟨h1, h2, h3, h4⟩ := h
 have hok : ∀ i, i < n → 0 ≤ endF (fun j => (x j).kid) n 13 i := fun i hi => endF_within _ n 13 0 i (by omega) (Nat.zero_le _) (by omega)
 have hk : ∀ i, i < n → kidsF (endF (fun j => (x j).kid) n 13) (x i).kid.toNat ((i : Int) + 1) = endF (fun j => (x j).kid) n 13 i := fun i hi => by
  rw [← endF_mono (fun j => (x j).kid) n 13 i (hok i hi)]
  conv => rhs; rw [endF, if_neg (by omega)]
 exact ⟨hok, h4, fun i => (endF_range _ n 13 i).2, fun i hi => ⟨by rw [hk i hi]; exact hok i hi, hk i hi⟩⟩
theorem TrO.far {x : Nat → It} {n : Nat} (h : TrO x n) : ∀ i, i < n → (i : Int) + 1 ≤ endF (fun j => (x j).kid) n 13 i := fun i hi => by
 have := (wrF_flt x n 13 (Nat.le_refl _) i (h.ok i hi)).1
 omega
def wlL (x : Nat → It) (n i : Nat) : List Int := ((chn (endF (fun j => (x j).kid) n 13) n i).map (fun j => (wlF x n j : Int))).reverse
theorem wlL_end (x : Nat → It) (n : Nat) : wlL x n n = [] := by
 unfold wlL
 rw [chn_end (Nat.le_refl _)]
 rfl
theorem sum_cast (L : List Nat) : ((L.map (fun j : Nat => (j : Int))).sum) = ((L.sum : Nat) : Int) := by
 induction L with
 | nil => rfl
 | cons a L ih => rw [List.map_cons, List.sum_cons, List.sum_cons, ih]; omega
theorem back_step {x : Nat → It} {n i : Nat} (hT : TrO x n) (hi : i < n) : ∃ A, (wlL x n (i + 1)).length = A + (x i).kid.toNat ∧ ((x i).len : Int) + ((wlL x n (i + 1)).drop A).sum = clF x n i ∧ wlL x n i = (wlL x n (i + 1)).take A ++ [(wlF x n i : Int)] := by
 obtain ⟨k1, k2⟩ := hT.kid i hi
 have hc : ((i + 1 : Nat) : Int) = (i : Int) + 1 := by omega
 have ck := chn_kids hT.far (fun j hj => endF_lt hj) (i + 1) (x i).kid.toNat (by rw [hc]; exact k1)
 rw [hc, k2] at ck
 have c0 := chn_step hT.far hi
 have hw : wlL x n (i + 1) = ((chn (endF (fun j => (x j).kid) n 13) n (endF (fun j => (x j).kid) n 13 i).toNat).map (fun j => (wlF x n j : Int))).reverse ++ (((List.range (x i).kid.toNat).map (fun j => (kidsF (endF (fun j => (x j).kid) n 13) j ((i : Int) + 1)).toNat)).map (fun j => (wlF x n j : Int))).reverse := by
  unfold wlL
  rw [ck, List.map_append, List.reverse_append]
 refine ⟨(chn (endF (fun j => (x j).kid) n 13) n (endF (fun j => (x j).kid) n 13 i).toNat).length, ?_, ?_, ?_⟩
 ·rw [hw]; simp
 ·rw [hw, List.drop_left' (by simp)]
  have hs : ∀ L : List Int, L.reverse.sum = L.sum := fun L => by
   induction L with
   | nil => rfl
   | cons a L ih => rw [List.reverse_cons, List.sum_append, ih, List.sum_cons, List.sum_cons, List.sum_nil]; omega
  rw [hs]
  unfold clF
  rw [List.length_append, wrB_len, List.map_map]
  have : (List.range (x i).kid.toNat).map ((fun j => (wlF x n j : Int)) ∘ fun j => (kidsF (endF (fun j => (x j).kid) n 13) j ((i : Int) + 1)).toNat) = ((List.range (x i).kid.toNat).map fun k => (wrF x n 13 (kidsF (endF (fun j => (x j).kid) n 13) k ((i : Int) + 1)).toNat).length).map (fun j : Nat => (j : Int)) := by
   rw [List.map_map]
   rfl
  rw [this, sum_cast]
  have hb : (boL (x i)).length = (x i).len := by simp [boL]
  rw [hb]
  omega
 ·rw [hw, List.take_left' (by simp)]
  unfold wlL
  rw [c0, List.map_cons, List.reverse_cons]
theorem smL_le {x : Nat → It} {n : Nat} (hb : ∀ i, i < n → (x i).len ≤ 1048576) (s : Nat) : ∀ c, s + c ≤ n → smL x s c ≤ c * 1048576
 | 0, _ => Nat.zero_le _
 | c + 1, h => by
  have h1 := smL_le hb s c (by omega)
  have h2 := hb (s + c) (by omega)
  show smL x s c + (x (s + c)).len ≤ _
  omega
theorem wl_le {x : Nat → It} {n : Nat} (hT : TrO x n) (hn : n ≤ 300) (hb : ∀ i, i < n → (x i).len ≤ 1048576) (i : Nat) (hi : i < n) : wlF x n i ≤ 400000000 ∧ clF x n i ≤ 400000000 ∧ wlF x n i = 1 + lgN (clF x n i : Int) + clF x n i := by
 obtain ⟨e, he⟩ := nat_of (hT.ok i hi)
 have h1 := wrF_bounds x n hb (by omega) 13 i e he
 have h2 := hT.le i
 have h3 := smL_le hb i (e - i) (by omega)
 have h4 := wl_cl x n i (hT.ok i hi)
 have h5 : wlF x n i = (wrF x n 13 i).length := rfl
 omega
end
end Go.Proofs.YtkogbinfhoiggaaGreatDoor
