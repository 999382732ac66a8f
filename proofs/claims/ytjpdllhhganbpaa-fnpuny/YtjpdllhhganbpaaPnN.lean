/- Plain notions: puny texts: thresholds, digits, bias, the order in which numbers are told. Nothing of the program. -/
import Derived.Test.YtjpdllhhganbpaaBase
namespace Go.Proofs.Ytjpdllhhganbpaa
set_option linter.unusedVariables false
set_option linter.unusedSimpArgs false

/-- What a digit at k is held against. -/
def thr (k bias : Int) : Int := max 1 (min 26 (k - bias))
theorem thr_ge (k b : Int) : 1 ≤ thr k b := by unfold thr; omega
theorem thr_le (k b : Int) : thr k b ≤ 26 := by unfold thr; omega

/-- A digit's byte. -/
def pd (x : Int) : Int := if x < 26 then 97 + x else 22 + x

/-- q's digits, from k on. -/
def pdig (bias : Int) : Nat → Int → Int → List Int
  | 0, _, _ => []
  | F + 1, k, q => if q < thr k bias then [pd q] else pd (thr k bias + (q - thr k bias) % (36 - thr k bias)) :: pdig bias F (k + 36) ((q - thr k bias) / (36 - thr k bias))
def dgs (bias q : Int) : List Int := pdig bias (q.toNat + 1) 36 q

theorem quo_less {q t : Int} (h1 : 1 ≤ t) (h2 : t ≤ 26) (h : t ≤ q) : 0 ≤ (q - t) / (36 - t) ∧ (q - t) / (36 - t) ≤ q - 1 := by
  have h3 : 0 ≤ q - t := by omega
  have h4 : 0 < 36 - t := by omega
  refine ⟨Int.ediv_nonneg h3 (by omega), ?_⟩
  have := Int.ediv_le_self (36 - t) h3
  omega

theorem pdig_fuel (b : Int) : ∀ F G k q, 0 ≤ q → q.toNat < F → q.toNat < G → pdig b F k q = pdig b G k q
  | 0, G, k, q, h0, h1, h2 => absurd h1 (Nat.not_lt_zero _)
  | F + 1, 0, k, q, h0, h1, h2 => absurd h2 (Nat.not_lt_zero _)
  | F + 1, G + 1, k, q, h0, h1, h2 => by
    unfold pdig
    split
    · rfl
    · rename_i h
      have hl := quo_less (thr_ge k b) (thr_le k b) (Int.not_lt.1 h)
      have h1' := thr_ge k b
      rw [pdig_fuel b F G (k + 36) _ hl.1 (by omega) (by omega)]

theorem pdig_last {b : Int} {F : Nat} {k q : Int} (hF : q.toNat < F) (h : q < thr k b) : pdig b F k q = [pd q] := by
  obtain ⟨G, rfl⟩ : ∃ G, F = G + 1 := ⟨F - 1, by omega⟩
  unfold pdig
  rw [if_pos h]
theorem pdig_more {b : Int} {F : Nat} {k q : Int} (hF : q.toNat < F) (h : ¬ q < thr k b) : ∃ G, ((q - thr k b) / (36 - thr k b)).toNat < G ∧ pdig b F k q = pd (thr k b + (q - thr k b) % (36 - thr k b)) :: pdig b G (k + 36) ((q - thr k b) / (36 - thr k b)) := by
  obtain ⟨G, rfl⟩ : ∃ G, F = G + 1 := ⟨F - 1, by omega⟩
  have hl := quo_less (thr_ge k b) (thr_le k b) (Int.not_lt.1 h)
  have h1' := thr_ge k b
  refine ⟨G, by omega, ?_⟩
  rw [pdig, if_neg h]

/-- The bias, by division. -/
def blP : Nat → Int → Int → Int
  | 0, d, k => k + 36 * d / (d + 38)
  | F + 1, d, k => if 455 < d then blP F (d / 35) (k + 36) else k + 36 * d / (d + 38)
def pbias (delta many : Int) (first : Bool) : Int :=
  let d := if first then delta / 700 else delta / 2
  blP (d + d / many).toNat (d + d / many) 0

theorem frac_le {d : Int} (h : 0 ≤ d) : 0 ≤ 36 * d / (d + 38) ∧ 36 * d / (d + 38) ≤ 36 := by
  refine ⟨Int.ediv_nonneg (by omega) (by omega), ?_⟩
  exact Int.ediv_le_of_le_mul (by omega) (by omega)

theorem blP_bound : ∀ F d k, 0 ≤ d → 0 ≤ k → 0 ≤ blP F d k ∧ blP F d k ≤ k + 36 * d + 36
  | 0, d, k, h0, h1 => by unfold blP; have := frac_le h0; omega
  | F + 1, d, k, h0, h1 => by
    unfold blP
    split
    · have := blP_bound F (d / 35) (k + 36) (by omega) (by omega)
      omega
    · have := frac_le h0; omega

theorem blP_end {F : Nat} {d k : Int} (h : ¬ 455 < d) : blP F d k = k + 36 * d / (d + 38) := by
  cases F
  · rfl
  · unfold blP; rw [if_neg h]
theorem blP_more {F : Nat} {d k : Int} (hF : d.toNat ≤ F) (h : 455 < d) : ∃ G, (d / 35).toNat ≤ G ∧ blP F d k = blP G (d / 35) (k + 36) := by
  obtain ⟨G, rfl⟩ : ∃ G, F = G + 1 := ⟨F - 1, by omega⟩
  refine ⟨G, by omega, ?_⟩
  rw [blP, if_pos h]

theorem pbias_bound {d m : Int} {b : Bool} (h0 : 0 ≤ d) (h1 : d ≤ 30000000) (h2 : 1 ≤ m) : 0 ≤ pbias d m b ∧ pbias d m b ≤ 2000000000 := by
  unfold pbias
  have h3 : 0 ≤ (if b then d / 700 else d / 2) ∧ (if b then d / 700 else d / 2) ≤ 15000000 := by split <;> omega
  generalize (if b then d / 700 else d / 2) = x at *
  have h4 := Int.ediv_nonneg h3.1 (show 0 ≤ m by omega)
  have h5 := Int.ediv_le_self m h3.1
  have := blP_bound (x + x / m).toNat (x + x / m) 0 (by omega) (Int.le_refl _)
  simp only []
  omega

/-- The least number from n on, of the first k; or m. -/
def lst (f : Nat → Int) (n m : Int) : Nat → Int
  | 0 => m
  | k + 1 => if n ≤ f k then min (lst f n m k) (f k) else lst f n m k

/-- How many of the first k are below n. -/
def cnt (f : Nat → Int) (n : Int) : Nat → Nat
  | 0 => 0
  | k + 1 => cnt f n k + if f k < n then 1 else 0
/-- How many of the first k are n. -/
def cntE (f : Nat → Int) (n : Int) : Nat → Nat
  | 0 => 0
  | k + 1 => cntE f n k + if f k = n then 1 else 0

theorem cnt_le (f : Nat → Int) (n : Int) : ∀ k, cnt f n k ≤ k
  | 0 => Nat.le_refl _
  | k + 1 => by unfold cnt; have := cnt_le f n k; split <;> omega
theorem cnt_all {f : Nat → Int} {n : Int} : ∀ {k}, cnt f n k = k → ∀ i, i < k → f i < n
  | 0, _, i, hi => absurd hi (Nat.not_lt_zero _)
  | k + 1, h, i, hi => by
    unfold cnt at h
    have := cnt_le f n k
    split at h
    · rename_i hk
      by_cases e : i = k
      · subst e; exact hk
      · exact cnt_all (show cnt f n k = k by omega) i (by omega)
    · omega
theorem cnt_some {f : Nat → Int} {n : Int} : ∀ {k}, cnt f n k < k → ∃ i, i < k ∧ n ≤ f i
  | 0, h => absurd h (Nat.not_lt_zero _)
  | k + 1, h => by
    by_cases e : f k < n
    · unfold cnt at h
      rw [if_pos e] at h
      obtain ⟨i, h1, h2⟩ := cnt_some (show cnt f n k < k by omega)
      exact ⟨i, by omega, h2⟩
    · exact ⟨k, by omega, by omega⟩
theorem cnt_succ (f : Nat → Int) (n : Int) : ∀ k, cnt f (n + 1) k = cnt f n k + cntE f n k
  | 0 => rfl
  | k + 1 => by
    unfold cnt cntE
    rw [cnt_succ f n k]
    by_cases h1 : f k < n
    · rw [if_pos h1, if_pos (by omega), if_neg (by omega)]; omega
    · by_cases h2 : f k = n
      · rw [if_neg h1, if_pos (by omega), if_pos h2]; omega
      · rw [if_neg h1, if_neg (by omega), if_neg h2]; omega
theorem cnt_gap {f : Nat → Int} {n m : Int} (hnm : n ≤ m) : ∀ {k}, (∀ i, i < k → n ≤ f i → m ≤ f i) → cnt f m k = cnt f n k
  | 0, _ => rfl
  | k + 1, h => by
    unfold cnt
    rw [cnt_gap hnm (fun i hi => h i (by omega))]
    by_cases e : f k < n
    · rw [if_pos e, if_pos (by omega)]
    · have := h k (by omega) (by omega)
      rw [if_neg e, if_neg (by omega)]
theorem cntE_pos {f : Nat → Int} {n : Int} : ∀ {k i}, i < k → f i = n → 1 ≤ cntE f n k
  | 0, i, hi, _ => absurd hi (Nat.not_lt_zero _)
  | k + 1, i, hi, he => by
    unfold cntE
    by_cases e : i = k
    · subst e; rw [if_pos he]; omega
    · have := cntE_pos (show i < k by omega) he; omega
theorem cnt_cntE_le (f : Nat → Int) (n : Int) (k : Nat) : cnt f n k + cntE f n k ≤ k := by rw [← cnt_succ]; exact cnt_le f (n + 1) k

theorem lst_le {f : Nat → Int} {n m : Int} : ∀ {k}, lst f n m k ≤ m
  | 0 => Int.le_refl _
  | k + 1 => by unfold lst; have := @lst_le f n m k; split <;> omega
theorem lst_low {f : Nat → Int} {n m : Int} : ∀ {k i}, i < k → n ≤ f i → lst f n m k ≤ f i
  | 0, i, hi, _ => absurd hi (Nat.not_lt_zero _)
  | k + 1, i, hi, h => by
    unfold lst
    by_cases e : i = k
    · subst e; rw [if_pos h]; omega
    · have := @lst_low f n m k i (by omega) h
      split <;> omega
theorem lst_is {f : Nat → Int} {n m : Int} : ∀ {k}, lst f n m k = m ∨ ∃ i, i < k ∧ n ≤ f i ∧ lst f n m k = f i
  | 0 => .inl rfl
  | k + 1 => by
    unfold lst
    split
    · rename_i h
      rcases @lst_is f n m k with e | ⟨i, h1, h2, h3⟩
      · by_cases c : m ≤ f k
        · left; omega
        · exact .inr ⟨k, by omega, h, by omega⟩
      · by_cases c : lst f n m k ≤ f k
        · exact .inr ⟨i, by omega, h2, by omega⟩
        · exact .inr ⟨k, by omega, h, by omega⟩
    · rcases @lst_is f n m k with e | ⟨i, h1, h2, h3⟩
      · exact .inl e
      · exact .inr ⟨i, by omega, h2, h3⟩

/-- What the least is, where there is one. -/
structure IsLst (f : Nat → Int) (n : Int) (len : Nat) (x : Int) : Prop where
  ge : n ≤ x
  gap : ∀ i, i < len → n ≤ f i → x ≤ f i
  at' : ∃ i, i < len ∧ f i = x
theorem lst_spec {f : Nat → Int} {n m : Int} {len : Nat} (hf : ∀ i, i < len → f i ≤ 1114111) (hm : 1114111 ≤ m) (hx : ∃ i, i < len ∧ n ≤ f i) : IsLst f n len (lst f n m len) := by
  obtain ⟨i, h1, h2⟩ := hx
  have hl := @lst_low f n m len i h1 h2
  have hi := hf i h1
  rcases @lst_is f n m len with e | ⟨j, h3, h4, h5⟩
  · exact ⟨by omega, fun j hj hn => lst_low hj hn, ⟨i, h1, by omega⟩⟩
  · exact ⟨by omega, fun j hj hn => lst_low hj hn, ⟨j, h3, h5.symm⟩⟩
theorem IsLst.unique {f : Nat → Int} {n : Int} {len : Nat} {x y : Int} (h : IsLst f n len x) (k : IsLst f n len y) : x = y := by
  obtain ⟨i, h1, h2⟩ := h.at'
  obtain ⟨j, k1, k2⟩ := k.at'
  have h3 := h.ge
  have k3 := k.ge
  have := h.gap j k1 (by omega)
  have := k.gap i h1 (by omega)
  omega

/-- What is told so far: how many numbers, the delta, the bias, the bytes. -/
structure PS where
  h : Nat
  d : Int
  b : Int
  o : List Int

def pin (basic : Nat) (n x : Int) (s : PS) : PS :=
  if x = n then ⟨s.h + 1, 0, pbias s.d (s.h + 1) (s.h == basic), s.o ++ dgs s.b s.d⟩
  else if x < n then ⟨s.h, s.d + 1, s.b, s.o⟩ else s
def pinF (basic : Nat) (n : Int) (f : Nat → Int) : Nat → PS → PS
  | 0, s => s
  | k + 1, s => pin basic n (f k) (pinF basic n f k s)
def pout (basic len : Nat) (f : Nat → Int) : Nat → PS → Int → List Int
  | 0, s, n => s.o
  | F + 1, s, n => if s.h < len then
      pout basic len f F ⟨(pinF basic (lst f n 1114112 len) f len ⟨s.h, s.d + (lst f n 1114112 len - n) * (s.h + 1), s.b, s.o⟩).h, (pinF basic (lst f n 1114112 len) f len ⟨s.h, s.d + (lst f n 1114112 len - n) * (s.h + 1), s.b, s.o⟩).d + 1, (pinF basic (lst f n 1114112 len) f len ⟨s.h, s.d + (lst f n 1114112 len - n) * (s.h + 1), s.b, s.o⟩).b, (pinF basic (lst f n 1114112 len) f len ⟨s.h, s.d + (lst f n 1114112 len - n) * (s.h + 1), s.b, s.o⟩).o⟩ (lst f n 1114112 len + 1)
    else s.o

/-- Those below 128. -/
def nearL (f : Nat → Int) : Nat → List Int
  | 0 => []
  | k + 1 => if f k < 128 then nearL f k ++ [f k] else nearL f k
theorem nearL_len (f : Nat → Int) : ∀ k, (nearL f k).length = cnt f 128 k
  | 0 => rfl
  | k + 1 => by unfold nearL cnt; split <;> simp [nearL_len f k]
def markL (L : List Int) : List Int := if 0 < L.length then L ++ [45] else L
def punyL (f : Nat → Int) (len : Nat) : List Int := pout (cnt f 128 len) len f len ⟨cnt f 128 len, 0, 72, markL (nearL f len)⟩ 128

theorem pout_end {basic len : Nat} {f : Nat → Int} {F : Nat} {s : PS} {n : Int} (h : ¬ s.h < len) : pout basic len f F s n = s.o := by
  cases F
  · rfl
  · unfold pout; rw [if_neg h]

theorem pdig_len (b : Int) : ∀ F k q, (pdig b F k q).length ≤ F
  | 0, k, q => Nat.le_refl _
  | F + 1, k, q => by
    unfold pdig
    split
    · simp
    · have := pdig_len b F (k + 36) ((q - thr k b) / (36 - thr k b)); simp; omega
theorem dgs_len (b q : Int) : (dgs b q).length ≤ q.toNat + 1 := pdig_len b _ _ _

/-- The bounds of a state within a round at m, k numbers looked at. -/
structure InB (f : Nat → Int) (len : Nat) (m : Int) (k : Nat) (s : PS) : Prop where
  h : s.h = cnt f m len + cntE f m k
  d0 : 0 ≤ s.d
  d1 : s.d ≤ 21 * m + k
  b0 : 0 ≤ s.b
  b1 : s.b ≤ 2000000000
  l1 : s.o.length ≤ 30 + 30000001 * s.h

theorem InB.step {f : Nat → Int} {len k basic : Nat} {m : Int} {s : PS} (hm0 : 128 ≤ m) (hm1 : m ≤ 1114111) (hl : len ≤ 20) (hk : k < len) (B : InB f len m k s) : InB f len m (k + 1) (pin basic m (f k) s) := by
  have h1 := B.d0
  have h2 := B.d1
  have h3 := B.h
  have h4 := B.l1
  unfold pin
  by_cases e : f k = m
  · rw [if_pos e]
    obtain ⟨p1, p2⟩ := pbias_bound (d := s.d) (m := (s.h : Int) + 1) (b := s.h == basic) h1 (by omega) (by omega)
    have hd := dgs_len s.b s.d
    refine ⟨?_, Int.le_refl _, by simp only []; omega, p1, p2, ?_⟩
    · simp only [cntE]; rw [if_pos e]; omega
    · simp only [List.length_append]; omega
  · rw [if_neg e]
    by_cases c : f k < m
    · rw [if_pos c]
      refine ⟨?_, by simp only []; omega, by simp only []; omega, B.b0, B.b1, h4⟩
      simp only [cntE]; rw [if_neg e]; omega
    · rw [if_neg c]
      exact ⟨by simp only [cntE]; rw [if_neg e]; omega, h1, by omega, B.b0, B.b1, h4⟩

/-- The bounds of a state between rounds. -/
structure OutB (f : Nat → Int) (len : Nat) (n : Int) (s : PS) : Prop where
  h : s.h = cnt f n len
  n0 : 128 ≤ n
  n1 : n ≤ 1114112
  d0 : 0 ≤ s.d
  d1 : s.d ≤ 21 * n
  b0 : 0 ≤ s.b
  b1 : s.b ≤ 2000000000
  l1 : s.o.length ≤ 30 + 30000001 * s.h

/-- A round begins. -/
theorem OutB.into {f : Nat → Int} {len : Nat} {n m : Int} {s : PS} (hl : len ≤ 20) (B : OutB f len n s) (hs : s.h < len) (hf : ∀ i, i < len → f i ≤ 1114111) (hm : IsLst f n len m) :
    128 ≤ m ∧ m ≤ 1114111 ∧ n ≤ m ∧ 0 ≤ (m - n) * ((s.h : Int) + 1) ∧ (m - n) * ((s.h : Int) + 1) ≤ 21 * (m - n) ∧ InB f len m 0 ⟨s.h, s.d + (m - n) * ((s.h : Int) + 1), s.b, s.o⟩ := by
  obtain ⟨i, h1, h2⟩ := hm.at'
  have h3 := hf i h1
  have h4 := hm.ge
  have h5 := B.n0
  have p0 : 0 ≤ (m - n) * ((s.h : Int) + 1) := Int.mul_nonneg (by omega) (by omega)
  have p1 : (m - n) * ((s.h : Int) + 1) ≤ (m - n) * 21 := Int.mul_le_mul_of_nonneg_left (by omega) (by omega)
  have hd0 := B.d0
  have hd1 := B.d1
  refine ⟨by omega, by omega, h4, p0, by omega, ?_⟩
  refine ⟨?_, by simp only []; omega, by simp only []; omega, B.b0, B.b1, B.l1⟩
  simp only [cntE]
  rw [cnt_gap h4 hm.gap]
  exact B.h

/-- A round ends. -/
theorem InB.out {f : Nat → Int} {len : Nat} {m : Int} {s : PS} (hl : len ≤ 20) (hm0 : 128 ≤ m) (hm1 : m ≤ 1114111) (B : InB f len m len s) : OutB f len (m + 1) ⟨s.h, s.d + 1, s.b, s.o⟩ :=
  ⟨by rw [cnt_succ]; exact B.h, by omega, by omega, by have := B.d0; simp only []; omega, by have := B.d1; simp only []; omega, B.b0, B.b1, B.l1⟩

/-- The bytes, a round further. -/
theorem pout_step {basic len : Nat} {f : Nat → Int} {F : Nat} {s s2 : PS} {n m : Int} (hl : len ≤ 20) (hF : len - s.h ≤ F) (B : OutB f len n s) (hs : s.h < len) (hf : ∀ i, i < len → f i ≤ 1114111) (hm : IsLst f n len m)
    (h2 : s2 = pinF basic m f len ⟨s.h, s.d + (m - n) * ((s.h : Int) + 1), s.b, s.o⟩) (B2 : InB f len m len s2) :
    ∃ G, len - s2.h ≤ G ∧ pout basic len f F s n = pout basic len f G ⟨s2.h, s2.d + 1, s2.b, s2.o⟩ (m + 1) := by
  obtain ⟨G, rfl⟩ : ∃ G, F = G + 1 := ⟨F - 1, by omega⟩
  obtain ⟨i, h1, h3⟩ := hm.at'
  have hg := hm.ge
  have e : lst f n 1114112 len = m := IsLst.unique (lst_spec hf (by omega) ⟨i, h1, by omega⟩) hm
  refine ⟨G, ?_, ?_⟩
  · have := B2.h
    have := cntE_pos h1 h3
    have := cnt_gap hg hm.gap
    have := B.h
    omega
  · rw [pout, if_pos hs, e, ← h2]

end Go.Proofs.Ytjpdllhhganbpaa
