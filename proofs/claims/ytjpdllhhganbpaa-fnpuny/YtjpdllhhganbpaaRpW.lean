/- Plain notions: a word's puny text is read back as the word. Nothing of the program. -/
import Derived.Test.YtjpdllhhganbpaaRpN
namespace Go.Proofs.Ytjpdllhhganbpaa
set_option linter.unusedVariables false
set_option linter.unusedSimpArgs false

theorem pv_pd {q : Int} (h0 : 0 ≤ q) (h1 : q < 36) : pv (pd q) = q := by
  unfold pv pd
  by_cases h : q < 26
  · rw [if_pos h, if_pos (by omega)]; omega
  · rw [if_neg h, if_neg (by omega), if_pos (by omega)]; omega
theorem pd_is {q : Int} (h0 : 0 ≤ q) (h1 : q < 36) : pd q ≠ 45 ∧ 0 ≤ pd q ∧ pd q < 128 := by
  unfold pd
  split <;> omega

theorem pdig_is (b : Int) : ∀ (F : Nat) (k q : Int), 0 ≤ q → ∀ x, x ∈ pdig b F k q → x ≠ 45 ∧ 0 ≤ x ∧ x < 128
  | 0, k, q, hq, x, hx => by cases hx
  | F + 1, k, q, hq, x, hx => by
    unfold pdig at hx
    have t1 := thr_ge k b
    have t2 := thr_le k b
    by_cases ht : q < thr k b
    · rw [if_pos ht] at hx
      obtain rfl := List.mem_singleton.1 hx
      exact pd_is hq (by omega)
    · rw [if_neg ht] at hx
      have m0 := Int.emod_nonneg (q - thr k b) (show 36 - thr k b ≠ 0 by omega)
      have m1 := Int.emod_lt_of_pos (q - thr k b) (show 0 < 36 - thr k b by omega)
      rcases List.mem_cons.1 hx with rfl | h
      · exact pd_is (by omega) (by omega)
      · exact pdig_is b F _ _ (quo_less t1 t2 (Int.not_lt.1 ht)).1 x h

/-- Digits are read back. -/
theorem rdM_dgs {g : Nat → Int} {N : Nat} {b old : Int} (h0 : 0 ≤ old) (h1 : old ≤ 1000) :
    ∀ (F : Nat) (q : Int) (G p : Nat) (k D W : Int), 0 ≤ q → q.toNat < F → PW D W → D + q * W ≤ 30000000 → p + (pdig b F k q).length ≤ N → N - p < G →
      (∀ j, j < (pdig b F k q).length → g (p + j) = (pdig b F k q).getD j 0) → rdM g N b old G p k D W = some (D + q * W, p + (pdig b F k q).length)
  | 0, q, G, p, k, D, W, hq, hF, hp, hV, hN, hG, hg => absurd hF (Nat.not_lt_zero _)
  | F + 1, q, G, p, k, D, W, hq, hF, hp, hV, hN, hG, hg => by
    obtain ⟨G', rfl⟩ : ∃ G', G = G' + 1 := ⟨G - 1, by omega⟩
    have t1 := thr_ge k b
    have t2 := thr_le k b
    have hw := hp.w1
    have hd := hp.d0
    have hl := hp.le
    have hqW : 0 ≤ q * W := Int.mul_nonneg hq (by omega)
    by_cases ht : q < thr k b
    · have e : pdig b (F + 1) k q = [pd q] := by rw [pdig, if_pos ht]
      rw [e] at hN hg ⊢
      have hg0 : g p = pd q := hg 0 (by simp)
      simp only [List.length_singleton] at hN ⊢
      unfold rdM
      rw [if_pos (by omega : p < N), hg0, pv_pd hq (by omega), if_neg (by omega), if_pos ht]
    · have e : pdig b (F + 1) k q = pd (thr k b + (q - thr k b) % (36 - thr k b)) :: pdig b F (k + 36) ((q - thr k b) / (36 - thr k b)) := by rw [pdig, if_neg ht]
      have m0 := Int.emod_nonneg (q - thr k b) (show 36 - thr k b ≠ 0 by omega)
      have m1 := Int.emod_lt_of_pos (q - thr k b) (show 0 < 36 - thr k b by omega)
      have md := Int.mul_ediv_add_emod (q - thr k b) (36 - thr k b)
      have hl2 := quo_less t1 t2 (Int.not_lt.1 ht)
      rw [e] at hN hg ⊢
      generalize (q - thr k b) % (36 - thr k b) = r at *
      generalize (q - thr k b) / (36 - thr k b) = q' at *
      generalize hT : thr k b = T at *
      obtain ⟨v, hv⟩ : ∃ v, T + r = v := ⟨_, rfl⟩
      rw [hv] at hg
      have hqv : q = v + (36 - T) * q' := by omega
      have key : D + q * W = (D + v * W) + q' * (W * (36 - T)) := by rw [hqv]; grind
      have hg0 : g p = pd v := hg 0 (by simp)
      have hN' : p + 1 + (pdig b F (k + 36) q').length ≤ N := by simp only [List.length_cons] at hN; omega
      unfold rdM
      rw [if_pos (by omega : p < N), hg0, pv_pd (by omega) (by omega), hT, if_neg (by omega), if_neg (by omega)]
      rw [rdM_dgs h0 h1 F q' G' (p + 1) (k + 36) (D + v * W) (W * (36 - T)) hl2.1 (by omega) (hp.next (by omega) t1 t2 (by omega)) (by rw [← key]; exact hV) hN' (by omega) (fun j hj => by
        have := hg (j + 1) (by simp only [List.length_cons]; omega)
        rw [show p + 1 + j = p + (j + 1) by omega, this]
        rfl)]
      rw [key]
      simp only [List.length_cons]
      congr 2
      omega

/-- The first k that are at most m; of r from k on those that are below it. -/
def leL (f : Nat → Int) (m : Int) : Nat → List Int
  | 0 => []
  | k + 1 => if f k ≤ m then leL f m k ++ [f k] else leL f m k
def ltL (f : Nat → Int) (m : Int) : Nat → Nat → List Int
  | _, 0 => []
  | k, r + 1 => if f k < m then f k :: ltL f m (k + 1) r else ltL f m (k + 1) r
def selL (f : Nat → Int) (m : Int) (k len : Nat) : List Int := leL f m k ++ ltL f m k (len - k)

theorem leL_len (f : Nat → Int) (m : Int) : ∀ k, (leL f m k).length = cnt f (m + 1) k
  | 0 => rfl
  | k + 1 => by
    unfold leL cnt
    by_cases h : f k ≤ m
    · rw [if_pos h, if_pos (by omega)]; simp [leL_len f m k]
    · rw [if_neg h, if_neg (by omega)]; simp [leL_len f m k]
theorem ins_mid (A B : List Int) (x : Int) (c : Nat) (h : A.length = c) : insL (A ++ B) c x = A ++ x :: B := by
  subst h; simp [insL]
theorem leL_succ (f : Nat → Int) (m : Int) (k : Nat) : leL f m (k + 1) = if f k ≤ m then leL f m k ++ [f k] else leL f m k := rfl
theorem ltL_succ (f : Nat → Int) (m : Int) (k r : Nat) : ltL f m k (r + 1) = if f k < m then f k :: ltL f m (k + 1) r else ltL f m (k + 1) r := rfl
theorem selL_step {f : Nat → Int} {m : Int} {k len : Nat} (hk : k < len) : selL f m (k + 1) len = if f k = m then insL (selL f m k len) (cnt f (m + 1) k) m else selL f m k len := by
  have e : len - k = (len - (k + 1)) + 1 := by omega
  unfold selL
  rw [e, leL_succ, ltL_succ]
  by_cases h : f k = m
  · rw [if_pos h, if_pos (by omega), if_neg (by omega), ins_mid _ _ _ _ (leL_len f m k), h]
    simp
  · rw [if_neg h]
    by_cases c : f k < m
    · rw [if_pos (by omega), if_pos c]; simp
    · rw [if_neg (by omega), if_neg c]
theorem le_lt {f : Nat → Int} {m : Int} {len : Nat} : ∀ k, k ≤ len → leL f m k ++ ltL f (m + 1) k (len - k) = ltL f (m + 1) 0 len
  | 0, _ => rfl
  | k + 1, hk => by
    rw [← le_lt k (by omega)]
    have e : len - k = (len - (k + 1)) + 1 := by omega
    rw [e]
    show (if f k ≤ m then leL f m k ++ [f k] else leL f m k) ++ ltL f (m + 1) (k + 1) (len - (k + 1)) = leL f m k ++ (if f k < m + 1 then f k :: ltL f (m + 1) (k + 1) (len - (k + 1)) else ltL f (m + 1) (k + 1) (len - (k + 1)))
    by_cases h : f k ≤ m
    · rw [if_pos h, if_pos (by omega)]; simp
    · rw [if_neg h, if_neg (by omega)]
theorem le_all {f : Nat → Int} {m : Int} {len : Nat} : leL f m len = ltL f (m + 1) 0 len := by
  have := le_lt (f := f) (m := m) (len := len) len (Nat.le_refl _)
  rw [Nat.sub_self] at this
  rw [← this]
  simp [ltL]
theorem ltL_congr {f : Nat → Int} {n m : Int} (hnm : n ≤ m) : ∀ (r k : Nat), (∀ i, k ≤ i → i < k + r → n ≤ f i → m ≤ f i) → ltL f n k r = ltL f m k r
  | 0, k, h => rfl
  | r + 1, k, h => by
    unfold ltL
    rw [ltL_congr hnm r (k + 1) (fun i h1 h2 => h i (by omega) (by omega))]
    by_cases c : f k < n
    · rw [if_pos c, if_pos (by omega)]
    · rw [if_neg c, if_neg (by have := h k (Nat.le_refl _) (by omega) (by omega); omega)]
theorem ltL_all {f : Nat → Int} {n : Int} : ∀ (r k : Nat), (∀ i, k ≤ i → i < k + r → f i < n) → (ltL f n k r).length = r ∧ ∀ i, i < r → (ltL f n k r).getD i 0 = f (k + i)
  | 0, k, h => ⟨rfl, fun i hi => absurd hi (Nat.not_lt_zero _)⟩
  | r + 1, k, h => by
    obtain ⟨h1, h2⟩ := ltL_all r (k + 1) (fun i a b => h i (by omega) (by omega))
    unfold ltL
    rw [if_pos (h k (Nat.le_refl _) (by omega))]
    refine ⟨by simp [h1], fun i hi => ?_⟩
    cases i with
    | zero => rfl
    | succ i =>
      have := h2 i (by omega)
      rw [show k + (i + 1) = k + 1 + i by omega, ← this]
      rfl
theorem near_lt (f : Nat → Int) (len : Nat) : nearL f len = ltL f 128 0 len := by
  have : ∀ k, nearL f k = leL f 127 k := by
    intro k
    induction k with
    | zero => rfl
    | succ k ih =>
      unfold nearL leL
      by_cases h : f k < 128
      · rw [if_pos h, if_pos (by omega), ih]
      · rw [if_neg h, if_neg (by omega), ih]
  rw [this, le_all]
  rfl

/-- What the reader has, as the writer goes on. -/
structure DI (f : Nat → Int) (len : Nat) (m : Int) (k : Nat) (s : PS) (L : List Int) (n pl : Int) : Prop where
  l : L = selL f m k len
  h : L.length = s.h
  pl0 : 0 ≤ pl
  pl1 : pl ≤ (L.length : Int)
  eq : n * ((s.h : Int) + 1) + pl + s.d = m * ((s.h : Int) + 1) + (cnt f (m + 1) k : Int)

/-- The text begins with what is told so far. -/
def Pre (g : Nat → Int) (N : Nat) (o : List Int) : Prop := o.length ≤ N ∧ ∀ j, j < o.length → g j = o.getD j 0
theorem Pre.of {g : Nat → Int} {N : Nat} {o r : List Int} (h : Pre g N (o ++ r)) : Pre g N o := by
  refine ⟨by have := h.1; simp at this; omega, fun j hj => ?_⟩
  rw [h.2 j (by simp; omega)]
  simp [List.getD_eq_getElem?_getD, List.getElem?_append_left hj]

theorem DI.step {g : Nat → Int} {N : Nat} {f : Nat → Int} {len basic k G : Nat} {m n pl : Int} {s : PS} {L : List Int} (hl : len ≤ 20) (hm0 : 128 ≤ m) (hm1 : m ≤ 1114111) (hk : k < len) (B : InB f len m k s) (I : DI f len m k s L n pl)
    (hp : Pre g N (pin basic m (f k) s).o) (hG : N - s.o.length < G) :
    ∃ G' L' n' pl', N - (pin basic m (f k) s).o.length < G' ∧ outM g N basic G L n pl s.b s.o.length = outM g N basic G' L' n' pl' (pin basic m (f k) s).b (pin basic m (f k) s).o.length ∧ DI f len m (k + 1) (pin basic m (f k) s) L' n' pl' := by
  have d0 := B.d0
  have d1 := B.d1
  have hh := B.h
  have il := I.l
  have ih := I.h
  have p0 := I.pl0
  have p1 := I.pl1
  have ie := I.eq
  have hs := selL_step (f := f) (m := m) (k := k) (len := len) hk
  have hc : cnt f (m + 1) k ≤ L.length := by rw [il, selL, List.length_append, leL_len]; exact Nat.le_add_right _ _
  have hcc := cnt_cntE_le f m len
  have hcm := cntE_mono f m (j := k + 1) (k := len) (by omega)
  unfold pin at hp ⊢
  by_cases e : f k = m
  · rw [if_pos e] at hp hs ⊢
    have hc1 : cntE f m (k + 1) = cntE f m k + 1 := by show cntE f m k + _ = _; rw [if_pos e]
    have hlen : (s.o ++ dgs s.b s.d).length ≤ N := hp.1
    have hdp : 0 < (dgs s.b s.d).length := by unfold dgs pdig; split <;> simp
    simp only [List.length_append] at hlen
    have hr : rdM g N s.b pl (N - s.o.length + 1) s.o.length 36 0 1 = some (0 + s.d * 1, s.o.length + (dgs s.b s.d).length) := by
      refine rdM_dgs p0 (by omega) (s.d.toNat + 1) s.d _ _ 36 0 1 d0 (by omega) PW.start (by omega) hlen (by omega) (fun j hj => ?_)
      rw [hp.2 (s.o.length + j) (by simp only [List.length_append]; exact Nat.add_lt_add_left hj _)]
      simp only [List.getD_eq_getElem?_getD]
      rw [List.getElem?_append_right (by omega), Nat.add_sub_cancel_left]
      rfl
    rw [Int.mul_one, Int.zero_add] at hr
    obtain ⟨G', hG', ho⟩ := outM_some (L := L) (n := n) (basic := basic) p0 hG (by omega) hr
    have hq : (pl + s.d) / ((L.length : Int) + 1) = m - n ∧ (pl + s.d) % ((L.length : Int) + 1) = (cnt f (m + 1) k : Int) := by
      refine (Int.ediv_emod_unique (by omega)).2 ⟨?_, by omega, by omega⟩
      rw [ih]
      have : ((s.h : Int) + 1) * (m - n) = m * ((s.h : Int) + 1) - n * ((s.h : Int) + 1) := by grind
      omega
    rw [hq.1, hq.2, if_neg (by omega), show n + (m - n) = m by omega, Int.toNat_natCast] at ho
    refine ⟨G', insL L (cnt f (m + 1) k) m, m, (cnt f (m + 1) k : Int) + 1, by simp only [List.length_append]; exact hG', ?_, ?_, ?_, by omega, ?_, ?_⟩
    · rw [ho]
      simp only [List.length_append]
      have e1 : ((L.length : Int) == (basic : Int)) = (s.h == basic) := by
        rw [ih]
        cases hx : (s.h == basic)
        · simp at hx ⊢; omega
        · simp at hx ⊢; omega
      rw [e1, ih]
    · rw [hs, il]
    · rw [insL_len hc]; show L.length + 1 = s.h + 1; omega
    · rw [insL_len hc]; omega
    · show m * (((s.h + 1 : Nat) : Int) + 1) + ((cnt f (m + 1) k : Int) + 1) + 0 = m * (((s.h + 1 : Nat) : Int) + 1) + _
      have : cnt f (m + 1) (k + 1) = cnt f (m + 1) k + 1 := by show cnt f (m + 1) k + _ = _; rw [if_pos (by omega)]
      rw [this]
      omega
  · rw [if_neg e] at hp hs ⊢
    by_cases c : f k < m
    · rw [if_pos c] at hp ⊢
      refine ⟨G, L, n, pl, hG, rfl, by rw [hs]; exact il, ih, p0, p1, ?_⟩
      have : cnt f (m + 1) (k + 1) = cnt f (m + 1) k + 1 := by show cnt f (m + 1) k + _ = _; rw [if_pos (by omega)]
      rw [this]
      simp only []
      omega
    · rw [if_neg c] at hp ⊢
      refine ⟨G, L, n, pl, hG, rfl, by rw [hs]; exact il, ih, p0, p1, ?_⟩
      have : cnt f (m + 1) (k + 1) = cnt f (m + 1) k := by show cnt f (m + 1) k + _ = _; rw [if_neg (by omega)]; rfl
      rw [this]
      exact ie

theorem pin_pre (basic : Nat) (m x : Int) (s : PS) (d0 : 0 ≤ s.d) : ∃ r, (pin basic m x s).o = s.o ++ r ∧ ∀ y, y ∈ r → y ≠ 45 ∧ 0 ≤ y ∧ y < 128 := by
  unfold pin
  split
  · exact ⟨dgs s.b s.d, rfl, fun y hy => pdig_is _ _ _ _ d0 y hy⟩
  · split
    · exact ⟨[], by simp, fun y hy => by cases hy⟩
    · exact ⟨[], by simp, fun y hy => by cases hy⟩

/-- A pass: what it tells, and that it is read. -/
theorem pass_pre {f : Nat → Int} {len basic : Nat} {m : Int} {s : PS} (hl : len ≤ 20) (hm0 : 128 ≤ m) (hm1 : m ≤ 1114111) (B : InB f len m 0 s) :
    ∀ k, k ≤ len → InB f len m k (pinF basic m f k s) ∧ ∃ r, (pinF basic m f k s).o = s.o ++ r ∧ ∀ y, y ∈ r → y ≠ 45 ∧ 0 ≤ y ∧ y < 128
  | 0, _ => ⟨B, [], by simp [pinF], fun y hy => by cases hy⟩
  | k + 1, hk => by
    obtain ⟨B', r, hr, hy⟩ := pass_pre hl hm0 hm1 B k (by omega)
    refine ⟨B'.step hm0 hm1 hl (by omega), ?_⟩
    obtain ⟨r2, h2, hy2⟩ := pin_pre basic m (f k) (pinF basic m f k s) B'.d0
    refine ⟨r ++ r2, ?_, fun y h => (List.mem_append.1 h).elim (hy y) (hy2 y)⟩
    show (pin basic m (f k) (pinF basic m f k s)).o = _
    rw [h2, hr, List.append_assoc]

theorem pass_read {g : Nat → Int} {N : Nat} {f : Nat → Int} {len basic G : Nat} {m n pl : Int} {s : PS} {L : List Int} (hl : len ≤ 20) (hm0 : 128 ≤ m) (hm1 : m ≤ 1114111) (B : InB f len m 0 s) (I : DI f len m 0 s L n pl) (hG : N - s.o.length < G) :
    ∀ k, k ≤ len → Pre g N (pinF basic m f k s).o → ∃ G' L' n' pl', N - (pinF basic m f k s).o.length < G' ∧ outM g N basic G L n pl s.b s.o.length = outM g N basic G' L' n' pl' (pinF basic m f k s).b (pinF basic m f k s).o.length ∧ DI f len m k (pinF basic m f k s) L' n' pl'
  | 0, _, _ => ⟨G, L, n, pl, hG, rfl, I⟩
  | k + 1, hk, hp => by
    have B' := (pass_pre (basic := basic) hl hm0 hm1 B k (by omega)).1
    have hp' : Pre g N (pin basic m (f k) (pinF basic m f k s)).o := hp
    obtain ⟨r2, h2, -⟩ := pin_pre basic m (f k) (pinF basic m f k s) B'.d0
    obtain ⟨G1, L1, n1, pl1, h1, e1, I1⟩ := pass_read hl hm0 hm1 B I hG k (by omega) (by rw [h2] at hp'; exact hp'.of)
    obtain ⟨G2, L2, n2, pl2, h3, e2, I2⟩ := I1.step hl hm0 hm1 (by omega) B' hp' h1
    exact ⟨G2, L2, n2, pl2, h3, e1.trans e2, I2⟩

/-- Between passes. -/
structure DJ (f : Nat → Int) (len : Nat) (n : Int) (s : PS) (L : List Int) (nd pl : Int) : Prop where
  l : L = ltL f n 0 len
  h : L.length = s.h
  pl0 : 0 ≤ pl
  pl1 : pl ≤ (L.length : Int)
  eq : nd * ((s.h : Int) + 1) + pl + s.d = n * ((s.h : Int) + 1)

theorem pout_pre {f : Nat → Int} {len basic : Nat} (hl : len ≤ 20) (hf : ∀ i, i < len → f i ≤ 1114111) : ∀ (F : Nat) (s : PS) (n : Int), OutB f len n s → ∃ r, pout basic len f F s n = s.o ++ r ∧ ∀ y, y ∈ r → y ≠ 45 ∧ 0 ≤ y ∧ y < 128
  | 0, s, n, B => ⟨[], by simp [pout], fun y hy => by cases hy⟩
  | F + 1, s, n, B => by
    by_cases hs : s.h < len
    · have hx : ∃ i, i < len ∧ n ≤ f i := cnt_some (by rw [← B.h]; exact hs)
      have hm := lst_spec (m := 1114112) hf (by omega) hx
      obtain ⟨h1, h2, h3, h4, h5, h6⟩ := B.into hl hs hf hm
      obtain ⟨B', r, hr, hy⟩ := pass_pre (basic := basic) hl h1 h2 h6 len (Nat.le_refl _)
      obtain ⟨r2, h7, hy2⟩ := pout_pre (basic := basic) hl hf F _ _ (B'.out hl h1 h2)
      refine ⟨r ++ r2, ?_, fun y h => (List.mem_append.1 h).elim (hy y) (hy2 y)⟩
      rw [pout, if_pos hs, h7]
      simp only []
      rw [hr, List.append_assoc]
    · exact ⟨[], by rw [pout, if_neg hs]; simp, fun y hy => by cases hy⟩

/-- All of it is read back. -/
theorem pout_read {g : Nat → Int} {N : Nat} {f : Nat → Int} {len basic : Nat} (hl : len ≤ 20) (hf : ∀ i, i < len → f i ≤ 1114111) : ∀ (F : Nat) (s : PS) (n : Int) (L : List Int) (nd pl : Int) (G : Nat), len - s.h ≤ F → OutB f len n s → DJ f len n s L nd pl →
      N = (pout basic len f F s n).length → Pre g N (pout basic len f F s n) → N - s.o.length < G →
      ∃ R, outM g N basic G L nd pl s.b s.o.length = some R ∧ R.length = len ∧ ∀ i, i < len → R.getD i 0 = f i := by
  intro F
  induction F with
  | zero =>
    intro s n L nd pl G hF B J hN hp hG
    have hs : s.h = len := by have := B.h; have := cnt_le f n len; omega
    have e : N = s.o.length := hN
    refine ⟨L, outM_end hG (by omega), ?_⟩
    rw [J.l]
    have ha := ltL_all (f := f) (n := n) len 0 (fun i _ hi => cnt_all (by rw [← B.h]; exact hs) i (by omega))
    exact ⟨ha.1, fun i hi => by have := ha.2 i hi; rwa [Nat.zero_add] at this⟩
  | succ F ih =>
    intro s n L nd pl G hF B J hN hp hG
    by_cases hs : s.h < len
    · have hx : ∃ i, i < len ∧ n ≤ f i := cnt_some (by rw [← B.h]; exact hs)
      have hm := lst_spec (m := 1114112) hf (by omega) hx
      obtain ⟨h1, h2, h3, h4, h5, h6⟩ := B.into hl hs hf hm
      rw [pout, if_pos hs] at hN hp
      generalize lst f n 1114112 len = m at *
      obtain ⟨B', r, hr, hy⟩ := pass_pre (basic := basic) hl h1 h2 h6 len (Nat.le_refl _)
      have I0 : DI f len m 0 ⟨s.h, s.d + (m - n) * ((s.h : Int) + 1), s.b, s.o⟩ L nd pl := by
        refine ⟨?_, J.h, J.pl0, J.pl1, ?_⟩
        · rw [J.l]
          show _ = [] ++ ltL f m 0 (len - 0)
          rw [List.nil_append, Nat.sub_zero]
          exact ltL_congr h3 len 0 (fun i _ hi h => hm.gap i (by omega) h)
        · have := J.eq
          simp only [cnt]
          have e : (m - n) * ((s.h : Int) + 1) = m * ((s.h : Int) + 1) - n * ((s.h : Int) + 1) := by grind
          rw [e]
          omega
      have hc1 := cntE_pos hm.at'.choose_spec.1 hm.at'.choose_spec.2
      have hgap := cnt_gap h3 hm.gap
      have hbh := B.h
      have hO := B'.out hl h1 h2
      obtain ⟨r2, h7, -⟩ := pout_pre (basic := basic) hl hf F _ _ hO
      have hpp : Pre g N (pinF basic m f len ⟨s.h, s.d + (m - n) * ((s.h : Int) + 1), s.b, s.o⟩).o := by
        rw [h7] at hp
        exact hp.of
      obtain ⟨G1, L1, n1, pl1, k1, k2, I1⟩ := pass_read (basic := basic) hl h1 h2 h6 I0 hG len (Nat.le_refl _) hpp
      generalize pinF basic m f len ⟨s.h, s.d + (m - n) * ((s.h : Int) + 1), s.b, s.o⟩ = s2 at *
      have hL1 : L1 = leL f m len := by rw [I1.l, selL, Nat.sub_self]; simp [ltL]
      have hL2 := leL_len f m len
      rw [← hL1, I1.h] at hL2
      have J1 : DJ f len (m + 1) ⟨s2.h, s2.d + 1, s2.b, s2.o⟩ L1 n1 pl1 := by
        refine ⟨by rw [hL1, le_all], I1.h, I1.pl0, I1.pl1, ?_⟩
        have := I1.eq
        simp only []
        have e : (m + 1) * ((s2.h : Int) + 1) = m * ((s2.h : Int) + 1) + (s2.h : Int) + 1 := by grind
        rw [e]
        omega
      obtain ⟨R, hR, hR1⟩ := ih ⟨s2.h, s2.d + 1, s2.b, s2.o⟩ (m + 1) L1 n1 pl1 G1 (by have := B'.h; simp only []; omega) hO J1 hN hp k1
      exact ⟨R, k2.trans hR, hR1⟩
    · have hs' : s.h = len := by have := B.h; have := cnt_le f n len; omega
      have e : N = s.o.length := by rw [hN, pout, if_neg hs]
      refine ⟨L, outM_end hG (by omega), ?_⟩
      rw [J.l]
      have ha := ltL_all (f := f) (n := n) len 0 (fun i _ hi => cnt_all (by rw [← B.h]; exact hs') i (by omega))
      exact ⟨ha.1, fun i hi => by have := ha.2 i hi; rwa [Nat.zero_add] at this⟩

end Go.Proofs.Ytjpdllhhganbpaa
