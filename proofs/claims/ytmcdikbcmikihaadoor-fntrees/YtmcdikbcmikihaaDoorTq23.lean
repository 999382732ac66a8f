/- A tree that is drawn is a right one; parts of right trees; in plain numbers. What is written of a tree is bytes; in plain numbers. Walks: the library's iterator slices.Backward over items, for a caller that makes memory of its own in a round. Plain facts: an item's bytes don't turn on how deep one may go; the chain of trees behind a place. Plain facts: the bytes of a tree are those of its items, one behind the other; what the program's backward walk keeps. -/
import Derived.Test.YtmcdikbcmikihaaDoorTq09
import Derived.Test.YtmcdikbcmikihaaDoorTq15
import Derived.Test.YtmcdikbcmikihaaDoorTq22
import Derived.Test.YtmcdikbcmikihaaDoorTq02
import Derived.Test.YtmcdikbcmikihaaDoorTq10
import Derived.Test.YtmcdikbcmikihaaDoorTq12
namespace Go.Proofs.YtmcdikbcmikihaaDoor

section
set_option linter.unusedVariables false
set_option linter.unusedSimpArgs false

/-- The items from place q on are these. -/
def AtX (x : Nat → It) (q : Nat) (M : List It) : Prop := ∀ j t, M[j]? = some t → x (q + j) = t

theorem AtX.left {x : Nat → It} {q : Nat} {A B : List It} (h : AtX x q (A ++ B)) : AtX x q A := fun j c hj => h j c (by rw [List.getElem?_append_left (List.getElem?_eq_some_iff.1 hj).1]; exact hj)

theorem AtX.right {x : Nat → It} {q : Nat} {A B : List It} (h : AtX x q (A ++ B)) : AtX x (q + A.length) B := fun j c hj => by
  have := h (A.length + j) c (by rw [List.getElem?_append_right (by omega), Nat.add_sub_cancel_left]; exact hj)
  rwa [← Nat.add_assoc] at this

theorem AtX.tail {x : Nat → It} {q : Nat} {c0 : It} {B : List It} (h : AtX x q (c0 :: B)) : x q = c0 ∧ AtX x (q + 1) B := ⟨h 0 c0 rfl, fun j c hj => by
  have := h (j + 1) c (by simpa using hj)
  rwa [show q + 1 + j = q + (j + 1) by omega]⟩

theorem isF_end {x : Nat → It} {n m d : Nat} (ih : ∀ M, IsT d M → ∀ q, AtX x q M → q + M.length ≤ n → endF (fun j => (x j).kid) n m q = ((q + M.length : Nat) : Int)) :
    ∀ (Ms : List (List It)) (q : Nat), (∀ X ∈ Ms, IsT d X) → AtX x q Ms.flatten → q + Ms.flatten.length ≤ n → kidsF (endF (fun j => (x j).kid) n m) Ms.length (q : Int) = ((q + Ms.flatten.length : Nat) : Int)
  | [], q, _, _, _ => by simp [kidsF]
  | X :: Ms, q, hX, hA, hn => by
    rw [List.flatten_cons] at hA hn ⊢
    rw [List.length_append] at hn ⊢
    rw [List.length_cons, kidsF_front _ (fun i => (endF_range _ n m i).1), ih X (hX X (List.mem_cons.2 (.inl rfl))) q hA.left (by omega), isF_end ih Ms (q + X.length) (fun Y hY => hX Y (List.mem_cons.2 (.inr hY))) hA.right (by omega), Nat.add_assoc]

theorem isT_end {x : Nat → It} {n : Nat} : ∀ (d : Nat) (M : List It), IsT d M → ∀ (m q : Nat), AtX x q M → q + M.length ≤ n → d < m → endF (fun j => (x j).kid) n m q = ((q + M.length : Nat) : Int) := by
  have leaf : ∀ (t : It) (m q : Nat), Lfy t → AtX x q [t] → q + 1 ≤ n → 0 < m → endF (fun j => (x j).kid) n m q = ((q + 1 : Nat) : Int) := by
    intro t m q ht hA hq hm
    obtain ⟨m, rfl⟩ : ∃ m', m = m' + 1 := ⟨m - 1, by omega⟩
    have h := (AtX.tail hA).1
    rw [endF, if_neg (by omega)]
    show kidsF _ (x q).kid.toNat ((q : Int) + 1) = _
    rw [h, ht.1]
    rfl
  intro d
  induction d with
  | zero =>
    rintro M ⟨t, rfl, ht⟩ m q hA hn hd
    exact leaf t m q ht hA hn hd
  | succ d ih =>
    intro M hM m q hA hn hd
    rcases hM with ⟨t, rfl, ht⟩ | ⟨tag, Ms, htag, h3, rfl, hX⟩
    · exact leaf t m q ht hA hn (by omega)
    · obtain ⟨m, rfl⟩ : ∃ m', m = m' + 1 := ⟨m - 1, by omega⟩
      obtain ⟨h1, h2⟩ := AtX.tail hA
      rw [List.length_cons] at hn ⊢
      have k := isF_end (fun M hM q hA hn => ih M hM m q hA hn (by omega)) Ms (q + 1) hX h2 (by omega)
      rw [endF, if_neg (by omega)]
      show kidsF _ (x q).kid.toNat ((q : Int) + 1) = _
      rw [h1]
      show kidsF _ ((Ms.length : Int)).toNat ((q : Int) + 1) = _
      rw [Int.toNat_natCast, show ((q : Int) + 1) = ((q + 1 : Nat) : Int) from rfl, k]
      omega

theorem isT_mem : ∀ (d : Nat) (M : List It), IsT d M → ∀ t ∈ M, Lfy t ∨ ∃ (tag : Int) (kd : Nat), tag ∈ ([48, 49, 160, 163] : List Int) ∧ kd ≤ 3 ∧ t = bare tag kd
  | 0, M, h, t, ht => by
    obtain ⟨s, rfl, hs⟩ := h
    rw [List.mem_singleton.1 ht]
    exact .inl hs
  | d + 1, M, h, t, ht => by
    rcases h with ⟨s, rfl, hs⟩ | ⟨tag, Ms, htag, h3, rfl, hX⟩
    · rw [List.mem_singleton.1 ht]
      exact .inl hs
    · rcases List.mem_cons.1 ht with rfl | ht
      · exact .inr ⟨tag, Ms.length, htag, h3, rfl⟩
      · obtain ⟨X, h1, h2⟩ := List.mem_flatten.1 ht
        exact isT_mem d X (hX X h1) t h2

theorem lfy_good {t : It} (h : Lfy t) : itGood t := by
  obtain ⟨h1, h2, -⟩ := h
  unfold itGood
  rw [h1]
  simp only [List.mem_cons, List.not_mem_nil, or_false] at h2
  omega

theorem bare_good {tag : Int} {kd : Nat} (h : tag ∈ ([48, 49, 160, 163] : List Int)) (hk : kd ≤ 3) : itGood (bare tag kd) := by
  simp only [List.mem_cons, List.not_mem_nil, or_false] at h
  refine ⟨?_, ?_, ?_, ?_, ?_, fun _ => rfl, ?_⟩
  · show 0 ≤ tag; omega
  · show tag ≤ 255; omega
  · show tag % 32 ≠ 31; omega
  · show (0 : Int) ≤ kd; omega
  · show (kd : Int) ≤ 300; omega
  · show tag / 32 % 2 ≠ 1 → _; omega

/-- A drawn tree is right, its bodies are small. -/
theorem isT_tree {d : Nat} {M : List It} (h : IsT d M) (hd : d ≤ 3) (h0 : 0 < M.length) (h1 : M.length ≤ 300) : treeV (fun i => M.getD i dI) M.length = true ∧ ∀ t ∈ M, t.len ≤ 256 := by
  refine ⟨?_, fun t ht => ?_⟩
  · unfold treeV
    rw [decide_eq_true_eq]
    refine ⟨h0, h1, fun i hi => ?_, ?_⟩
    · have hm : M.getD i dI ∈ M := by
        rw [List.getD_eq_getElem?_getD, List.getElem?_eq_getElem hi]
        exact List.getElem_mem hi
      rcases isT_mem d M h _ hm with h2 | ⟨tag, kd, h2, h3, h4⟩
      · exact lfy_good h2
      · show itGood (M.getD i dI)
        rw [h4]
        exact bare_good h2 h3
    · have := isT_end (x := fun i => M.getD i dI) (n := M.length) d M h 13 0 (fun j t hj => by
        show M.getD (0 + j) dI = t
        rw [Nat.zero_add, List.getD_eq_getElem?_getD, hj]
        rfl) (by omega) (by omega)
      rw [Nat.zero_add] at this
      exact this
  · rcases isT_mem d M h t ht with h2 | ⟨tag, kd, h2, h3, h4⟩
    · exact h2.2.2
    · rw [h4]
      exact Nat.zero_le _

/-- Where the bytes are too many there are more than three items. -/
theorem few_bytes {x : Nat → It} {n : Nat} (ht : treeV x n = true) (hl : ∀ i, i < n → (x i).len ≤ 256) (hw : wdB x n = false) : 3 < n := by
  by_cases h : 3 < n
  · exact h
  · exfalso
    have ht2 := ht
    unfold treeV at ht2
    rw [decide_eq_true_eq] at ht2
    obtain ⟨-, b⟩ := (wrF_bounds x n (fun i hi => by have := hl i hi; omega) (by omega) 13 0 n ht2.2.2.2).2
    rw [Nat.sub_zero] at b
    have hs : ∀ c, c ≤ n → smL x 0 c ≤ 256 * c := fun c => by
      induction c with
      | zero => intro _; exact Nat.le_refl _
      | succ c ih =>
        intro hc
        have h1 := ih (by omega)
        have h2 := hl (0 + c) (by omega)
        rw [smL]
        omega
    have h3 := hs n (Nat.le_refl _)
    have : wdB x n = true := by
      unfold wdB
      rw [ht, Bool.true_and, decide_eq_true_eq]
      omega
    rw [this] at hw
    cases hw

/-- Places shifted. -/
theorem kidsF_shift {E E' : Nat → Int} {s N : Nat} (hE : ∀ i, -1 ≤ E i) (hE' : ∀ i, -1 ≤ E' i) (hfar : ∀ i, 0 ≤ E i → (i : Int) + 1 ≤ E i)
    (h : ∀ j e : Nat, E (s + j) = (e : Int) → e ≤ s + N → E' j = ((e - s : Nat) : Int)) : ∀ (K t e : Nat), kidsF E K ((s + t : Nat) : Int) = (e : Int) → e ≤ s + N → kidsF E' K (t : Int) = ((e - s : Nat) : Int) ∧ s + t ≤ e
  | 0, t, e, h1, h2 => by
    have h3 : ((s + t : Nat) : Int) = (e : Int) := h1
    have h4 : s + t = e := by omega
    refine ⟨?_, by omega⟩
    show (t : Int) = ((e - s : Nat) : Int)
    rw [← h4, Nat.add_sub_cancel_left]
  | K + 1, t, e, h1, h2 => by
    rw [kidsF_front E hE] at h1
    have hq : 0 ≤ E (s + t) := by
      by_cases c : 0 ≤ E (s + t)
      · exact c
      · have := hE (s + t)
        rw [show E (s + t) = -1 by omega, kidsF_minus] at h1
        omega
    obtain ⟨e1, he⟩ := nat_of hq
    have hf := hfar _ hq
    rw [he] at h1 hf
    obtain ⟨t1, ht1⟩ : ∃ t1, e1 = s + t1 := ⟨e1 - s, by omega⟩
    rw [ht1] at h1
    obtain ⟨k1, k2⟩ := kidsF_shift hE hE' hfar h K t1 e h1 h2
    have k3 := h t e1 he (by omega)
    rw [kidsF_front E' hE', k3, show e1 - s = t1 by omega]
    exact ⟨k1, by omega⟩

theorem endF_shift (kid : Nat → Int) (n s N : Nat) : ∀ (m j e : Nat), endF kid n m (s + j) = (e : Int) → e ≤ s + N → endF (fun i => kid (s + i)) N m j = ((e - s : Nat) : Int)
  | 0, j, e, h, _ => by simp [endF] at h
  | m + 1, j, e, h, he => by
    have hf := endF_far kid n (m + 1) (s + j) (by omega)
    rw [endF] at h
    by_cases c : n ≤ s + j
    · rw [if_pos c] at h; omega
    · rw [if_neg c] at h
      have hf2 : ((s + j : Nat) : Int) + 1 ≤ e := by
        have : endF kid n (m + 1) (s + j) = e := by rw [endF, if_neg c]; exact h
        rw [this] at hf
        exact hf
      rw [endF, if_neg (by omega)]
      have k := (kidsF_shift (E := endF kid n m) (E' := endF (fun i => kid (s + i)) N m) (s := s) (N := N) (fun i => (endF_range kid n m i).1) (fun i => (endF_range _ N m i).1) (fun i hi => endF_far kid n m i hi) (fun j e h1 h2 => endF_shift kid n s N m j e h1 h2) (kid (s + j)).toNat (j + 1) e (by rw [show ((s + (j + 1) : Nat) : Int) = ((s + j : Nat) : Int) + 1 from rfl]; exact h) he).1
      exact k

/-- A part of a right tree is a right tree. -/
theorem part_tree {x y : Nat → It} {n i e : Nat} (ht : treeV x n = true) (hi : i < n) (he : endF (fun j => (x j).kid) n 13 i = (e : Int)) (hy : SameI y x i (e - i)) : treeV y (e - i) = true := by
  have hg := tree_good ht
  have hfar := endF_far _ n 13 i (by rw [he]; omega)
  have hr := (endF_range (fun j => (x j).kid) n 13 i).2
  rw [he] at hfar hr
  unfold treeV
  rw [decide_eq_true_eq]
  refine ⟨by omega, by omega, fun j hj => ?_, ?_⟩
  · obtain ⟨h1, h2, h3, -⟩ := hy j hj
    have := hg.2.2 (i + j) (by omega)
    unfold itGood at this ⊢
    rw [h1, h2, h3]
    exact this
  · have k := endF_shift (fun j => (x j).kid) n i (e - i) 13 0 e he (by omega)
    have c : ∀ (m : Nat) (j : Nat), endF (fun j => (y j).kid) (e - i) m j = endF (fun j => (x (i + j)).kid) (e - i) m j := by
      intro m
      induction m with
      | zero => intro j; rfl
      | succ m ih =>
        intro j
        rw [endF, endF]
        by_cases c : e - i ≤ j
        · rw [if_pos c, if_pos c]
        · rw [if_neg c, if_neg c, show endF (fun j => (y j).kid) (e - i) m = endF (fun j => (x (i + j)).kid) (e - i) m from funext ih]
          rw [(hy j (by omega)).2.1]
    rw [c, k]

/-- The places of the kids, one by one. -/
theorem kpF_at {f : Nat → Int} (hf : ∀ i, -1 ≤ f i) : ∀ (K s : Nat), 0 ≤ kidsF f K (s : Int) → kpF f K s = (List.range K).map (fun i => (kidsF f i (s : Int)).toNat)
  | 0, s, _ => rfl
  | K + 1, s, h => by
    rw [kidsF_front f hf] at h
    have hq : 0 ≤ f s := by
      by_cases c : 0 ≤ f s
      · exact c
      · have := hf s
        rw [show f s = -1 by omega, kidsF_minus] at h
        omega
    obtain ⟨e, he⟩ := nat_of hq
    rw [he] at h
    rw [kpF, he, Int.toNat_natCast, kpF_at hf K e h, List.range_succ_eq_map, List.map_cons, List.map_map]
    congr 1
    apply List.map_congr_left
    intro i _
    show (kidsF f i (e : Int)).toNat = (kidsF f (i + 1) (s : Int)).toNat
    rw [kidsF_front f hf, he]

/-- What Children and Part tell of a right tree's kids. -/
theorem kids_all {x : Nat → It} {n : Nat} (ht : treeV x n = true) :
    ∃ pl : Nat → Nat, pl 0 = 1 ∧ pl (x 0).kid.toNat = n ∧ (∀ i, i < (x 0).kid.toNat → pl i < n ∧ endF (fun j => (x j).kid) n 13 (pl i) = (pl (i + 1) : Int) ∧ pl i < pl (i + 1) ∧ pl (i + 1) ≤ n) ∧
      kpF (endF (fun j => (x j).kid) n 13) (x 0).kid.toNat 1 = (List.range (x 0).kid.toNat).map pl := by
  have ht2 := ht
  unfold treeV at ht2
  rw [decide_eq_true_eq] at ht2
  obtain ⟨h1, h2, h3, h4⟩ := ht2
  rw [endF, if_neg (by omega)] at h4
  have h5 : kidsF (endF (fun j => (x j).kid) n 12) (x 0).kid.toNat ((1 : Nat) : Int) = n := h4
  obtain ⟨E, hE⟩ : ∃ E, endF (fun j => (x j).kid) n 13 = E := ⟨_, rfl⟩
  have hEr : ∀ i, -1 ≤ E i ∧ E i ≤ n := fun i => by rw [← hE]; exact endF_range _ n 13 i
  have hEf : ∀ i, 0 ≤ E i → (i : Int) + 1 ≤ E i := fun i hi => by rw [← hE] at hi ⊢; exact endF_far _ n 13 i hi
  have h6 : kidsF E (x 0).kid.toNat ((1 : Nat) : Int) = n := by
    rw [kidsF_mono (f := endF (fun j => (x j).kid) n 12) (g := E) (fun i hi => by rw [← hE]; exact endF_mono _ n 12 i hi) _ _ (by rw [h5]; omega)]
    exact h5
  rw [hE]
  generalize (x 0).kid.toNat = K at h6 ⊢
  have pre : ∀ i, i ≤ K → 0 ≤ kidsF E i ((1 : Nat) : Int) := fun i hi => by
    obtain ⟨c, rfl⟩ : ∃ c, K = i + c := ⟨K - i, by omega⟩
    clear hi
    induction c with
    | zero => rw [show kidsF E i ((1 : Nat) : Int) = n from h6]; omega
    | succ c ih =>
      by_cases hc : 0 ≤ kidsF E i ((1 : Nat) : Int)
      · exact hc
      · exfalso
        have neg : ∀ c, kidsF E (i + c) ((1 : Nat) : Int) < 0 := fun c => by
          induction c with
          | zero => exact Int.not_le.1 hc
          | succ c ih2 => rw [← Nat.add_assoc, kidsF, if_pos ih2]; decide
        have := neg (c + 1)
        rw [h6] at this
        omega
  have step : ∀ i, i < K → E (kidsF E i ((1 : Nat) : Int)).toNat = kidsF E (i + 1) ((1 : Nat) : Int) := fun i hi => by
    rw [kidsF, if_neg (by have := pre i (by omega); omega)]
  refine ⟨fun i => (kidsF E i ((1 : Nat) : Int)).toNat, rfl, by show (kidsF E K ((1 : Nat) : Int)).toNat = n; rw [h6]; rfl, fun i hi => ?_, kpF_at (fun i => (hEr i).1) K 1 (pre K (Nat.le_refl _))⟩
  have a := pre i (by omega)
  have b := pre (i + 1) (by omega)
  have c := step i hi
  have d := hEf (kidsF E i ((1 : Nat) : Int)).toNat (by rw [c]; exact b)
  have e := (hEr (kidsF E i ((1 : Nat) : Int)).toNat).2
  rw [c] at d e
  show (kidsF E i ((1 : Nat) : Int)).toNat < n ∧ E (kidsF E i ((1 : Nat) : Int)).toNat = ((kidsF E (i + 1) ((1 : Nat) : Int)).toNat : Int) ∧ (kidsF E i ((1 : Nat) : Int)).toNat < (kidsF E (i + 1) ((1 : Nat) : Int)).toNat ∧ (kidsF E (i + 1) ((1 : Nat) : Int)).toNat ≤ n
  refine ⟨by omega, by rw [c]; omega, by omega, by omega⟩
end

section
set_option linter.unusedVariables false
set_option linter.unusedSimpArgs false

theorem lgL_rng {L : Nat} (hL : L < 65536) : ∀ b ∈ lgL L, 0 ≤ b ∧ b < 256 := by
  intro b hb
  unfold lgL at hb
  rw [List.mem_map] at hb
  obtain ⟨j, hj, rfl⟩ := hb
  rw [List.mem_range] at hj
  by_cases c1 : (L : Int) < 128
  · obtain ⟨g1, g2⟩ := lg_low c1
    rw [g1] at hj
    rw [g2 j hj]
    omega
  · by_cases c2 : (L : Int) < 256
    · obtain ⟨g1, g2, g3⟩ := lg_mid (by omega) c2
      rw [g1] at hj
      have h : j = 0 ∨ j = 1 := by omega
      rcases h with rfl | rfl
      · rw [g2]; decide
      · rw [g3]; omega
    · obtain ⟨g1, g2, g3, g4⟩ := lg_high (n := (L : Int)) (by omega) (by omega)
      rw [g1] at hj
      have h : j = 0 ∨ j = 1 ∨ j = 2 := by omega
      rcases h with rfl | rfl | rfl
      · rw [g2]; decide
      · rw [g3]; omega
      · rw [g4]; omega

theorem wrB_rng {G : Nat → List Int} {E : Nat → Int} {s : Int} {N : Nat} (h : ∀ q, 0 ≤ E q → (G q).length ≤ N → ∀ b ∈ G q, 0 ≤ b ∧ b < 256) : ∀ c, 0 ≤ kidsF E c s → (wrB G E s c).length ≤ N → ∀ b ∈ wrB G E s c, 0 ≤ b ∧ b < 256
  | 0, _, _, b, hb => by simp [wrB] at hb
  | c + 1, h0, hl, b, hb => by
    rw [kidsF] at h0
    by_cases hc : kidsF E c s < 0
    · rw [if_pos hc] at h0; omega
    · rw [if_neg hc] at h0
      rw [wrB, List.length_append] at hl
      rw [wrB] at hb
      rcases List.mem_append.1 hb with hb | hb
      · exact wrB_rng h c (by omega) (by omega) b hb
      · exact h _ h0 (by omega) b hb

theorem wrF_rng (x : Nat → It) (n : Nat) (hx : ∀ i, i < n → 0 ≤ (x i).tag ∧ (x i).tag ≤ 255) (hr : ∀ i, i < n → ∀ j, j < (x i).len → 0 ≤ (x i).f j ∧ (x i).f j < 256) : ∀ m i, 0 ≤ endF (fun j => (x j).kid) n m i → (wrF x n m i).length ≤ 65535 → ∀ b ∈ wrF x n m i, 0 ≤ b ∧ b < 256
  | 0, i, h, _, _, _ => by simp [endF] at h
  | m + 1, i, h, hl, b, hb => by
    have hi : i < n := endF_lt h
    rw [endF, if_neg (by omega)] at h
    rw [wrF, List.length_cons, List.length_append] at hl
    rw [wrF] at hb
    rcases List.mem_cons.1 hb with rfl | hb
    · have := hx i hi; omega
    · rcases List.mem_append.1 hb with hb | hb
      · exact lgL_rng (by omega) b hb
      · rw [List.length_append] at hl
        rcases List.mem_append.1 hb with hb | hb
        · unfold boL at hb
          rw [List.mem_map] at hb
          obtain ⟨j, hj, rfl⟩ := hb
          exact hr i hi j (List.mem_range.1 hj)
        · exact wrB_rng (N := 65535) (fun q h1 h2 => wrF_rng x n hx hr m q h1 h2) _ h (by omega) b hb

/-- What is written is bytes. -/
theorem wdL_rng (x : Nat → It) (n : Nat) (hr : ∀ i, i < n → ∀ j, j < (x i).len → 0 ≤ (x i).f j ∧ (x i).f j < 256) : (wdL x n).length ≤ 4000 ∧ ∀ b ∈ wdL x n, 0 ≤ b ∧ b < 256 := by
  unfold wdL
  cases hw : wdB x n
  · exact ⟨Nat.zero_le _, fun b hb => absurd hb List.not_mem_nil⟩
  · rw [if_pos rfl]
    unfold wdB at hw
    rw [Bool.and_eq_true, decide_eq_true_eq] at hw
    obtain ⟨ht, hl⟩ := hw
    have hg := (tree_good ht).2.2
    unfold treeV at ht
    rw [decide_eq_true_eq] at ht
    exact ⟨hl, wrF_rng x n (fun i hi => ⟨(hg i hi).1, (hg i hi).2.1⟩) hr 13 0 (by rw [ht.2.2.2]; omega) (by omega)⟩

/-- As a function of places. -/
def byG (B : List Int) (i : Nat) : Int := B.getD i 0

theorem bl_byG (B : List Int) : bl B = byts (byG B) B.length := by
  unfold bl byts byG
  refine List.ext_getElem (by simp) (fun i h1 h2 => ?_)
  simp only [List.length_map] at h1
  simp [h1]

theorem byF_byG (B : List Int) : byF (byG B) 0 B.length = B := by
  unfold byF byG
  refine List.ext_getElem (by simp) (fun i h1 h2 => ?_)
  simp [h2]

theorem byG_rng {B : List Int} (h : ∀ b ∈ B, 0 ≤ b ∧ b < 256) : ∀ i, i < B.length → 0 ≤ byG B i ∧ byG B i < 256 := fun i hi => by
  unfold byG
  rw [List.getD_eq_getElem?_getD, List.getElem?_eq_getElem hi]
  exact h _ (List.getElem_mem hi)
end

section
set_option linter.unusedVariables false
set_option linter.unusedSimpArgs false

open Go.RowKit Go.Shelf

attribute [local go_sem] Oper.semAt_some

abbrev Ix (m : Nat) := { i : Nat // i < m }

def encI (x : Nat → It) {m : Nat} (p : Ix m) : Array Value := #[.int .i64 (p.1 : Int), .agg #[.int .i64 (x p.1).tag, .slice (x p.1).ad (x p.1).len (x p.1).cap, .int .i64 (x p.1).kid]]

def XC (CL b : Nat) (k : Nat) : Prop := k = CL ∨ k = b

set_option maxHeartbeats 6400000 in
set_option maxRecDepth 100000 in
theorem back1_inV (n : Nat) (hn1 : 1 ≤ n) (m CL b off cap : Nat) (x : Nat → It) (w0 : World) (hm : m ≤ 1048576) (hm0 : 0 < m) (hCL : w0.cell? ⟨CL, 0, none⟩ = some (.slice (some ⟨b, off, none⟩) m cap)) (hI : ISeg w0 (some ⟨b, off, none⟩) b off m x) :
    TellsV (α := Ix m) n Tryd.prog 64 #[.pointer (some ⟨CL, 0, none⟩)] (encI x) (fun pre y => pre.length + y.1 + 1 = m) (fun xs => xs.map (·.1) = (List.range m).reverse) (fun pre => pre.map (·.1) <+: (List.range m).reverse) m (XC CL b) w0 := by
  intro l J Jx W hW hJ hJx hY h0
  have lt2 : CL < w0.heap.size := World.block_lt_of_cell? _ _ hCL
  have lt3 : b < w0.heap.size := hI.lt hm0
  have hCW : W.cell? ⟨CL, 0, none⟩ = some (.slice (some ⟨b, off, none⟩) m cap) := (hW.cell (p := ⟨CL, 0, none⟩) lt2).trans hCL
  refine callsIn_of_wp Tryd.func64 rfl trivial ?_ rfl
  simp only [Tryd.ntmps64, List.size_toArray, List.length_cons, List.length_nil, Nat.reduceAdd, Nat.reduceSub, Array.replicate_succ, Array.replicate_zero, List.push_toArray, List.append_toArray, List.nil_append, List.cons_append]
  have hw1 : wrap64 ((m : Int) - 1) = (m : Int) - 1 := by unfold wrap64; omega
  gi_wp2
  have HK2 : Hid (∀ wr : World, (∀ k, XC CL b k → wr.heap[k]? = W.heap[k]?) → wr.cell? ⟨CL, 0, none⟩ = some (.slice (some ⟨b, off, none⟩) m cap) ∧ (∀ i, i < m → wr.cell? ⟨b, off + i * 3, none⟩ = some (.int .i64 (x i).tag) ∧ wr.cell? ⟨b, off + i * 3 + 1, none⟩ = some (.slice (x i).ad (x i).len (x i).cap) ∧ wr.cell? ⟨b, off + i * 3 + 2, none⟩ = some (.int .i64 (x i).kid))) := by
    intro wr hr
    have hbk : wr.heap[b]? = w0.heap[b]? := (hr b (.inr rfl)).trans (hW.block b lt3)
    refine ⟨?_, fun i hi => ⟨?_, ?_, ?_⟩⟩
    · rw [World.cell?_of_block (a := ⟨CL, 0, none⟩) (hr CL (.inl rfl))]
      exact hCW
    · exact (World.cell?_of_block (a := ⟨b, off + i * 3, none⟩) hbk).trans (hI.c0 i hi)
    · exact (World.cell?_of_block (a := ⟨b, off + i * 3 + 1, none⟩) hbk).trans (hI.c1 i hi)
    · exact (World.cell?_of_block (a := ⟨b, off + i * 3 + 2, none⟩) hbk).trans (hI.c2 i hi)
  have HXl : Hid (∀ k, XC CL b k → k < W.heap.size) := fun k hk => by have := hW.size; rcases hk with h | h <;> omega
  clear hw1
  gi_loopw [3] (fun p wr => ∃ (i : Nat) (pre : List (Ix m)) (O : Nat → Prop), i ≤ m ∧ p = .int .i64 ((i : Int) - 1) ∧ pre.map (·.1) ++ (List.range i).reverse = (List.range m).reverse ∧ pre.length + i = m ∧ J O pre wr ∧ W.heap.size ≤ wr.heap.size ∧ (∀ k, XC CL b k → wr.heap[k]? = W.heap[k]?) ∧ (∀ k, O k → W.heap.size ≤ k ∧ k < wr.heap.size)) (fun p _ => (intOf p + 1).toNat)
  case atStart => exact ⟨m, [], fun _ => False, Nat.le_refl _, rfl, rfl, by simp, h0, Nat.le_refl _, fun _ _ => rfl, fun _ h => h.elim⟩
  case round =>
    obtain ⟨i, pre, O, him, rfl, hT, hpi, hJp, hsz, hrd, hOk⟩ := hrel
    obtain ⟨cl, ci⟩ := HK2.out wr hrd
    have HOk := hide hOk
    have HT := hide hT
    have Hrd := hide hrd
    have Hpi := hide hpi
    clear hOk hT hrd hpi
    by_cases h0i : 0 < i
    · obtain ⟨j, rfl⟩ : ∃ j, i = j + 1 := ⟨i - 1, by omega⟩
      have hj : j < m := by omega
      have hj' : (j : Int) < (m : Int) := by omega
      rw [show (((j + 1 : Nat) : Int) - 1) = (j : Int) by omega]
      obtain ⟨c0, c1, c2⟩ := ci j hj
      obtain ⟨fn, tmps, assign, body, hy, hR⟩ := hY O pre ⟨j, hj⟩ wr hJp (by have := Hpi.out; show pre.length + j + 1 = m; omega) HOk.out hsz (by have := Hpi.out; omega)
      simp only [encI] at hy
      have HR := hide hR
      have HF : Hid (pre.map (·.1) ++ (j :: (List.range j).reverse) = (List.range m).reverse) := by
        have := HT.out
        rw [List.range_succ, List.reverse_append] at this
        exact this
      clear hR ci
      gi_wp2
      refine HR.out.mono ?_
      rintro e W3 (⟨rfl, hJ3, hk3⟩ | ⟨rfl, hJx3⟩)
      · have Hrd3 : Hid (∀ k, XC CL b k → W3.heap[k]? = W.heap[k]?) := fun k hk => (hk3.same k (.inr hk) (by have := HXl.out k hk; omega)).trans (Hrd.out k hk)
        have HOk3 : Hid (∀ k, O k → W.heap.size ≤ k ∧ k < W3.heap.size) := fun k hk => by have := HOk.out k hk; have := hk3.size; omega
        have HJ3 := hide hJ3
        have hsz3 : W.heap.size ≤ W3.heap.size := Nat.le_trans hsz hk3.size
        have hwj : wrap64 ((j : Int) - 1) = (j : Int) - 1 := by unfold wrap64; omega
        clear hJ3 hk3 cl c0 c1 c2 hy HR
        gi_wp2
        go_roundw
        case rel => exact ⟨j, pre ++ [⟨j, hj⟩], O, by omega, rfl, by rw [List.map_append, List.append_assoc]; exact HF.out, by have := Hpi.out; simp; omega, HJ3.out, hsz3, Hrd3.out, HOk3.out⟩
        case measure => simp [intOf]
      · gi_wp2
        (try simp only [Exit.inBlock, Exit.then])
        refine bodyPost_ret (results_none rfl _ _ _) rfl ?_
        refine ⟨⟨_, rfl⟩, .inr ⟨pre ++ [⟨j, hj⟩], O, ?_, hJx3⟩⟩
        rw [← HF.out, List.map_append]
        exact ⟨_, by rw [List.append_assoc]; rfl⟩
    · obtain rfl : i = 0 := by omega
      have hneg : ¬ (0 : Int) ≤ ((0 : Nat) : Int) - 1 := by omega
      gi_wp2
      go_end0
      refine ⟨⟨_, rfl⟩, .inl ⟨pre, ?_, O, hJp⟩⟩
      have h := HT.out
      simpa using h
end

section
set_option linter.unusedVariables false
set_option linter.unusedSimpArgs false

open Go.RowKit

theorem wrB_mono {g g' : Nat → List Int} {f f' : Nat → Int} (h : ∀ i, 0 ≤ f i → f' i = f i ∧ g' i = g i) (s : Int) : ∀ k, 0 ≤ kidsF f k s → kidsF f' k s = kidsF f k s ∧ wrB g' f' s k = wrB g f s k
  | 0, _ => ⟨rfl, rfl⟩
  | k + 1, h0 => by
    have h1 : 0 ≤ kidsF f k s := kids_ok h0 (Nat.le_succ k)
    obtain ⟨a1, a2⟩ := wrB_mono h s k h1
    have h2 : (if kidsF f k s < 0 then -1 else f (kidsF f k s).toNat) = kidsF f (k + 1) s := rfl
    rw [if_neg (by omega)] at h2
    obtain ⟨b1, b2⟩ := h (kidsF f k s).toNat (by rw [h2]; exact h0)
    refine ⟨?_, ?_⟩
    · show (if kidsF f' k s < 0 then -1 else f' (kidsF f' k s).toNat) = _
      rw [a1, if_neg (by omega), b1, h2]
    · show wrB g' f' s k ++ g' (kidsF f' k s).toNat = wrB g f s k ++ g (kidsF f k s).toNat
      rw [a1, a2, b2]

theorem wrF_mono (x : Nat → It) (n : Nat) : ∀ (m i : Nat), 0 ≤ endF (fun j => (x j).kid) n m i → wrF x n (m + 1) i = wrF x n m i
  | 0, i, h => by
    have : endF (fun j => (x j).kid) n 0 i = -1 := rfl
    omega
  | m + 1, i, h => by
    have hi : i < n := endF_lt h
    have h' : 0 ≤ kidsF (endF (fun j => (x j).kid) n m) (x i).kid.toNat ((i : Int) + 1) := by
      rw [endF, if_neg (by omega)] at h
      exact h
    obtain ⟨-, e⟩ := wrB_mono (g := wrF x n m) (g' := wrF x n (m + 1)) (f := endF (fun j => (x j).kid) n m) (f' := endF (fun j => (x j).kid) n (m + 1)) (fun j hj => ⟨endF_mono _ n m j hj, wrF_mono x n m j hj⟩) ((i : Int) + 1) (x i).kid.toNat h'
    rw [wrF, e]
    conv => rhs; rw [wrF]

/-- The length of an item's content, and of all of it. -/
def clF (x : Nat → It) (n i : Nat) : Nat := (boL (x i) ++ wrB (wrF x n 13) (endF (fun j => (x j).kid) n 13) ((i : Int) + 1) (x i).kid.toNat).length

def wlF (x : Nat → It) (n i : Nat) : Nat := (wrF x n 13 i).length

theorem wl_cl (x : Nat → It) (n i : Nat) (h : 0 ≤ endF (fun j => (x j).kid) n 13 i) : wlF x n i = 1 + lgN (clF x n i : Int) + clF x n i := by
  unfold wlF
  rw [← wrF_mono x n 13 i h, wrF, List.length_cons, List.length_append]
  show (lgL (clF x n i)).length + clF x n i + 1 = _
  have : (lgL (clF x n i)).length = lgN (clF x n i : Int) := by simp [lgL]
  omega

/-- The trees that stand behind a place, one behind the other. -/
def chF (f : Nat → Int) (n : Nat) : Nat → Nat → List Nat
  | 0, _ => []
  | m + 1, i => if n ≤ i then [] else i :: chF f n m (f i).toNat

theorem wrB_len (g : Nat → List Int) (f : Nat → Int) (s : Int) (K : Nat) : (wrB g f s K).length = ((List.range K).map fun k => (g (kidsF f k s).toNat).length).sum := by
  induction K with
  | zero => rfl
  | succ K ih => rw [wrB, List.length_append, ih, List.range_succ, List.map_append, List.sum_append]; simp

theorem chF_fuel {f : Nat → Int} {n : Nat} (hf : ∀ i, i < n → (i : Int) + 1 ≤ f i) : ∀ (m i : Nat), n ≤ i + m → chF f n (m + 1) i = chF f n m i
  | 0, i, h => by
    show (if n ≤ i then [] else i :: chF f n 0 (f i).toNat) = []
    rw [if_pos (by omega)]
  | m + 1, i, h => by
    by_cases c : n ≤ i
    · rw [chF, if_pos c, chF, if_pos c]
    · rw [chF, if_neg c, chF_fuel hf m _ (by have := hf i (by omega); omega)]
      conv => rhs; rw [chF, if_neg c]

/-- The chain behind a place, whatever the fuel. -/
def chn (f : Nat → Int) (n i : Nat) : List Nat := chF f n n i

theorem chn_end {f : Nat → Int} {n i : Nat} (h : n ≤ i) : chn f n i = [] := by
  unfold chn
  cases n with
  | zero => rfl
  | succ n => rw [chF, if_pos h]

theorem chn_step {f : Nat → Int} {n i : Nat} (hf : ∀ i, i < n → (i : Int) + 1 ≤ f i) (h : i < n) : chn f n i = i :: chn f n (f i).toNat := by
  unfold chn
  rw [← chF_fuel hf n i (by omega), chF, if_neg (by omega)]

/-- The kids of an item stand first in the chain behind it. -/
theorem chn_kids {f : Nat → Int} {n : Nat} (hf : ∀ i, i < n → (i : Int) + 1 ≤ f i) (hr : ∀ i, 0 ≤ f i → i < n) (s : Nat) : ∀ k, 0 ≤ kidsF f k (s : Int) → chn f n s = (List.range k).map (fun j => (kidsF f j (s : Int)).toNat) ++ chn f n (kidsF f k (s : Int)).toNat
  | 0, _ => by
    show chn f n s = [] ++ chn f n ((s : Int)).toNat
    simp
  | k + 1, h => by
    have h1 : 0 ≤ kidsF f k (s : Int) := kids_ok h (Nat.le_succ k)
    have h2 : (if kidsF f k (s : Int) < 0 then -1 else f (kidsF f k (s : Int)).toNat) = kidsF f (k + 1) (s : Int) := rfl
    rw [if_neg (by omega)] at h2
    have h3 := hr (kidsF f k (s : Int)).toNat (by rw [h2]; exact h)
    rw [chn_kids hf hr s k h1, chn_step hf h3, h2, List.range_succ, List.map_append, List.append_assoc]
    rfl
end

section
set_option linter.unusedVariables false
set_option linter.unusedSimpArgs false

open Go.RowKit

/-- An item's own bytes: its tag, its content's length, its body. -/
def hdL (x : Nat → It) (n j : Nat) : List Int := (x j).tag :: (lgL (clF x n j) ++ boL (x j))

/-- Those of c items from s on. -/
def flt (x : Nat → It) (n s : Nat) : Nat → List Int
  | 0 => []
  | c + 1 => flt x n s c ++ hdL x n (s + c)

theorem flt_add (x : Nat → It) (n s c : Nat) : ∀ d, flt x n s (c + d) = flt x n s c ++ flt x n (s + c) d
  | 0 => by rw [Nat.add_zero]; show _ = _ ++ []; rw [List.append_nil]
  | d + 1 => by
    rw [← Nat.add_assoc, flt, flt_add x n s c d, flt, List.append_assoc, Nat.add_assoc]

theorem flt_one (x : Nat → It) (n s c : Nat) : flt x n s (c + 1) = hdL x n s ++ flt x n (s + 1) c := by
  rw [Nat.add_comm, flt_add]
  show ([] ++ hdL x n (s + 0)) ++ _ = _
  simp

theorem up_mono (x : Nat → It) (n m j : Nat) (h : 0 ≤ endF (fun j => (x j).kid) n m j) : ∀ d, endF (fun j => (x j).kid) n (m + d) j = endF (fun j => (x j).kid) n m j ∧ wrF x n (m + d) j = wrF x n m j
  | 0 => ⟨rfl, rfl⟩
  | d + 1 => by
    obtain ⟨h1, h2⟩ := up_mono x n m j h d
    have h3 : 0 ≤ endF (fun j => (x j).kid) n (m + d) j := by rw [h1]; exact h
    exact ⟨(endF_mono _ n (m + d) j h3).trans h1, (wrF_mono x n (m + d) j h3).trans h2⟩

theorem kids_step {f : Nat → Int} {s : Int} {k : Nat} (h : 0 ≤ kidsF f (k + 1) s) : 0 ≤ kidsF f k s ∧ f (kidsF f k s).toNat = kidsF f (k + 1) s := by
  have h1 : 0 ≤ kidsF f k s := kids_ok h (Nat.le_succ k)
  have h2 : (if kidsF f k s < 0 then -1 else f (kidsF f k s).toNat) = kidsF f (k + 1) s := rfl
  rw [if_neg (by omega)] at h2
  exact ⟨h1, h2⟩

theorem wrB_flt (x : Nat → It) (n : Nat) {g : Nat → List Int} {f : Nat → Int} (hg : ∀ i, 0 ≤ f i → (i : Int) < f i ∧ g i = flt x n i ((f i).toNat - i)) (s : Nat) : ∀ k, 0 ≤ kidsF f k (s : Int) → (s : Int) ≤ kidsF f k (s : Int) ∧ wrB g f (s : Int) k = flt x n s ((kidsF f k (s : Int)).toNat - s)
  | 0, _ => ⟨Int.le_refl _, by show [] = flt x n s (((s : Int)).toNat - s); simp [flt]⟩
  | k + 1, h => by
    obtain ⟨h1, h2⟩ := kids_step h
    obtain ⟨h3, h4⟩ := wrB_flt x n hg s k h1
    obtain ⟨h5, h6⟩ := hg (kidsF f k (s : Int)).toNat (by rw [h2]; exact h)
    rw [h2] at h5 h6
    refine ⟨by omega, ?_⟩
    rw [wrB, h4, h6, show (kidsF f (k + 1) (s : Int)).toNat - s = ((kidsF f k (s : Int)).toNat - s) + ((kidsF f (k + 1) (s : Int)).toNat - (kidsF f k (s : Int)).toNat) by omega, flt_add, show s + ((kidsF f k (s : Int)).toNat - s) = (kidsF f k (s : Int)).toNat by omega]

/-- The bytes of a tree are those of its items. -/
theorem wrF_flt (x : Nat → It) (n : Nat) : ∀ (m : Nat), m ≤ 13 → ∀ i, 0 ≤ endF (fun j => (x j).kid) n m i → (i : Int) < endF (fun j => (x j).kid) n m i ∧ wrF x n m i = flt x n i ((endF (fun j => (x j).kid) n m i).toNat - i)
  | 0, _, i, h => by
    have : endF (fun j => (x j).kid) n 0 i = -1 := rfl
    omega
  | m + 1, hm, i, h => by
    have hi : i < n := endF_lt h
    have he : endF (fun j => (x j).kid) n (m + 1) i = kidsF (endF (fun j => (x j).kid) n m) (x i).kid.toNat ((i : Int) + 1) := by rw [endF, if_neg (by omega)]
    rw [he] at h ⊢
    obtain ⟨h1, h2⟩ := wrB_flt x n (g := wrF x n m) (f := endF (fun j => (x j).kid) n m) (fun j hj => wrF_flt x n m (by omega) j hj) (i + 1) (x i).kid.toNat (by exact_mod_cast h)
    have hc : ((i + 1 : Nat) : Int) = (i : Int) + 1 := by omega
    rw [hc] at h1 h2
    obtain ⟨-, h3⟩ := wrB_mono (g := wrF x n m) (g' := wrF x n 13) (f := endF (fun j => (x j).kid) n m) (f' := endF (fun j => (x j).kid) n 13) (fun j hj => by
      obtain ⟨a, b⟩ := up_mono x n m j hj (13 - m)
      rw [show m + (13 - m) = 13 by omega] at a b
      exact ⟨a, b⟩) ((i : Int) + 1) (x i).kid.toNat h
    refine ⟨by omega, ?_⟩
    generalize kidsF (endF (fun j => (x j).kid) n m) (x i).kid.toNat ((i : Int) + 1) = e at *
    have hl : (boL (x i) ++ wrB (wrF x n m) (endF (fun j => (x j).kid) n m) ((i : Int) + 1) (x i).kid.toNat).length = clF x n i := by
      unfold clF
      rw [h3]
    rw [wrF, hl, h2, show e.toNat - i = (e.toNat - (i + 1)) + 1 by omega, flt_one]
    unfold hdL
    simp

/-- What is known of the items of a right tree. -/
structure TrO (x : Nat → It) (n : Nat) : Prop where
  ok : ∀ i, i < n → 0 ≤ endF (fun j => (x j).kid) n 13 i
  top : endF (fun j => (x j).kid) n 13 0 = n
  le : ∀ i, endF (fun j => (x j).kid) n 13 i ≤ n
  kid : ∀ i, i < n → 0 ≤ kidsF (endF (fun j => (x j).kid) n 13) (x i).kid.toNat ((i : Int) + 1) ∧ kidsF (endF (fun j => (x j).kid) n 13) (x i).kid.toNat ((i : Int) + 1) = endF (fun j => (x j).kid) n 13 i

theorem trO_of {x : Nat → It} {n : Nat} (h : treeV x n = true) : TrO x n := by
  unfold treeV at h
  rw [decide_eq_true_eq] at h
  obtain ⟨h1, h2, h3, h4⟩ := h
  have hok : ∀ i, i < n → 0 ≤ endF (fun j => (x j).kid) n 13 i := fun i hi => endF_within _ n 13 0 i (by omega) (Nat.zero_le _) (by omega)
  have hk : ∀ i, i < n → kidsF (endF (fun j => (x j).kid) n 13) (x i).kid.toNat ((i : Int) + 1) = endF (fun j => (x j).kid) n 13 i := fun i hi => by
    rw [← endF_mono (fun j => (x j).kid) n 13 i (hok i hi)]
    conv => rhs; rw [endF, if_neg (by omega)]
  exact ⟨hok, h4, fun i => (endF_range _ n 13 i).2, fun i hi => ⟨by rw [hk i hi]; exact hok i hi, hk i hi⟩⟩

theorem TrO.far {x : Nat → It} {n : Nat} (h : TrO x n) : ∀ i, i < n → (i : Int) + 1 ≤ endF (fun j => (x j).kid) n 13 i := fun i hi => by
  have := (wrF_flt x n 13 (Nat.le_refl _) i (h.ok i hi)).1
  omega

/-- What the backward walk keeps behind place i: the lengths of the trees that stand there, the leftmost last. -/
def wlL (x : Nat → It) (n i : Nat) : List Int := ((chn (endF (fun j => (x j).kid) n 13) n i).map (fun j => (wlF x n j : Int))).reverse

theorem wlL_end (x : Nat → It) (n : Nat) : wlL x n n = [] := by
  unfold wlL
  rw [chn_end (Nat.le_refl _)]
  rfl

theorem sum_cast (L : List Nat) : ((L.map (fun j : Nat => (j : Int))).sum) = ((L.sum : Nat) : Int) := by
  induction L with
  | nil => rfl
  | cons a L ih => rw [List.map_cons, List.sum_cons, List.sum_cons, ih]; omega

theorem back_step {x : Nat → It} {n i : Nat} (hT : TrO x n) (hi : i < n) : ∃ A, (wlL x n (i + 1)).length = A + (x i).kid.toNat ∧ ((x i).len : Int) + ((wlL x n (i + 1)).drop A).sum = clF x n i ∧ wlL x n i = (wlL x n (i + 1)).take A ++ [(wlF x n i : Int)] := by
  obtain ⟨k1, k2⟩ := hT.kid i hi
  have hc : ((i + 1 : Nat) : Int) = (i : Int) + 1 := by omega
  have ck := chn_kids hT.far (fun j hj => endF_lt hj) (i + 1) (x i).kid.toNat (by rw [hc]; exact k1)
  rw [hc, k2] at ck
  have c0 := chn_step hT.far hi
  have hw : wlL x n (i + 1) = ((chn (endF (fun j => (x j).kid) n 13) n (endF (fun j => (x j).kid) n 13 i).toNat).map (fun j => (wlF x n j : Int))).reverse ++ (((List.range (x i).kid.toNat).map (fun j => (kidsF (endF (fun j => (x j).kid) n 13) j ((i : Int) + 1)).toNat)).map (fun j => (wlF x n j : Int))).reverse := by
    unfold wlL
    rw [ck, List.map_append, List.reverse_append]
  refine ⟨(chn (endF (fun j => (x j).kid) n 13) n (endF (fun j => (x j).kid) n 13 i).toNat).length, ?_, ?_, ?_⟩
  · rw [hw]; simp
  · rw [hw, List.drop_left' (by simp)]
    have hs : ∀ L : List Int, L.reverse.sum = L.sum := fun L => by
      induction L with
      | nil => rfl
      | cons a L ih => rw [List.reverse_cons, List.sum_append, ih, List.sum_cons, List.sum_cons, List.sum_nil]; omega
    rw [hs]
    unfold clF
    rw [List.length_append, wrB_len, List.map_map]
    have : (List.range (x i).kid.toNat).map ((fun j => (wlF x n j : Int)) ∘ fun j => (kidsF (endF (fun j => (x j).kid) n 13) j ((i : Int) + 1)).toNat) = ((List.range (x i).kid.toNat).map fun k => (wrF x n 13 (kidsF (endF (fun j => (x j).kid) n 13) k ((i : Int) + 1)).toNat).length).map (fun j : Nat => (j : Int)) := by
      rw [List.map_map]
      rfl
    rw [this, sum_cast]
    have hb : (boL (x i)).length = (x i).len := by simp [boL]
    rw [hb]
    omega
  · rw [hw, List.take_left' (by simp)]
    unfold wlL
    rw [c0, List.map_cons, List.reverse_cons]

theorem smL_le {x : Nat → It} {n : Nat} (hb : ∀ i, i < n → (x i).len ≤ 1048576) (s : Nat) : ∀ c, s + c ≤ n → smL x s c ≤ c * 1048576
  | 0, _ => Nat.zero_le _
  | c + 1, h => by
    have h1 := smL_le hb s c (by omega)
    have h2 := hb (s + c) (by omega)
    show smL x s c + (x (s + c)).len ≤ _
    omega

theorem wl_le {x : Nat → It} {n : Nat} (hT : TrO x n) (hn : n ≤ 300) (hb : ∀ i, i < n → (x i).len ≤ 1048576) (i : Nat) (hi : i < n) : wlF x n i ≤ 400000000 ∧ clF x n i ≤ 400000000 ∧ wlF x n i = 1 + lgN (clF x n i : Int) + clF x n i := by
  obtain ⟨e, he⟩ := nat_of (hT.ok i hi)
  have h1 := wrF_bounds x n hb (by omega) 13 i e he
  have h2 := hT.le i
  have h3 := smL_le hb i (e - i) (by omega)
  have h4 := wl_cl x n i (hT.ok i hi)
  have h5 : wlF x n i = (wrF x n 13 i).length := rfl
  omega
end

end Go.Proofs.YtmcdikbcmikihaaDoor
