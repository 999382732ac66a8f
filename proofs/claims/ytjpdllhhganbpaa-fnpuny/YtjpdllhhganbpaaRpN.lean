/- Plain notions: puny texts read: the two readers, and that they tell the same. Nothing of the program. -/
import Derived.Test.YtjpdllhhganbpaaPnS
import Derived.Test.YtjpdllhhganbpaaIns
import Derived.Test.YtjpdllhhganbpaaStr
namespace Go.Proofs.Ytjpdllhhganbpaa
set_option linter.unusedVariables false
set_option linter.unusedSimpArgs false

/-- A digit's value, or -1. -/
def pv (x : Int) : Int := if 97 ≤ x ∧ x ≤ 122 then x - 97 else if 48 ≤ x ∧ x ≤ 57 then x - 22 else -1
theorem pv_ge (x : Int) : -1 ≤ pv x := by unfold pv; split <;> (try split) <;> omega
theorem pv_lt (x : Int) : pv x < 36 := by unfold pv; split <;> (try split) <;> omega
theorem pv_high {x : Int} (h : 128 ≤ x) : pv x < 0 := by unfold pv; rw [if_neg (by omega), if_neg (by omega)]; omega

/-- The program's reading of a delta: what it is, and the place behind. -/
def rdP (g : Nat → Int) (N : Nat) (b : Int) : Nat → Nat → Int → Int → Int → Option (Int × Nat)
  | 0, _, _, _, _ => none
  | F + 1, p, k, D, W =>
    if p < N then
      if pv (g p) < 0 ∨ 22282220 < D + pv (g p) * W then none
      else if pv (g p) < thr k b then some (D + pv (g p) * W, p + 1)
      else rdP g N b F (p + 1) (k + 36) (D + pv (g p) * W) (W * (36 - thr k b))
    else none

/-- The model's. -/
def rdM (g : Nat → Int) (N : Nat) (b old : Int) : Nat → Nat → Int → Int → Int → Option (Int × Nat)
  | 0, _, _, _, _ => none
  | F + 1, p, k, D, W =>
    if p < N then
      if pv (g p) < 0 ∨ 1099511627776 < old + D ∨ 1099511627776 < W then none
      else if pv (g p) < thr k b then some (D + pv (g p) * W, p + 1)
      else rdM g N b old F (p + 1) (k + 36) (D + pv (g p) * W) (W * (36 - thr k b))
    else none

/-- A delta in the making, and its weight. -/
structure PW (D W : Int) : Prop where
  d0 : 0 ≤ D
  w1 : 1 ≤ W
  le : W ≤ 1 ∨ W ≤ 35 * D

theorem PW.start : PW 0 1 := ⟨by omega, by omega, .inl (by omega)⟩
theorem PW.mul {D W d : Int} (h : PW D W) (h0 : 0 ≤ d) (h1 : d ≤ 35) : 0 ≤ d * W ∧ d * W ≤ 35 * W := by
  have := h.w1
  exact ⟨Int.mul_nonneg h0 (by omega), Int.mul_le_mul_of_nonneg_right h1 (by omega)⟩
theorem PW.next {D W d t : Int} (h : PW D W) (h1 : d ≤ 35) (t1 : 1 ≤ t) (t2 : t ≤ 26) (ht : ¬ d < t) : PW (D + d * W) (W * (36 - t)) := by
  have hw := h.w1
  have hd := h.d0
  have hm := h.mul (d := d) (by omega) h1
  have p1 : 1 * W ≤ d * W := Int.mul_le_mul_of_nonneg_right (by omega) (by omega)
  have p2 : W * (36 - t) ≤ W * 35 := Int.mul_le_mul_of_nonneg_left (by omega) (by omega)
  have p3 : W * 1 ≤ W * (36 - t) := Int.mul_le_mul_of_nonneg_left (by omega) (by omega)
  exact ⟨by omega, by omega, .inr (by omega)⟩

theorem rd_same {g : Nat → Int} {N : Nat} {b old : Int} (h0 : 0 ≤ old) (h1 : old ≤ 1000) {r : Int × Nat} : ∀ F p k D W, PW D W → D ≤ 22282220 → rdP g N b F p k D W = some r → rdM g N b old F p k D W = some r
  | 0, p, k, D, W, hp, hD, h => by cases h
  | F + 1, p, k, D, W, hp, hD, h => by
    unfold rdP at h
    unfold rdM
    have hw := hp.w1
    have hd := hp.d0
    have hl := hp.le
    by_cases hpn : p < N
    · rw [if_pos hpn] at h ⊢
      by_cases hb : pv (g p) < 0 ∨ 22282220 < D + pv (g p) * W
      · rw [if_pos hb] at h; cases h
      · rw [if_neg hb] at h
        rw [if_neg (by omega)]
        by_cases ht : pv (g p) < thr k b
        · rw [if_pos ht] at h ⊢; exact h
        · rw [if_neg ht] at h ⊢
          have hv := pv_lt (g p)
          exact rd_same h0 h1 F _ _ _ _ (hp.next (by omega) (thr_ge _ _) (thr_le _ _) ht) (by omega) h
    · rw [if_neg hpn] at h; cases h

/-- What is read, of both. -/
theorem rdP_le {g : Nat → Int} {N : Nat} {b : Int} {r : Int × Nat} : ∀ F p k D W, PW D W → rdP g N b F p k D W = some r → 0 ≤ r.1 ∧ r.1 ≤ 22282220 ∧ p < r.2 ∧ r.2 ≤ N
  | 0, p, k, D, W, hp, h => by cases h
  | F + 1, p, k, D, W, hp, h => by
    unfold rdP at h
    by_cases hpn : p < N
    · rw [if_pos hpn] at h
      by_cases hb : pv (g p) < 0 ∨ 22282220 < D + pv (g p) * W
      · rw [if_pos hb] at h; cases h
      · rw [if_neg hb] at h
        have hv := pv_lt (g p)
        by_cases ht : pv (g p) < thr k b
        · rw [if_pos ht] at h
          obtain rfl := Option.some.inj h
          have := hp.mul (d := pv (g p)) (by omega) (by omega)
          have := hp.d0
          exact ⟨by simp only []; omega, by simp only []; omega, by simp only []; omega, by simp only []; omega⟩
        · rw [if_neg ht] at h
          have := rdP_le F _ _ _ _ (hp.next (by omega) (thr_ge _ _) (thr_le _ _) ht) h
          exact ⟨this.1, this.2.1, by omega, this.2.2.2⟩
    · rw [if_neg hpn] at h; cases h

theorem rdM_le {g : Nat → Int} {N : Nat} {b old : Int} (h0 : 0 ≤ old) {r : Int × Nat} : ∀ F p k D W, PW D W → rdM g N b old F p k D W = some r → D ≤ r.1 ∧ r.1 ≤ 50000000000000 ∧ p < r.2 ∧ r.2 ≤ N
  | 0, p, k, D, W, hp, h => by cases h
  | F + 1, p, k, D, W, hp, h => by
    unfold rdM at h
    by_cases hpn : p < N
    · rw [if_pos hpn] at h
      by_cases hb : pv (g p) < 0 ∨ 1099511627776 < old + D ∨ 1099511627776 < W
      · rw [if_pos hb] at h; cases h
      · rw [if_neg hb] at h
        have hv := pv_lt (g p)
        have hm := hp.mul (d := pv (g p)) (by omega) (by omega)
        by_cases ht : pv (g p) < thr k b
        · rw [if_pos ht] at h
          obtain rfl := Option.some.inj h
          exact ⟨by simp only []; omega, by simp only []; omega, by simp only []; omega, by simp only []; omega⟩
        · rw [if_neg ht] at h
          have := rdM_le h0 F _ _ _ _ (hp.next (by omega) (thr_ge _ _) (thr_le _ _) ht) h
          exact ⟨by omega, this.2.1, by omega, this.2.2.2⟩
    · rw [if_neg hpn] at h; cases h

theorem rd_far {g : Nat → Int} {N : Nat} {b old : Int} (h0 : 0 ≤ old) {r : Int × Nat} : ∀ F p k D W, PW D W → rdM g N b old F p k D W = some r → rdP g N b F p k D W = none → 22282220 < r.1
  | 0, p, k, D, W, hp, h, hn => by cases h
  | F + 1, p, k, D, W, hp, h, hn => by
    unfold rdM at h
    unfold rdP at hn
    by_cases hpn : p < N
    · rw [if_pos hpn] at h hn
      by_cases hb : pv (g p) < 0 ∨ 1099511627776 < old + D ∨ 1099511627776 < W
      · rw [if_pos hb] at h; cases h
      · rw [if_neg hb] at h
        have hv := pv_lt (g p)
        have hm := hp.mul (d := pv (g p)) (by omega) (by omega)
        by_cases hc : 22282220 < D + pv (g p) * W
        · by_cases ht : pv (g p) < thr k b
          · rw [if_pos ht] at h
            obtain rfl := Option.some.inj h
            exact hc
          · rw [if_neg ht] at h
            have := rdM_le h0 F _ _ _ _ (hp.next (by omega) (thr_ge _ _) (thr_le _ _) ht) h
            omega
        · rw [if_neg (by omega)] at hn
          by_cases ht : pv (g p) < thr k b
          · rw [if_pos ht] at hn; cases hn
          · rw [if_neg ht] at h hn
            exact rd_far h0 F _ _ _ _ (hp.next (by omega) (thr_ge _ _) (thr_le _ _) ht) h hn
    · rw [if_neg hpn] at h; cases h

/-- The program's reading of a word. -/
def outP (g : Nat → Int) (N basic : Nat) : Nat → List Int → Int → Int → Int → Nat → Option (List Int)
  | 0, _, _, _, _, _ => none
  | F + 1, L, n, pl, b, p =>
    if p < N then
      match rdP g N b (N - p + 1) p 36 0 1 with
      | none => none
      | some (D, q) => outP g N basic F (insL L ((pl + D) % ((L.length : Int) + 1)).toNat (n + (pl + D) / ((L.length : Int) + 1))) (n + (pl + D) / ((L.length : Int) + 1)) ((pl + D) % ((L.length : Int) + 1) + 1) (pbias D ((L.length : Int) + 1) ((L.length : Int) == (basic : Int))) q
    else some L

/-- The model's. -/
def outM (g : Nat → Int) (N basic : Nat) : Nat → List Int → Int → Int → Int → Nat → Option (List Int)
  | 0, _, _, _, _, _ => none
  | F + 1, L, n, pl, b, p =>
    if p < N then
      match rdM g N b pl (N - p + 1) p 36 0 1 with
      | none => none
      | some (D, q) => if 1114111 < n + (pl + D) / ((L.length : Int) + 1) ∨ 20 < (L.length : Int) + 1 then none
        else outM g N basic F (insL L ((pl + D) % ((L.length : Int) + 1)).toNat (n + (pl + D) / ((L.length : Int) + 1))) (n + (pl + D) / ((L.length : Int) + 1)) ((pl + D) % ((L.length : Int) + 1) + 1) (pbias D ((L.length : Int) + 1) ((L.length : Int) == (basic : Int))) q
    else some L

/-- The last test. -/
def finO (s : ByteArray) : Option (List Int) → Option (List Int)
  | some L => if (wordB L.length (fun i => L.getD i 0) && eqS (punyS L.length (fun i => L.getD i 0)) s) = true then some L else none
  | none => none

theorem finO_some (s : ByteArray) (L : List Int) : finO s (some L) = if (wordB L.length (fun i => L.getD i 0) && eqS (punyS L.length (fun i => L.getD i 0)) s) = true then some L else none := rfl

/-- Lists that are no words, whatever is put into them. -/
def BadW (L : List Int) : Prop := (∃ x, x ∈ L ∧ 1114111 < x) ∨ 20 < L.length
theorem BadW.no {L : List Int} (h : BadW L) : wordB L.length (fun i => L.getD i 0) = false := by
  cases e : wordB L.length (fun i => L.getD i 0) with
  | false => rfl
  | true =>
    obtain ⟨h1, h2, h3⟩ := word_is e
    rcases h with ⟨x, hx, hb⟩ | h
    · obtain ⟨i, hi, rfl⟩ := List.getElem_of_mem hx
      have := h3 i hi
      simp [hi] at this
      omega
    · omega
theorem BadW.ins {L : List Int} (h : BadW L) {i : Nat} (x : Int) : BadW (insL L i x) := by
  rcases h with ⟨y, hy, hb⟩ | h
  · refine .inl ⟨y, ?_, hb⟩
    have : y ∈ L.take i ++ L.drop i := by rw [List.take_append_drop]; exact hy
    rcases List.mem_append.1 this with h | h
    · exact List.mem_append_left _ h
    · exact List.mem_append_right _ (List.mem_cons_of_mem _ h)
  · refine .inr ?_
    simp only [insL, List.length_append, List.length_take, List.length_cons, List.length_drop]
    omega
theorem outP_bad {g : Nat → Int} {N basic : Nat} {R : List Int} : ∀ F L n pl b p, BadW L → outP g N basic F L n pl b p = some R → BadW R
  | 0, L, n, pl, b, p, hb, h => by cases h
  | F + 1, L, n, pl, b, p, hb, h => by
    unfold outP at h
    split at h
    · split at h
      · cases h
      · exact outP_bad F _ _ _ _ _ (hb.ins _) h
    · obtain rfl := Option.some.inj h; exact hb
theorem fin_bad {s : ByteArray} {r : Option (List Int)} (h : ∀ R, r = some R → BadW R) : finO s r = none := by
  cases r with
  | none => rfl
  | some R =>
    rw [finO_some, (h R rfl).no, Bool.false_and]
    rfl

theorem out_same {g : Nat → Int} {N basic : Nat} {s : ByteArray} : ∀ F L n pl b p, 0 ≤ pl → pl ≤ 1000 → 128 ≤ n → finO s (outP g N basic F L n pl b p) = finO s (outM g N basic F L n pl b p)
  | 0, L, n, pl, b, p, h0, h1, hn => rfl
  | F + 1, L, n, pl, b, p, h0, h1, hn => by
    unfold outP outM
    by_cases hp : p < N
    · rw [if_pos hp, if_pos hp]
      cases hP : rdP g N b (N - p + 1) p 36 0 1 with
      | some r =>
        obtain ⟨D, q⟩ := r
        rw [rd_same h0 h1 _ _ _ _ _ PW.start (by omega) hP]
        obtain ⟨d0, d1, -, -⟩ := rdP_le _ _ _ _ _ PW.start hP
        simp only at d0 d1
        have hm := Int.emod_nonneg (pl + D) (show (L.length : Int) + 1 ≠ 0 by omega)
        have hm2 := Int.emod_lt_of_pos (pl + D) (show 0 < (L.length : Int) + 1 by omega)
        have hq := Int.ediv_nonneg (show 0 ≤ pl + D by omega) (show 0 ≤ (L.length : Int) + 1 by omega)
        by_cases hc : 1114111 < n + (pl + D) / ((L.length : Int) + 1) ∨ 20 < (L.length : Int) + 1
        · simp only [if_pos hc]
          refine fin_bad (fun R hR => outP_bad _ _ _ _ _ _ ?_ hR)
          rcases hc with hc | hc
          · exact .inl ⟨_, List.mem_append_right _ (List.mem_cons_self ..), hc⟩
          · refine .inr ?_
            rw [insL_len (by omega)]
            omega
        · simp only [if_neg hc]
          exact out_same F _ _ _ _ _ (by omega) (by omega) (by omega)
      | none =>
        cases hM : rdM g N b pl (N - p + 1) p 36 0 1 with
        | none => rfl
        | some r =>
          obtain ⟨D, q⟩ := r
          have hf := rd_far h0 _ _ _ _ _ PW.start hM hP
          simp only at hf
          have hc : 1114111 < n + (pl + D) / ((L.length : Int) + 1) ∨ 20 < (L.length : Int) + 1 := by
            by_cases h20 : 20 < (L.length : Int) + 1
            · exact .inr h20
            · left
              have : 1114111 ≤ (pl + D) / ((L.length : Int) + 1) := Int.le_ediv_of_mul_le (by omega) (by
                have : 1114111 * ((L.length : Int) + 1) ≤ 1114111 * 20 := Int.mul_le_mul_of_nonneg_left (by omega) (by omega)
                omega)
              omega
          simp only [if_pos hc]
    · rw [if_neg hp, if_neg hp]

/-- The bytes that are written are below 128. -/
theorem pd_low {x : Int} (h : x < 36) : pd x < 128 := by unfold pd; split <;> omega
theorem pdig_low (b : Int) : ∀ F k q, ∀ x ∈ pdig b F k q, x < 128
  | 0, k, q, x, h => by cases h
  | F + 1, k, q, x, h => by
    unfold pdig at h
    have h1 := thr_ge k b
    have h2 := thr_le k b
    split at h
    · simp at h; subst h; exact pd_low (by omega)
    · rcases List.mem_cons.1 h with rfl | h
      · exact pd_low (by have := Int.emod_lt_of_pos (q - thr k b) (show 0 < 36 - thr k b by omega); omega)
      · exact pdig_low b F _ _ x h
def LowL (L : List Int) : Prop := ∀ x ∈ L, x < 128
theorem pin_low {basic : Nat} {n x : Int} {s : PS} (h : LowL s.o) : LowL (pin basic n x s).o := by
  unfold pin
  split
  · intro y hy
    rcases List.mem_append.1 hy with hy | hy
    · exact h y hy
    · exact pdig_low _ _ _ _ y hy
  · split <;> exact h
theorem pinF_low {basic : Nat} {n : Int} {f : Nat → Int} : ∀ k {s : PS}, LowL s.o → LowL (pinF basic n f k s).o
  | 0, s, h => h
  | k + 1, s, h => pin_low (pinF_low k h)
theorem pout_low {basic len : Nat} {f : Nat → Int} : ∀ F {s : PS} {n : Int}, LowL s.o → LowL (pout basic len f F s n)
  | 0, s, n, h => h
  | F + 1, s, n, h => by
    unfold pout
    split
    · exact pout_low F (pinF_low len h)
    · exact h
theorem nearL_low (f : Nat → Int) : ∀ k, LowL (nearL f k)
  | 0 => fun x h => by cases h
  | k + 1 => by
    unfold nearL
    split
    · rename_i hk
      intro x hx
      rcases List.mem_append.1 hx with hx | hx
      · exact nearL_low f k x hx
      · simp at hx; subst hx; exact hk
    · exact nearL_low f k
theorem punyL_low (f : Nat → Int) (n : Nat) : LowL (punyL f n) := by
  unfold punyL
  refine pout_low _ ?_
  unfold markL
  split
  · intro x hx
    rcases List.mem_append.1 hx with hx | hx
    · exact nearL_low f n x hx
    · simp at hx; omega
  · exact nearL_low f n

theorem bt_nums (L : List Int) (i : Nat) (h : LowL L) : bt (strOfNums L) i < 128 := by
  unfold bt
  by_cases hi : i < (strOfNums L).size
  · have hl : i < L.length := by rwa [strOfNums_size] at hi
    have e : (strOfNums L).get! i = UInt8.ofNat (L[i]).toNat := by
      show (strOfNums L).data[i]! = _
      rw [getElem!_pos _ i hi]
      simp [strOfNums]
    rw [e]
    have := h _ (List.getElem_mem hl)
    have e2 : (UInt8.ofNat (L[i]).toNat).toNat = (L[i]).toNat % 256 := rfl
    rw [e2]
    omega
  · have e : (strOfNums L).get! i = 0 := by
      show (strOfNums L).data[i]! = _
      rw [getElem!_neg _ i hi]
      rfl
    rw [e]
    decide

theorem puny_high {s : ByteArray} {j : Nat} (h : 128 ≤ bt s j) (L : List Int) : finO s (some L) = none := by
  rw [finO_some]
  cases e : eqS (punyS L.length (fun i => L.getD i 0)) s with
  | false => rw [Bool.and_false]; rfl
  | true =>
    have := (eqS_iff _ _).1 e
    unfold punyS at this
    split at this
    · have hb := bt_nums _ j (punyL_low (fun i => L.getD i 0) L.length)
      rw [this] at hb
      omega
    · rw [← this] at h
      have : bt ⟨#[]⟩ j = 0 := rfl
      omega
theorem fin_high {s : ByteArray} {j : Nat} (h : 128 ≤ bt s j) (r : Option (List Int)) : finO s r = none := by
  cases r with
  | none => rfl
  | some L => exact puny_high h L

/-- A round, for the walks. -/
theorem outP_end {g : Nat → Int} {N basic F : Nat} {L : List Int} {n pl b : Int} {p : Nat} (hF : N - p < F) (hp : ¬ p < N) : outP g N basic F L n pl b p = some L := by
  obtain ⟨G, rfl⟩ : ∃ G, F = G + 1 := ⟨F - 1, by omega⟩
  rw [outP, if_neg hp]
theorem outM_end {g : Nat → Int} {N basic F : Nat} {L : List Int} {n pl b : Int} {p : Nat} (hF : N - p < F) (hp : ¬ p < N) : outM g N basic F L n pl b p = some L := by
  obtain ⟨G, rfl⟩ : ∃ G, F = G + 1 := ⟨F - 1, by omega⟩
  rw [outM, if_neg hp]
theorem outP_none {g : Nat → Int} {N basic F : Nat} {L : List Int} {n pl b : Int} {p : Nat} (hF : N - p < F) (hp : p < N) (h : rdP g N b (N - p + 1) p 36 0 1 = none) : outP g N basic F L n pl b p = none := by
  obtain ⟨G, rfl⟩ : ∃ G, F = G + 1 := ⟨F - 1, by omega⟩
  rw [outP, if_pos hp, h]
theorem outM_none {g : Nat → Int} {N basic F : Nat} {L : List Int} {n pl b : Int} {p : Nat} (hF : N - p < F) (hp : p < N) (h : rdM g N b pl (N - p + 1) p 36 0 1 = none) : outM g N basic F L n pl b p = none := by
  obtain ⟨G, rfl⟩ : ∃ G, F = G + 1 := ⟨F - 1, by omega⟩
  rw [outM, if_pos hp, h]
theorem outP_some {g : Nat → Int} {N basic F : Nat} {L : List Int} {n pl b D : Int} {p q : Nat} (hF : N - p < F) (hp : p < N) (h : rdP g N b (N - p + 1) p 36 0 1 = some (D, q)) :
    ∃ G, N - q < G ∧ outP g N basic F L n pl b p = outP g N basic G (insL L ((pl + D) % ((L.length : Int) + 1)).toNat (n + (pl + D) / ((L.length : Int) + 1))) (n + (pl + D) / ((L.length : Int) + 1)) ((pl + D) % ((L.length : Int) + 1) + 1) (pbias D ((L.length : Int) + 1) ((L.length : Int) == (basic : Int))) q := by
  obtain ⟨G, rfl⟩ : ∃ G, F = G + 1 := ⟨F - 1, by omega⟩
  obtain ⟨-, -, h1, h2⟩ := rdP_le _ _ _ _ _ PW.start h
  simp only at h1 h2
  refine ⟨G, by omega, ?_⟩
  rw [outP, if_pos hp, h]
theorem outM_some {g : Nat → Int} {N basic F : Nat} {L : List Int} {n pl b D : Int} {p q : Nat} (h0 : 0 ≤ pl) (hF : N - p < F) (hp : p < N) (h : rdM g N b pl (N - p + 1) p 36 0 1 = some (D, q)) :
    ∃ G, N - q < G ∧ outM g N basic F L n pl b p = if 1114111 < n + (pl + D) / ((L.length : Int) + 1) ∨ 20 < (L.length : Int) + 1 then none else outM g N basic G (insL L ((pl + D) % ((L.length : Int) + 1)).toNat (n + (pl + D) / ((L.length : Int) + 1))) (n + (pl + D) / ((L.length : Int) + 1)) ((pl + D) % ((L.length : Int) + 1) + 1) (pbias D ((L.length : Int) + 1) ((L.length : Int) == (basic : Int))) q := by
  obtain ⟨G, rfl⟩ : ∃ G, F = G + 1 := ⟨F - 1, by omega⟩
  obtain ⟨-, -, h1, h2⟩ := rdM_le h0 _ _ _ _ _ PW.start h
  simp only at h1 h2
  refine ⟨G, by omega, ?_⟩
  rw [outM, if_pos hp, h]

/-- The last mark's place below k, or -1. -/
def mkL (s : ByteArray) : Nat → Int
  | 0 => -1
  | k + 1 => if bt s k = 45 then (k : Int) else mkL s k
theorem mkL_ge (s : ByteArray) : ∀ k, -1 ≤ mkL s k ∧ mkL s k < k
  | 0 => by simp [mkL]
  | k + 1 => by
    unfold mkL
    have := mkL_ge s k
    split <;> omega
/-- The bytes below k, as numbers. -/
def btl (s : ByteArray) (k : Nat) : List Int := (List.range k).map (fun j => (bt s j : Int))
theorem btl_succ (s : ByteArray) (k : Nat) : btl s (k + 1) = btl s k ++ [(bt s k : Int)] := by simp [btl, List.range_succ]
theorem btl_len (s : ByteArray) (k : Nat) : (btl s k).length = k := by simp [btl]

/-- A digit, for the walks. -/
theorem rdP_end {g : Nat → Int} {N F p : Nat} {b k D W : Int} (h : ¬ p < N) : rdP g N b F p k D W = none := by
  cases F
  · rfl
  · rw [rdP, if_neg h]
theorem rdP_no {g : Nat → Int} {N F p : Nat} {b k D W : Int} (h : pv (g p) < 0 ∨ 22282220 < D + pv (g p) * W) : rdP g N b F p k D W = none := by
  cases F
  · rfl
  · by_cases hp : p < N
    · rw [rdP, if_pos hp, if_pos h]
    · rw [rdP, if_neg hp]
theorem rdP_last {g : Nat → Int} {N F p : Nat} {b k D W : Int} (hF : N - p < F) (hp : p < N) (h : ¬ (pv (g p) < 0 ∨ 22282220 < D + pv (g p) * W)) (ht : pv (g p) < thr k b) : rdP g N b F p k D W = some (D + pv (g p) * W, p + 1) := by
  obtain ⟨G, rfl⟩ : ∃ G, F = G + 1 := ⟨F - 1, by omega⟩
  rw [rdP, if_pos hp, if_neg h, if_pos ht]
theorem rdP_more {g : Nat → Int} {N F p : Nat} {b k D W : Int} (hF : N - p < F) (hp : p < N) (h : ¬ (pv (g p) < 0 ∨ 22282220 < D + pv (g p) * W)) (ht : ¬ pv (g p) < thr k b) :
    ∃ G, N - (p + 1) < G ∧ rdP g N b F p k D W = rdP g N b G (p + 1) (k + 36) (D + pv (g p) * W) (W * (36 - thr k b)) := by
  obtain ⟨G, rfl⟩ : ∃ G, F = G + 1 := ⟨F - 1, by omega⟩
  exact ⟨G, by omega, by rw [rdP, if_pos hp, if_neg h, if_neg ht]⟩
theorem rdM_end {g : Nat → Int} {N F p : Nat} {b old k D W : Int} (h : ¬ p < N) : rdM g N b old F p k D W = none := by
  cases F
  · rfl
  · rw [rdM, if_neg h]
theorem rdM_no {g : Nat → Int} {N F p : Nat} {b old k D W : Int} (h : pv (g p) < 0 ∨ 1099511627776 < old + D ∨ 1099511627776 < W) : rdM g N b old F p k D W = none := by
  cases F
  · rfl
  · by_cases hp : p < N
    · rw [rdM, if_pos hp, if_pos h]
    · rw [rdM, if_neg hp]
theorem rdM_last {g : Nat → Int} {N F p : Nat} {b old k D W : Int} (hF : N - p < F) (hp : p < N) (h : ¬ (pv (g p) < 0 ∨ 1099511627776 < old + D ∨ 1099511627776 < W)) (ht : pv (g p) < thr k b) : rdM g N b old F p k D W = some (D + pv (g p) * W, p + 1) := by
  obtain ⟨G, rfl⟩ : ∃ G, F = G + 1 := ⟨F - 1, by omega⟩
  rw [rdM, if_pos hp, if_neg h, if_pos ht]
theorem rdM_more {g : Nat → Int} {N F p : Nat} {b old k D W : Int} (hF : N - p < F) (hp : p < N) (h : ¬ (pv (g p) < 0 ∨ 1099511627776 < old + D ∨ 1099511627776 < W)) (ht : ¬ pv (g p) < thr k b) :
    ∃ G, N - (p + 1) < G ∧ rdM g N b old F p k D W = rdM g N b old G (p + 1) (k + 36) (D + pv (g p) * W) (W * (36 - thr k b)) := by
  obtain ⟨G, rfl⟩ : ∃ G, F = G + 1 := ⟨F - 1, by omega⟩
  exact ⟨G, by omega, by rw [rdM, if_pos hp, if_neg h, if_neg ht]⟩
def rdD : Option (Int × Nat) → Int
  | none => 0
  | some r => r.1
def rdZ (p : Nat) : Option (Int × Nat) → Int
  | none => 0
  | some r => (r.2 : Int) - p

end Go.Proofs.Ytjpdllhhganbpaa
