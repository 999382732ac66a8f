/- Plain notions: a word's puny text, as a string, is read back. Nothing of the program but the readers' answer. -/
import Derived.Test.YtjpdllhhganbpaaRpW
import Derived.Test.YtjpdllhhganbpaaRps
namespace Go.Proofs.Ytjpdllhhganbpaa
set_option linter.unusedVariables false
set_option linter.unusedSimpArgs false

theorem bt_ofN (L : List Int) (hL : ∀ x ∈ L, 0 ≤ x ∧ x < 256) (i : Nat) (h : i < L.length) : (bt (strOfNums L) i : Int) = L[i] := by
  have h' : i < (strOfNums L).size := by rw [strOfNums_size]; exact h
  rw [← bt_get _ i h']
  have hx := hL _ (List.getElem_mem h)
  have : (strOfNums L)[i]'h' = UInt8.ofNat (L[i]).toNat := by
    have e : (strOfNums L)[i]'h' = (strOfNums L).data.toList[i]'(by rw [strOfNums_data]; simpa using h) := rfl
    rw [e]
    simp [strOfNums_data]
  rw [this]
  simp
  omega
theorem bt_ofn (L : List Int) (hL : ∀ x ∈ L, 0 ≤ x ∧ x < 256) (i : Nat) (h : i < L.length) : (bt (strOfNums L) i : Int) = L.getD i 0 := by
  rw [bt_ofN L hL i h, List.getD_eq_getElem?_getD, List.getElem?_eq_getElem h]
  rfl

theorem near_is (f : Nat → Int) : ∀ k, (∀ i, i < k → 0 ≤ f i) → ∀ x, x ∈ nearL f k → 0 ≤ x ∧ x < 128
  | 0, _, x, hx => by cases hx
  | k + 1, h, x, hx => by
    unfold nearL at hx
    split at hx
    · rename_i hk
      rcases List.mem_append.1 hx with h1 | h1
      · exact near_is f k (fun i hi => h i (by omega)) x h1
      · obtain rfl := List.mem_singleton.1 h1
        exact ⟨h k (by omega), hk⟩
    · exact near_is f k (fun i hi => h i (by omega)) x hx

/-- The last mark of such a text. -/
theorem mk_text {s : ByteArray} {st : Nat} (h0 : mkL s st = (st : Int) - 1) : ∀ k, (∀ i, st ≤ i → i < st + k → bt s i ≠ 45) → mkL s (st + k) = (st : Int) - 1
  | 0, _ => h0
  | k + 1, h => by
    show (if bt s (st + k) = 45 then ((st + k : Nat) : Int) else mkL s (st + k)) = _
    rw [if_neg (h _ (by omega) (by omega))]
    exact mk_text h0 k (fun i a b => h i a (by omega))

theorem puny_size {n : Nat} {f : Nat → Int} (hw : wordB n f = true) : punyS n f = strOfNums (punyL f n) := by unfold punyS; rw [if_pos hw]

theorem rp_back (L : List Int) (hw : wordB L.length (fun i => L.getD i 0) = true) (h60 : (punyS L.length (fun i => L.getD i 0)).size ≤ 60) : rpR (punyS L.length (fun i => L.getD i 0)) = some L := by
  obtain ⟨w1, w2, w3⟩ := word_is hw
  obtain ⟨f, hfd⟩ : ∃ f : Nat → Int, (fun i => L.getD i 0) = f := ⟨_, rfl⟩
  have hfi : ∀ i, L.getD i 0 = f i := fun i => by rw [← hfd]
  rw [hfd] at hw h60 ⊢
  replace w3 : ∀ i, i < L.length → 0 ≤ f i ∧ f i ≤ 1114111 := fun i hi => by rw [← hfi i]; exact w3 i hi
  obtain ⟨len, hlen⟩ : ∃ len, L.length = len := ⟨_, rfl⟩
  rw [hlen] at hw h60 w1 w2 w3 ⊢
  have B : OutB f len 128 ⟨cnt f 128 len, 0, 72, markL (nearL f len)⟩ := by
    refine ⟨rfl, by omega, by omega, Int.le_refl _, by simp only []; omega, by simp only []; omega, by simp only []; omega, ?_⟩
    have h1 := nearL_len f len
    have h2 := cnt_le f 128 len
    show (markL (nearL f len)).length ≤ _
    unfold markL
    split <;> simp only [List.length_append, List.length_singleton] <;> omega
  obtain ⟨r, hT, hr⟩ := pout_pre (basic := cnt f 128 len) w2 (fun i hi => (w3 i hi).2) len _ _ B
  simp only [] at hT
  have hnear := near_is f len (fun i hi => (w3 i hi).1)
  have hmark : ∀ x, x ∈ markL (nearL f len) → 0 ≤ x ∧ x < 128 := by
    intro x hx
    unfold markL at hx
    split at hx
    · rcases List.mem_append.1 hx with h | h
      · exact hnear x h
      · obtain rfl := List.mem_singleton.1 h; omega
    · exact hnear x hx
  have hP : punyL f len = markL (nearL f len) ++ r := hT
  have hT256 : ∀ x ∈ punyL f len, 0 ≤ x ∧ x < 256 := by
    intro x hx
    rw [hP] at hx
    rcases List.mem_append.1 hx with h | h
    · have := hmark x h; omega
    · have := hr x h; omega
  have hs := puny_size hw
  rw [hs] at h60 ⊢
  have hbt := bt_ofn (punyL f len) hT256
  have hsz : (strOfNums (punyL f len)).size = (punyL f len).length := strOfNums_size _
  obtain ⟨s, hsd⟩ : ∃ s, strOfNums (punyL f len) = s := ⟨_, rfl⟩
  rw [hsd] at h60 hbt hsz ⊢
  have hPl : (punyL f len).length = (markL (nearL f len)).length + r.length := by rw [hP, List.length_append]
  have hnl := nearL_len f len
  have hgl : ∀ i, i < (markL (nearL f len)).length → (bt s i : Int) = (markL (nearL f len)).getD i 0 := by
    intro i hi
    rw [hbt i (by omega), hP]
    simp [List.getD_eq_getElem?_getD, List.getElem?_append_left hi]
  have hst : mkL s (markL (nearL f len)).length = ((markL (nearL f len)).length : Int) - 1 ∧ (((markL (nearL f len)).length : Int) - 1).toNat = cnt f 128 len ∧ ∀ i, i < cnt f 128 len → (bt s i : Int) = (nearL f len).getD i 0 := by
    by_cases h0 : 0 < (nearL f len).length
    · have e : markL (nearL f len) = nearL f len ++ [45] := by unfold markL; rw [if_pos h0]
      have hl1 : (markL (nearL f len)).length = cnt f 128 len + 1 := by rw [e, List.length_append, hnl]; rfl
      refine ⟨?_, by omega, fun i hi => ?_⟩
      · have h45 := hgl (cnt f 128 len) (by omega)
        rw [e, ← hnl] at h45
        simp at h45
        rw [hl1, ← hnl]
        show (if bt s (nearL f len).length = 45 then (((nearL f len).length : Nat) : Int) else _) = _
        rw [if_pos (by omega)]
        omega
      · rw [hgl i (by omega), e]
        simp [List.getD_eq_getElem?_getD, List.getElem?_append_left (show i < (nearL f len).length by omega)]
    · have e : markL (nearL f len) = nearL f len := by unfold markL; rw [if_neg h0]
      rw [e]
      have hl0 : (nearL f len).length = 0 := by omega
      rw [hl0]
      exact ⟨rfl, by omega, fun i hi => by omega⟩
  obtain ⟨m1, m2, m3⟩ := hst
  have hmk : mkL s s.size = ((markL (nearL f len)).length : Int) - 1 := by
    have := mk_text m1 r.length (fun i a b => by
      have h1 := hbt i (by omega)
      have h2 := hr ((punyL f len).getD i 0) (by
        rw [hP, List.getD_eq_getElem?_getD, List.getElem?_append_right a, List.getElem?_eq_getElem (by omega)]
        exact List.getElem_mem _)
      omega)
    rw [hsz, hPl]
    exact this
  have hbtl : btl s (cnt f 128 len) = nearL f len := by
    apply List.ext_getElem
    · rw [btl_len, hnl]
    · intro i h1 h2
      have := m3 i (by omega)
      rw [List.getD_eq_getElem?_getD, List.getElem?_eq_getElem h2] at this
      simp [btl]
      exact this
  have hrs : rpS s = (markL (nearL f len)).length := by unfold rpS; rw [hmk]; omega
  have hJ : DJ f len 128 ⟨cnt f 128 len, 0, 72, markL (nearL f len)⟩ (nearL f len) 128 0 := ⟨near_lt f len, hnl, Int.le_refl _, by omega, by simp only []; omega⟩
  obtain ⟨R, hR, hR1, hR2⟩ := pout_read (g := fun i => (bt s i : Int)) (basic := cnt f 128 len) w2 (fun i hi => (w3 i hi).2) len ⟨cnt f 128 len, 0, 72, markL (nearL f len)⟩ 128 (nearL f len) 128 0 (s.size - (markL (nearL f len)).length + 1) (by simp only []; omega) B hJ rfl
    ⟨Nat.le_refl _, fun j hj => hbt j hj⟩ (by
      show (punyL f len).length - _ < _
      simp only []
      omega)
  obtain rfl : R = L := by
    apply List.ext_getElem (by omega)
    intro i h1 h2
    have := hR2 i (by omega)
    rw [← hfi i, List.getD_eq_getElem?_getD, List.getD_eq_getElem?_getD, List.getElem?_eq_getElem h1, List.getElem?_eq_getElem h2] at this
    exact this
  unfold rpR
  rw [if_pos h60, hmk, m2, hbtl, hrs, hsz]
  rw [hsz] at hR
  have hR' : outM (fun i => (bt s i : Int)) (punyL f len).length (cnt f 128 len) ((punyL f len).length - (markL (nearL f len)).length + 1) (nearL f len) 128 0 72 (markL (nearL f len)).length = some R := hR
  rw [hR', finO_some, hfd, hlen, hw, hs, hsd, eqS_refl]
  rfl

/-- What is read is written as itself. -/
theorem rp_again {s : ByteArray} {L : List Int} (h : rpR s = some L) : wordB L.length (fun i => L.getD i 0) = true ∧ punyS L.length (fun i => L.getD i 0) = s := by
  unfold rpR at h
  split at h
  · generalize outM (fun i => (bt s i : Int)) s.size (mkL s s.size).toNat (s.size - rpS s + 1) (btl s (mkL s s.size).toNat) 128 0 72 (rpS s) = o at h
    cases o with
    | none => cases h
    | some M =>
      rw [finO_some] at h
      split at h
      · rename_i hh
        obtain rfl := Option.some.inj h
        rw [Bool.and_eq_true] at hh
        exact ⟨hh.1, (eqS_iff _ _).1 hh.2⟩
      · cases h
  · cases h

/-- Such a text is short. -/
theorem pdig_short (b : Int) : ∀ (j F : Nat) (k q : Int), 0 ≤ q → q < 10 ^ j → (pdig b F k q).length ≤ j + 1
  | j, 0, k, q, hq, h => Nat.zero_le _
  | 0, F + 1, k, q, hq, h => by
    have := thr_ge k b
    have h1 : q < 1 := h
    unfold pdig
    rw [if_pos (by omega)]
    exact Nat.le_refl _
  | j + 1, F + 1, k, q, hq, h => by
    have t1 := thr_ge k b
    have t2 := thr_le k b
    unfold pdig
    by_cases ht : q < thr k b
    · rw [if_pos ht]; simp
    · rw [if_neg ht]
      have hp : (0 : Int) < 10 ^ j := Int.pow_pos (by omega)
      have hle : (10 : Int) ^ j * 10 ≤ 10 ^ j * (36 - thr k b) := Int.mul_le_mul_of_nonneg_left (by omega) (by omega)
      have he : (10 : Int) ^ (j + 1) = 10 ^ j * 10 := Int.pow_succ ..
      have hd : (q - thr k b) / (36 - thr k b) < 10 ^ j := Int.ediv_lt_of_lt_mul (by omega) (by omega)
      have := pdig_short b j F (k + 36) ((q - thr k b) / (36 - thr k b)) (quo_less t1 t2 (Int.not_lt.1 ht)).1 hd
      simp only [List.length_cons]
      omega
theorem pass_short {f : Nat → Int} {len basic : Nat} {m : Int} {s : PS} (hl : len ≤ 20) (hm0 : 128 ≤ m) (hm1 : m ≤ 1114111) (B : InB f len m 0 s) (h0 : s.o.length ≤ 21 + 10 * s.h) :
    ∀ k, k ≤ len → (pinF basic m f k s).o.length ≤ 21 + 10 * (pinF basic m f k s).h
  | 0, _ => h0
  | k + 1, hk => by
    have ih := pass_short (basic := basic) hl hm0 hm1 B h0 k (by omega)
    have B' := (pass_pre (basic := basic) hl hm0 hm1 B k (by omega)).1
    have d0 := B'.d0
    have d1 := B'.d1
    show (pin basic m (f k) (pinF basic m f k s)).o.length ≤ 21 + 10 * (pin basic m (f k) (pinF basic m f k s)).h
    generalize pinF basic m f k s = t at *
    unfold pin
    split
    · have : (dgs t.b t.d).length ≤ 9 + 1 := pdig_short _ 9 _ _ _ d0 (by have : (10 : Int) ^ 9 = 1000000000 := rfl; omega)
      simp only [List.length_append]
      omega
    · split
      · exact ih
      · exact ih
theorem pout_short {f : Nat → Int} {len basic : Nat} (hl : len ≤ 20) (hf : ∀ i, i < len → f i ≤ 1114111) : ∀ (F : Nat) (s : PS) (n : Int), OutB f len n s → s.o.length ≤ 21 + 10 * s.h → (pout basic len f F s n).length ≤ 300
  | 0, s, n, B, h0 => by
    have h1 := B.h
    have h2 := cnt_le f n len
    show s.o.length ≤ 300
    omega
  | F + 1, s, n, B, h0 => by
    by_cases hs : s.h < len
    · have hx : ∃ i, i < len ∧ n ≤ f i := cnt_some (by rw [← B.h]; exact hs)
      have hm := lst_spec (m := 1114112) hf (by omega) hx
      obtain ⟨h1, h2, h3, h4, h5, h6⟩ := B.into hl hs hf hm
      have B' := (pass_pre (basic := basic) hl h1 h2 h6 len (Nat.le_refl _)).1
      have hp := pass_short (basic := basic) hl h1 h2 h6 h0 len (Nat.le_refl _)
      rw [pout, if_pos hs]
      exact pout_short hl hf F _ _ (B'.out hl h1 h2) hp
    · have h1 := B.h
      have h2 := cnt_le f n len
      rw [pout, if_neg hs]
      omega
theorem puny_short (len : Nat) (f : Nat → Int) : (punyS len f).size ≤ 300 := by
  cases hw : wordB len f
  · unfold punyS; rw [hw]; exact Nat.zero_le _
  · obtain ⟨w1, w2, w3⟩ := word_is hw
    rw [puny_size hw, strOfNums_size]
    have h1 := nearL_len f len
    have h2 := cnt_le f 128 len
    have hm : (markL (nearL f len)).length ≤ cnt f 128 len + 1 := by
      unfold markL
      split
      · rw [List.length_append, List.length_singleton]; omega
      · omega
    refine pout_short w2 (fun i hi => (w3 i hi).2) len _ _ ⟨rfl, by omega, by omega, Int.le_refl _, by simp only []; omega, by simp only []; omega, by simp only []; omega, ?_⟩ ?_
    · show (markL (nearL f len)).length ≤ _
      omega
    · show (markL (nearL f len)).length ≤ 21 + 10 * cnt f 128 len
      omega

end Go.Proofs.Ytjpdllhhganbpaa
