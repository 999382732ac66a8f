/- Plain facts: a text as names are compared: the model gathers what is no blank, with one blank between; the program lowers, drops blanks side by side and trims. Nothing of the program. -/
import Derived.Test.YtgdjaapjdmancaaLow
import Derived.Lib.Strings
namespace Go.Proofs.Ytgdjaapjdmancaa
set_option linter.unusedVariables false
set_option linter.unusedSimpArgs false
open Go Go.RowKit

/-- What the model has gathered behind the first k bytes. -/
def plL (s : ByteArray) : Nat → List Int
  | 0 => []
  | k + 1 => if bt s k = 32 then plL s k else if 0 < (plL s k).length ∧ bt s (k - 1) = 32 then plL s k ++ [32, (bt s k : Int)] else plL s k ++ [(bt s k : Int)]

theorem plL_len (s : ByteArray) : ∀ k, (plL s k).length ≤ 2 * k
  | 0 => Nat.zero_le _
  | k + 1 => by
    have := plL_len s k
    unfold plL
    split
    · omega
    · split <;> simp <;> omega

theorem plL_byte (s : ByteArray) : ∀ k, ∀ x ∈ plL s k, 0 ≤ x ∧ x < 256
  | 0, x, h => absurd h (by simp [plL])
  | k + 1, x, h => by
    have ih := plL_byte s k
    have hb := bt_lt s k
    unfold plL at h
    split at h
    · exact ih x h
    · split at h
      · rcases List.mem_append.1 h with h | h
        · exact ih x h
        · simp at h; omega
      · rcases List.mem_append.1 h with h | h
        · exact ih x h
        · simp at h; omega

/-- A byte, lowered. -/
def lowI (z : Int) : Int := lowB z.toNat

theorem lowI_bt (c : Nat) : lowI (c : Int) = lowB c := by unfold lowI; rw [Int.toNat_natCast]
theorem lowB_blank (c : Nat) : lowB c = 32 ↔ c = 32 := by unfold lowB; split <;> omega
theorem lowB_32 : lowB 32 = 32 := rfl
theorem lowI_32 : lowI 32 = 32 := rfl
theorem lowB_lt (c : Nat) (h : c < 256) : 0 ≤ lowB c ∧ lowB c < 256 := by unfold lowB; split <;> omega

/-- What the program has gathered behind the first k bytes. -/
def plQ (s : ByteArray) : Nat → List Int
  | 0 => [32]
  | k + 1 => if lowF s k = 32 ∧ (plQ s k).getLast? = some 32 then plQ s k else plQ s k ++ [lowF s k]

theorem plQ_len (s : ByteArray) : ∀ k, (plQ s k).length ≤ k + 1
  | 0 => Nat.le_refl _
  | k + 1 => by
    have := plQ_len s k
    unfold plQ
    split
    · omega
    · simp; omega
theorem plQ_ne (s : ByteArray) : ∀ k, 1 ≤ (plQ s k).length
  | 0 => Nat.le_refl _
  | k + 1 => by
    have := plQ_ne s k
    unfold plQ
    split
    · omega
    · simp

/-- The blank that the program has behind. -/
def plE (s : ByteArray) (k : Nat) : List Int := if 0 < (plL s k).length ∧ bt s (k - 1) = 32 then [32] else []

theorem plL_last (s : ByteArray) : ∀ k, (plL s k).getLast? ≠ some 32
  | 0 => by simp [plL]
  | k + 1 => by
    unfold plL
    split
    · exact plL_last s k
    · rename_i h
      split <;> simp <;> omega
theorem plL_first (s : ByteArray) : ∀ k, (plL s k).head? ≠ some 32
  | 0 => by simp [plL]
  | k + 1 => by
    have ih := plL_first s k
    unfold plL
    split
    · exact ih
    · rename_i h
      split
      · rename_i h2
        cases hp : plL s k with
        | nil => rw [hp] at h2; simp at h2
        | cons a l => rw [hp] at ih; simpa using ih
      · cases hp : plL s k with
        | nil => simp; omega
        | cons a l => rw [hp] at ih; simpa using ih

theorem low_last {L : List Int} (hL : ∀ x ∈ L, 0 ≤ x ∧ x < 256) (h : L.getLast? ≠ some 32) : (L.map lowI).getLast? ≠ some 32 := by
  rw [List.getLast?_map]
  cases hl : L.getLast? with
  | none => simp
  | some a =>
    rw [hl] at h
    simp only [Option.map_some]
    intro e
    simp only [Option.some.injEq] at e
    have ha := hL a (List.mem_of_getLast? hl)
    unfold lowI at e
    have := (lowB_blank a.toNat).1 e
    apply h
    congr 1
    omega

theorem plQ_is (s : ByteArray) : ∀ k, plQ s k = 32 :: (plL s k).map lowI ++ plE s k
  | 0 => rfl
  | k + 1 => by
    have ih := plQ_is s k
    have hlast := low_last (plL_byte s k) (plL_last s k)
    have hf : lowF s k = lowB (bt s k) := rfl
    by_cases hc : bt s k = 32
    · have hl : plL s (k + 1) = plL s k := by rw [plL, if_pos hc]
      have he : plE s (k + 1) = if 0 < (plL s k).length then [32] else [] := by
        unfold plE
        rw [hl, Nat.add_sub_cancel]
        simp [hc]
      have hlow : lowF s k = 32 := by rw [hf, hc]; rfl
      rw [plQ, hl, he, hlow]
      by_cases h0 : 0 < (plL s k).length
      · rw [if_pos h0]
        by_cases hb : bt s (k - 1) = 32
        · have e1 : plE s k = [32] := by unfold plE; rw [if_pos ⟨h0, hb⟩]
          rw [if_pos ⟨rfl, by rw [ih, e1, List.getLast?_append]; rfl⟩, ih, e1]
        · have e1 : plE s k = [] := by unfold plE; rw [if_neg (fun h => hb h.2)]
          rw [if_neg, ih, e1]
          · simp
          · rintro ⟨-, h⟩
            rw [ih, e1, List.append_nil, List.getLast?_cons] at h
            cases hx : ((plL s k).map lowI).getLast? with
            | none =>
              rw [List.getLast?_eq_none_iff] at hx
              have := congrArg List.length hx
              simp at this
              rw [this] at h0
              simp at h0
            | some a =>
              rw [hx] at h hlast
              simp at h
              exact hlast (by rw [h])
      · have e0 : plL s k = [] := List.eq_nil_of_length_eq_zero (by omega)
        have e1 : plE s k = [] := by unfold plE; rw [if_neg (fun h => h0 h.1)]
        rw [if_neg h0, if_pos ⟨rfl, by rw [ih, e1, e0]; rfl⟩, ih, e1]
    · have hlow : ¬ lowF s k = 32 := by rw [hf]; exact fun h => hc ((lowB_blank _).1 h)
      have he : plE s (k + 1) = [] := by unfold plE; rw [Nat.add_sub_cancel, if_neg (fun h => hc h.2)]
      rw [plQ, if_neg (fun h => hlow h.1), he, List.append_nil, ih, plL, if_neg hc]
      unfold plE
      split
      · simp [lowI_32, lowI_bt, hf]
      · simp [lowI_bt, hf]

/-- A text as names are compared. -/
def plainS (s : ByteArray) : ByteArray := strOfNums ((plL s s.size).map lowI)

/-- Bytes of a text made of numbers. -/
theorem bt_of_nums (L : List Int) (hL : ∀ x ∈ L, 0 ≤ x ∧ x < 256) (i : Nat) (h : i < L.length) : (bt (strOfNums L) i : Int) = L[i] := by
  have h' : i < (strOfNums L).size := by rw [strOfNums_size]; exact h
  rw [← bt_get _ i h']
  have hx := hL _ (List.getElem_mem h)
  have : (strOfNums L)[i]'h' = UInt8.ofNat (L[i]).toNat := by
    have e : (strOfNums L)[i]'h' = (strOfNums L).data.toList[i]'(by rw [strOfNums_data]; simpa using h) := rfl
    rw [e]
    simp [strOfNums_data]
  rw [this]
  simp
  omega

/-- What a trim leaves of s: from k up to m. -/
structure TrimAt (s : ByteArray) (k m : Nat) : Prop where
  km : k ≤ m
  ms : m ≤ s.size
  lo : ∀ j, j < k → bt s j = 32
  hi : ∀ j, m ≤ j → j < s.size → bt s j = 32
  fst : k < m → bt s k ≠ 32
  lst : k < m → bt s (m - 1) ≠ 32

theorem extract_nums (L : List Int) (k m : Nat) : (strOfNums L).extract k m = strOfNums ((L.drop k).take (m - k)) := by
  refine ByteArray.ext (Array.ext' ?_)
  rw [Lib.extract_data, strOfNums_data, strOfNums_data, List.map_take, List.map_drop]

theorem trim_is {A E : List Int} (hA : ∀ x ∈ A, 0 ≤ x ∧ x < 256) (hE : ∀ x ∈ E, x = 32) (hf : A.head? ≠ some 32) (hl : A.getLast? ≠ some 32) {k m : Nat} (h : TrimAt (strOfNums (32 :: A ++ E)) k m) : (strOfNums (32 :: A ++ E)).extract k m = strOfNums A := by
  have hall : ∀ x ∈ 32 :: A ++ E, 0 ≤ x ∧ x < 256 := by
    intro x hx
    rcases List.mem_append.1 hx with h | h
    · rcases List.mem_cons.1 h with h | h
      · omega
      · exact hA x h
    · have := hE x h; omega
  have hlen : (32 :: A ++ E).length = 1 + A.length + E.length := by simp; omega
  have hb : ∀ i (hi : i < (32 :: A ++ E).length), (bt (strOfNums (32 :: A ++ E)) i : Int) = (32 :: A ++ E)[i] := fun i hi => bt_of_nums _ hall i hi
  have hs : (strOfNums (32 :: A ++ E)).size = 1 + A.length + E.length := by rw [strOfNums_size, hlen]
  obtain ⟨km, ms, lo, hi, fst, lst⟩ := h
  rw [hs] at ms hi
  have b0 : bt (strOfNums (32 :: A ++ E)) 0 = 32 := by
    have h1 := hb 0 (by rw [hlen]; omega)
    have h2 : (32 :: A ++ E)[0]'(by rw [hlen]; omega) = (32 : Int) := rfl
    rw [h2] at h1
    omega
  have bE : ∀ i, A.length < i → i < 1 + A.length + E.length → bt (strOfNums (32 :: A ++ E)) i = 32 := by
    intro i h1 h2
    have h3 := hb i (by rw [hlen]; omega)
    rw [List.getElem_append_right (by simp; omega)] at h3
    have := hE _ (List.getElem_mem (l := E) (n := i - (32 :: A).length) (by simp; omega))
    omega
  have bA : ∀ i (hi : i < A.length), (bt (strOfNums (32 :: A ++ E)) (i + 1) : Int) = A[i] := by
    intro i h1
    have h3 := hb (i + 1) (by rw [hlen]; omega)
    rw [List.getElem_append_left (by simp; omega), List.getElem_cons_succ] at h3
    exact h3
  rw [extract_nums]
  congr 1
  by_cases h0 : A.length = 0
  · have hA0 : A = [] := List.eq_nil_of_length_eq_zero h0
    have : k = m := by
      by_cases c : k < m
      · have := fst c
        exfalso
        apply this
        by_cases z : k = 0
        · subst z; exact b0
        · exact bE k (by omega) (by omega)
      · omega
    rw [this, Nat.sub_self, hA0]
    rfl
  · have f1 : bt (strOfNums (32 :: A ++ E)) 1 ≠ 32 := by
      have := bA 0 (by omega)
      intro e
      simp only [Nat.zero_add] at this
      rw [e] at this
      apply hf
      rw [List.head?_eq_getElem?, List.getElem?_eq_getElem (by omega), ← this]
      rfl
    have l1 : bt (strOfNums (32 :: A ++ E)) A.length ≠ 32 := by
      have := bA (A.length - 1) (by omega)
      intro e
      rw [show A.length - 1 + 1 = A.length by omega, e] at this
      apply hl
      rw [List.getLast?_eq_getElem?, List.getElem?_eq_getElem (by omega), ← this]
      rfl
    have k1 : ¬ 1 < k := fun c => f1 (lo 1 c)
    have m1 : A.length < m := by
      rcases Nat.lt_or_ge A.length m with c | c
      · exact c
      · exact absurd (hi A.length c (by omega)) l1
    have k0 : k ≠ 0 := by
      intro e
      have := fst (by omega)
      rw [e] at this
      exact this b0
    have mm : m = A.length + 1 := by
      by_cases c : m = A.length + 1
      · exact c
      · exact absurd (bE (m - 1) (by omega) (by omega)) (lst (by omega))
    have kk : k = 1 := by omega
    subst kk mm
    simp

theorem plain_trim (s : ByteArray) {k m : Nat} (h : TrimAt (strOfNums (plQ s s.size)) k m) : (strOfNums (plQ s s.size)).extract k m = plainS s := by
  have hb := plL_byte s s.size
  have hb2 : ∀ x ∈ (plL s s.size).map lowI, 0 ≤ x ∧ x < 256 := by
    intro x hx
    obtain ⟨y, hy, rfl⟩ := List.mem_map.1 hx
    have := hb y hy
    exact lowB_lt _ (by omega)
  rw [plQ_is] at h ⊢
  refine trim_is hb2 ?_ ?_ (low_last hb (plL_last s s.size)) h
  · intro x hx
    unfold plE at hx
    split at hx
    · simpa using hx
    · simp at hx
  · have h1 := plL_first s s.size
    rw [List.head?_map]
    cases hl : (plL s s.size).head? with
    | none => simp
    | some a =>
      rw [hl] at h1
      simp only [Option.map_some]
      intro e
      simp only [Option.some.injEq] at e
      have ha := hb a (List.mem_of_head? hl)
      have := (lowB_blank a.toNat).1 e
      apply h1
      congr 1
      omega

/-- The model lowers what it has gathered. -/
theorem plain_low (s : ByteArray) : strOfNums (nums (lowF (strOfNums (plL s s.size))) (strOfNums (plL s s.size)).size) = plainS s := by
  unfold plainS
  congr 1
  rw [strOfNums_size]
  apply List.ext_getElem
  · simp [nums]
  · intro i h1 h2
    simp only [nums, List.length_map, List.length_range] at h1
    have := bt_of_nums (plL s s.size) (plL_byte s s.size) i h1
    simp only [nums, List.getElem_map, List.getElem_range]
    unfold lowF lowI
    congr 1
    omega

end Go.Proofs.Ytgdjaapjdmancaa
