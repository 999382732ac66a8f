/- Plain facts: a text as names are compared: the model gathers what is no blank, with one blank between; the program lowers, drops blanks side by side and trims. Nothing of the program. Plain notions: puny texts: thresholds, digits, bias, the order in which numbers are told. Nothing of the program. Walks: words, near bytes, the least number, the program's puny state. Walks: strings.Trim of blanks, texts as names are compared, NameSame of both. -/
import Derived.Lib.Strings
import Derived.Test.YtollgoadgjlccaaGreatDoorCz36
import Derived.Test.YtollgoadgjlccaaGreatDoorCz01
import Derived.Maps.AppendAt
import Derived.Laws.Rows
import Derived.Test.YtollgoadgjlccaaGreatDoorCz02
import Derived.Test.YtollgoadgjlccaaGreatDoorCz29
import Derived.Lib.QuietBelow
import Derived.Deep.DeepBigQuietO
namespace Go.Proofs.YtollgoadgjlccaaGreatDoor

section
set_option linter.unusedVariables false
set_option linter.unusedSimpArgs false

open Go Go.RowKit

/-- What the model has gathered behind the first k bytes. -/
def plL (s : ByteArray) : Nat → List Int
  | 0 => []
  | k + 1 => if bt s k = 32 then plL s k else if 0 < (plL s k).length ∧ bt s (k - 1) = 32 then plL s k ++ [32, (bt s k : Int)] else plL s k ++ [(bt s k : Int)]

theorem plL_len (s : ByteArray) : ∀ k, (plL s k).length ≤ 2 * k
  | 0 => Nat.zero_le _
  | k + 1 => by
    have := plL_len s k
    unfold plL
    split
    · omega
    · split <;> simp <;> omega

theorem plL_byte (s : ByteArray) : ∀ k, ∀ x ∈ plL s k, 0 ≤ x ∧ x < 256
  | 0, x, h => absurd h (by simp [plL])
  | k + 1, x, h => by
    have ih := plL_byte s k
    have hb := bt_lt s k
    unfold plL at h
    split at h
    · exact ih x h
    · split at h
      · rcases List.mem_append.1 h with h | h
        · exact ih x h
        · simp at h; omega
      · rcases List.mem_append.1 h with h | h
        · exact ih x h
        · simp at h; omega

/-- A byte, lowered. -/
def lowI (z : Int) : Int := lowB z.toNat

theorem lowI_bt (c : Nat) : lowI (c : Int) = lowB c := by unfold lowI; rw [Int.toNat_natCast]

theorem lowB_blank (c : Nat) : lowB c = 32 ↔ c = 32 := by unfold lowB; split <;> omega

theorem lowI_32 : lowI 32 = 32 := rfl

theorem lowB_lt (c : Nat) (h : c < 256) : 0 ≤ lowB c ∧ lowB c < 256 := by unfold lowB; split <;> omega

/-- What the program has gathered behind the first k bytes. -/
def plQ (s : ByteArray) : Nat → List Int
  | 0 => [32]
  | k + 1 => if lowF s k = 32 ∧ (plQ s k).getLast? = some 32 then plQ s k else plQ s k ++ [lowF s k]

theorem plQ_len (s : ByteArray) : ∀ k, (plQ s k).length ≤ k + 1
  | 0 => Nat.le_refl _
  | k + 1 => by
    have := plQ_len s k
    unfold plQ
    split
    · omega
    · simp; omega

theorem plQ_ne (s : ByteArray) : ∀ k, 1 ≤ (plQ s k).length
  | 0 => Nat.le_refl _
  | k + 1 => by
    have := plQ_ne s k
    unfold plQ
    split
    · omega
    · simp

/-- The blank that the program has behind. -/
def plE (s : ByteArray) (k : Nat) : List Int := if 0 < (plL s k).length ∧ bt s (k - 1) = 32 then [32] else []

theorem plL_last (s : ByteArray) : ∀ k, (plL s k).getLast? ≠ some 32
  | 0 => by simp [plL]
  | k + 1 => by
    unfold plL
    split
    · exact plL_last s k
    · rename_i h
      split <;> simp <;> omega

theorem plL_first (s : ByteArray) : ∀ k, (plL s k).head? ≠ some 32
  | 0 => by simp [plL]
  | k + 1 => by
    have ih := plL_first s k
    unfold plL
    split
    · exact ih
    · rename_i h
      split
      · rename_i h2
        cases hp : plL s k with
        | nil => rw [hp] at h2; simp at h2
        | cons a l => rw [hp] at ih; simpa using ih
      · cases hp : plL s k with
        | nil => simp; omega
        | cons a l => rw [hp] at ih; simpa using ih

theorem low_last {L : List Int} (hL : ∀ x ∈ L, 0 ≤ x ∧ x < 256) (h : L.getLast? ≠ some 32) : (L.map lowI).getLast? ≠ some 32 := by
  rw [List.getLast?_map]
  cases hl : L.getLast? with
  | none => simp
  | some a =>
    rw [hl] at h
    simp only [Option.map_some]
    intro e
    simp only [Option.some.injEq] at e
    have ha := hL a (List.mem_of_getLast? hl)
    unfold lowI at e
    have := (lowB_blank a.toNat).1 e
    apply h
    congr 1
    omega

theorem plQ_is (s : ByteArray) : ∀ k, plQ s k = 32 :: (plL s k).map lowI ++ plE s k
  | 0 => rfl
  | k + 1 => by
    have ih := plQ_is s k
    have hlast := low_last (plL_byte s k) (plL_last s k)
    have hf : lowF s k = lowB (bt s k) := rfl
    by_cases hc : bt s k = 32
    · have hl : plL s (k + 1) = plL s k := by rw [plL, if_pos hc]
      have he : plE s (k + 1) = if 0 < (plL s k).length then [32] else [] := by
        unfold plE
        rw [hl, Nat.add_sub_cancel]
        simp [hc]
      have hlow : lowF s k = 32 := by rw [hf, hc]; rfl
      rw [plQ, hl, he, hlow]
      by_cases h0 : 0 < (plL s k).length
      · rw [if_pos h0]
        by_cases hb : bt s (k - 1) = 32
        · have e1 : plE s k = [32] := by unfold plE; rw [if_pos ⟨h0, hb⟩]
          rw [if_pos ⟨rfl, by rw [ih, e1, List.getLast?_append]; rfl⟩, ih, e1]
        · have e1 : plE s k = [] := by unfold plE; rw [if_neg (fun h => hb h.2)]
          rw [if_neg, ih, e1]
          · simp
          · rintro ⟨-, h⟩
            rw [ih, e1, List.append_nil, List.getLast?_cons] at h
            cases hx : ((plL s k).map lowI).getLast? with
            | none =>
              rw [List.getLast?_eq_none_iff] at hx
              have := congrArg List.length hx
              simp at this
              rw [this] at h0
              simp at h0
            | some a =>
              rw [hx] at h hlast
              simp at h
              exact hlast (by rw [h])
      · have e0 : plL s k = [] := List.eq_nil_of_length_eq_zero (by omega)
        have e1 : plE s k = [] := by unfold plE; rw [if_neg (fun h => h0 h.1)]
        rw [if_neg h0, if_pos ⟨rfl, by rw [ih, e1, e0]; rfl⟩, ih, e1]
    · have hlow : ¬ lowF s k = 32 := by rw [hf]; exact fun h => hc ((lowB_blank _).1 h)
      have he : plE s (k + 1) = [] := by unfold plE; rw [Nat.add_sub_cancel, if_neg (fun h => hc h.2)]
      rw [plQ, if_neg (fun h => hlow h.1), he, List.append_nil, ih, plL, if_neg hc]
      unfold plE
      split
      · simp [lowI_32, lowI_bt, hf]
      · simp [lowI_bt, hf]

/-- A text as names are compared. -/
def plainS (s : ByteArray) : ByteArray := strOfNums ((plL s s.size).map lowI)

/-- Bytes of a text made of numbers. -/
theorem bt_of_nums (L : List Int) (hL : ∀ x ∈ L, 0 ≤ x ∧ x < 256) (i : Nat) (h : i < L.length) : (bt (strOfNums L) i : Int) = L[i] := by
  have h' : i < (strOfNums L).size := by rw [strOfNums_size]; exact h
  rw [← bt_get _ i h']
  have hx := hL _ (List.getElem_mem h)
  have : (strOfNums L)[i]'h' = UInt8.ofNat (L[i]).toNat := by
    have e : (strOfNums L)[i]'h' = (strOfNums L).data.toList[i]'(by rw [strOfNums_data]; simpa using h) := rfl
    rw [e]
    simp [strOfNums_data]
  rw [this]
  simp
  omega

/-- What a trim leaves of s: from k up to m. -/
structure TrimAt (s : ByteArray) (k m : Nat) : Prop where
  km : k ≤ m
  ms : m ≤ s.size
  lo : ∀ j, j < k → bt s j = 32
  hi : ∀ j, m ≤ j → j < s.size → bt s j = 32
  fst : k < m → bt s k ≠ 32
  lst : k < m → bt s (m - 1) ≠ 32

theorem extract_nums (L : List Int) (k m : Nat) : (strOfNums L).extract k m = strOfNums ((L.drop k).take (m - k)) := by
  refine ByteArray.ext (Array.ext' ?_)
  rw [Lib.extract_data, strOfNums_data, strOfNums_data, List.map_take, List.map_drop]

theorem trim_is {A E : List Int} (hA : ∀ x ∈ A, 0 ≤ x ∧ x < 256) (hE : ∀ x ∈ E, x = 32) (hf : A.head? ≠ some 32) (hl : A.getLast? ≠ some 32) {k m : Nat} (h : TrimAt (strOfNums (32 :: A ++ E)) k m) : (strOfNums (32 :: A ++ E)).extract k m = strOfNums A := by
  have hall : ∀ x ∈ 32 :: A ++ E, 0 ≤ x ∧ x < 256 := by
    intro x hx
    rcases List.mem_append.1 hx with h | h
    · rcases List.mem_cons.1 h with h | h
      · omega
      · exact hA x h
    · have := hE x h; omega
  have hlen : (32 :: A ++ E).length = 1 + A.length + E.length := by simp; omega
  have hb : ∀ i (hi : i < (32 :: A ++ E).length), (bt (strOfNums (32 :: A ++ E)) i : Int) = (32 :: A ++ E)[i] := fun i hi => bt_of_nums _ hall i hi
  have hs : (strOfNums (32 :: A ++ E)).size = 1 + A.length + E.length := by rw [strOfNums_size, hlen]
  obtain ⟨km, ms, lo, hi, fst, lst⟩ := h
  rw [hs] at ms hi
  have b0 : bt (strOfNums (32 :: A ++ E)) 0 = 32 := by
    have h1 := hb 0 (by rw [hlen]; omega)
    have h2 : (32 :: A ++ E)[0]'(by rw [hlen]; omega) = (32 : Int) := rfl
    rw [h2] at h1
    omega
  have bE : ∀ i, A.length < i → i < 1 + A.length + E.length → bt (strOfNums (32 :: A ++ E)) i = 32 := by
    intro i h1 h2
    have h3 := hb i (by rw [hlen]; omega)
    rw [List.getElem_append_right (by simp; omega)] at h3
    have := hE _ (List.getElem_mem (l := E) (n := i - (32 :: A).length) (by simp; omega))
    omega
  have bA : ∀ i (hi : i < A.length), (bt (strOfNums (32 :: A ++ E)) (i + 1) : Int) = A[i] := by
    intro i h1
    have h3 := hb (i + 1) (by rw [hlen]; omega)
    rw [List.getElem_append_left (by simp; omega), List.getElem_cons_succ] at h3
    exact h3
  rw [extract_nums]
  congr 1
  by_cases h0 : A.length = 0
  · have hA0 : A = [] := List.eq_nil_of_length_eq_zero h0
    have : k = m := by
      by_cases c : k < m
      · have := fst c
        exfalso
        apply this
        by_cases z : k = 0
        · subst z; exact b0
        · exact bE k (by omega) (by omega)
      · omega
    rw [this, Nat.sub_self, hA0]
    rfl
  · have f1 : bt (strOfNums (32 :: A ++ E)) 1 ≠ 32 := by
      have := bA 0 (by omega)
      intro e
      simp only [Nat.zero_add] at this
      rw [e] at this
      apply hf
      rw [List.head?_eq_getElem?, List.getElem?_eq_getElem (by omega), ← this]
      rfl
    have l1 : bt (strOfNums (32 :: A ++ E)) A.length ≠ 32 := by
      have := bA (A.length - 1) (by omega)
      intro e
      rw [show A.length - 1 + 1 = A.length by omega, e] at this
      apply hl
      rw [List.getLast?_eq_getElem?, List.getElem?_eq_getElem (by omega), ← this]
      rfl
    have k1 : ¬ 1 < k := fun c => f1 (lo 1 c)
    have m1 : A.length < m := by
      rcases Nat.lt_or_ge A.length m with c | c
      · exact c
      · exact absurd (hi A.length c (by omega)) l1
    have k0 : k ≠ 0 := by
      intro e
      have := fst (by omega)
      rw [e] at this
      exact this b0
    have mm : m = A.length + 1 := by
      by_cases c : m = A.length + 1
      · exact c
      · exact absurd (bE (m - 1) (by omega) (by omega)) (lst (by omega))
    have kk : k = 1 := by omega
    subst kk mm
    simp

theorem plain_trim (s : ByteArray) {k m : Nat} (h : TrimAt (strOfNums (plQ s s.size)) k m) : (strOfNums (plQ s s.size)).extract k m = plainS s := by
  have hb := plL_byte s s.size
  have hb2 : ∀ x ∈ (plL s s.size).map lowI, 0 ≤ x ∧ x < 256 := by
    intro x hx
    obtain ⟨y, hy, rfl⟩ := List.mem_map.1 hx
    have := hb y hy
    exact lowB_lt _ (by omega)
  rw [plQ_is] at h ⊢
  refine trim_is hb2 ?_ ?_ (low_last hb (plL_last s s.size)) h
  · intro x hx
    unfold plE at hx
    split at hx
    · simpa using hx
    · simp at hx
  · have h1 := plL_first s s.size
    rw [List.head?_map]
    cases hl : (plL s s.size).head? with
    | none => simp
    | some a =>
      rw [hl] at h1
      simp only [Option.map_some]
      intro e
      simp only [Option.some.injEq] at e
      have ha := hb a (List.mem_of_head? hl)
      have := (lowB_blank a.toNat).1 e
      apply h1
      congr 1
      omega

/-- The model lowers what it has gathered. -/
theorem plain_low (s : ByteArray) : strOfNums (nums (lowF (strOfNums (plL s s.size))) (strOfNums (plL s s.size)).size) = plainS s := by
  unfold plainS
  congr 1
  rw [strOfNums_size]
  apply List.ext_getElem
  · simp [nums]
  · intro i h1 h2
    simp only [nums, List.length_map, List.length_range] at h1
    have := bt_of_nums (plL s s.size) (plL_byte s s.size) i h1
    simp only [nums, List.getElem_map, List.getElem_range]
    unfold lowF lowI
    congr 1
    omega
end

section
set_option linter.unusedVariables false
set_option linter.unusedSimpArgs false

/-- What a digit at k is held against. -/
def thr (k bias : Int) : Int := max 1 (min 26 (k - bias))

/-- A digit's byte. -/
def pd (x : Int) : Int := if x < 26 then 97 + x else 22 + x

/-- q's digits, from k on. -/
def pdig (bias : Int) : Nat → Int → Int → List Int
  | 0, _, _ => []
  | F + 1, k, q => if q < thr k bias then [pd q] else pd (thr k bias + (q - thr k bias) % (36 - thr k bias)) :: pdig bias F (k + 36) ((q - thr k bias) / (36 - thr k bias))

def dgs (bias q : Int) : List Int := pdig bias (q.toNat + 1) 36 q

/-- The bias, by division. -/
def blP : Nat → Int → Int → Int
  | 0, d, k => k + 36 * d / (d + 38)
  | F + 1, d, k => if 455 < d then blP F (d / 35) (k + 36) else k + 36 * d / (d + 38)

def pbias (delta many : Int) (first : Bool) : Int :=
  let d := if first then delta / 700 else delta / 2
  blP (d + d / many).toNat (d + d / many) 0

theorem frac_le {d : Int} (h : 0 ≤ d) : 0 ≤ 36 * d / (d + 38) ∧ 36 * d / (d + 38) ≤ 36 := by
  refine ⟨Int.ediv_nonneg (by omega) (by omega), ?_⟩
  exact Int.ediv_le_of_le_mul (by omega) (by omega)

theorem blP_bound : ∀ F d k, 0 ≤ d → 0 ≤ k → 0 ≤ blP F d k ∧ blP F d k ≤ k + 36 * d + 36
  | 0, d, k, h0, h1 => by unfold blP; have := frac_le h0; omega
  | F + 1, d, k, h0, h1 => by
    unfold blP
    split
    · have := blP_bound F (d / 35) (k + 36) (by omega) (by omega)
      omega
    · have := frac_le h0; omega

theorem pbias_bound {d m : Int} {b : Bool} (h0 : 0 ≤ d) (h1 : d ≤ 30000000) (h2 : 1 ≤ m) : 0 ≤ pbias d m b ∧ pbias d m b ≤ 2000000000 := by
  unfold pbias
  have h3 : 0 ≤ (if b then d / 700 else d / 2) ∧ (if b then d / 700 else d / 2) ≤ 15000000 := by split <;> omega
  generalize (if b then d / 700 else d / 2) = x at *
  have h4 := Int.ediv_nonneg h3.1 (show 0 ≤ m by omega)
  have h5 := Int.ediv_le_self m h3.1
  have := blP_bound (x + x / m).toNat (x + x / m) 0 (by omega) (Int.le_refl _)
  simp only []
  omega

/-- The least number from n on, of the first k; or m. -/
def lst (f : Nat → Int) (n m : Int) : Nat → Int
  | 0 => m
  | k + 1 => if n ≤ f k then min (lst f n m k) (f k) else lst f n m k

/-- How many of the first k are below n. -/
def cnt (f : Nat → Int) (n : Int) : Nat → Nat
  | 0 => 0
  | k + 1 => cnt f n k + if f k < n then 1 else 0

/-- How many of the first k are n. -/
def cntE (f : Nat → Int) (n : Int) : Nat → Nat
  | 0 => 0
  | k + 1 => cntE f n k + if f k = n then 1 else 0

theorem cnt_succ (f : Nat → Int) (n : Int) : ∀ k, cnt f (n + 1) k = cnt f n k + cntE f n k
  | 0 => rfl
  | k + 1 => by
    unfold cnt cntE
    rw [cnt_succ f n k]
    by_cases h1 : f k < n
    · rw [if_pos h1, if_pos (by omega), if_neg (by omega)]; omega
    · by_cases h2 : f k = n
      · rw [if_neg h1, if_pos (by omega), if_pos h2]; omega
      · rw [if_neg h1, if_neg (by omega), if_neg h2]; omega

/-- What the least is, where there is one. -/
structure IsLst (f : Nat → Int) (n : Int) (len : Nat) (x : Int) : Prop where
  ge : n ≤ x
  gap : ∀ i, i < len → n ≤ f i → x ≤ f i
  at' : ∃ i, i < len ∧ f i = x

theorem IsLst.unique {f : Nat → Int} {n : Int} {len : Nat} {x y : Int} (h : IsLst f n len x) (k : IsLst f n len y) : x = y := by
  obtain ⟨i, h1, h2⟩ := h.at'
  obtain ⟨j, k1, k2⟩ := k.at'
  have h3 := h.ge
  have k3 := k.ge
  have := h.gap j k1 (by omega)
  have := k.gap i h1 (by omega)
  omega

/-- What is told so far: how many numbers, the delta, the bias, the bytes. -/
structure PS where
  h : Nat
  d : Int
  b : Int
  o : List Int

def pin (basic : Nat) (n x : Int) (s : PS) : PS :=
  if x = n then ⟨s.h + 1, 0, pbias s.d (s.h + 1) (s.h == basic), s.o ++ dgs s.b s.d⟩
  else if x < n then ⟨s.h, s.d + 1, s.b, s.o⟩ else s

theorem pdig_len (b : Int) : ∀ F k q, (pdig b F k q).length ≤ F
  | 0, k, q => Nat.le_refl _
  | F + 1, k, q => by
    unfold pdig
    split
    · simp
    · have := pdig_len b F (k + 36) ((q - thr k b) / (36 - thr k b)); simp; omega

theorem dgs_len (b q : Int) : (dgs b q).length ≤ q.toNat + 1 := pdig_len b _ _ _

/-- The bounds of a state within a round at m, k numbers looked at. -/
structure InB (f : Nat → Int) (len : Nat) (m : Int) (k : Nat) (s : PS) : Prop where
  h : s.h = cnt f m len + cntE f m k
  d0 : 0 ≤ s.d
  d1 : s.d ≤ 21 * m + k
  b0 : 0 ≤ s.b
  b1 : s.b ≤ 2000000000
  l1 : s.o.length ≤ 30 + 30000001 * s.h

theorem InB.step {f : Nat → Int} {len k basic : Nat} {m : Int} {s : PS} (hm0 : 128 ≤ m) (hm1 : m ≤ 1114111) (hl : len ≤ 20) (hk : k < len) (B : InB f len m k s) : InB f len m (k + 1) (pin basic m (f k) s) := by
  have h1 := B.d0
  have h2 := B.d1
  have h3 := B.h
  have h4 := B.l1
  unfold pin
  by_cases e : f k = m
  · rw [if_pos e]
    obtain ⟨p1, p2⟩ := pbias_bound (d := s.d) (m := (s.h : Int) + 1) (b := s.h == basic) h1 (by omega) (by omega)
    have hd := dgs_len s.b s.d
    refine ⟨?_, Int.le_refl _, by simp only []; omega, p1, p2, ?_⟩
    · simp only [cntE]; rw [if_pos e]; omega
    · simp only [List.length_append]; omega
  · rw [if_neg e]
    by_cases c : f k < m
    · rw [if_pos c]
      refine ⟨?_, by simp only []; omega, by simp only []; omega, B.b0, B.b1, h4⟩
      simp only [cntE]; rw [if_neg e]; omega
    · rw [if_neg c]
      exact ⟨by simp only [cntE]; rw [if_neg e]; omega, h1, by omega, B.b0, B.b1, h4⟩

/-- The bounds of a state between rounds. -/
structure OutB (f : Nat → Int) (len : Nat) (n : Int) (s : PS) : Prop where
  h : s.h = cnt f n len
  n0 : 128 ≤ n
  n1 : n ≤ 1114112
  d0 : 0 ≤ s.d
  d1 : s.d ≤ 21 * n
  b0 : 0 ≤ s.b
  b1 : s.b ≤ 2000000000
  l1 : s.o.length ≤ 30 + 30000001 * s.h

/-- A round ends. -/
theorem InB.out {f : Nat → Int} {len : Nat} {m : Int} {s : PS} (hl : len ≤ 20) (hm0 : 128 ≤ m) (hm1 : m ≤ 1114111) (B : InB f len m len s) : OutB f len (m + 1) ⟨s.h, s.d + 1, s.b, s.o⟩ :=
  ⟨by rw [cnt_succ]; exact B.h, by omega, by omega, by have := B.d0; simp only []; omega, by have := B.d1; simp only []; omega, B.b0, B.b1, B.l1⟩
end

section
set_option linter.unusedVariables false
set_option linter.unusedSimpArgs false

open Go.RowKit

/-- Numbers as cells of bytes. -/
def bys (L : List Int) : List Value := L.map (.int .u8)

theorem bys_one (x : Int) : ∀ u ∈ [Value.int .u8 x], u.oneCell' = true := by
  intro u hu
  simp at hu
  subst hu
  rfl

theorem bys_byts (L : List Int) : bys L = byts (fun i => L.getD i 0) L.length := by
  unfold bys byts
  apply List.ext_getElem
  · simp
  · intro i h1 h2
    simp at h1
    simp [h1]

theorem nums_list (L : List Int) : nums (fun i => L.getD i 0) L.length = L := by
  unfold nums
  apply List.ext_getElem
  · simp
  · intro i h1 h2
    simp [h2]

theorem bys_step {L : List Int} {w wr w1 : World} {v v' : Value} {o : Obj} {x : Int} (hO : wr.ownsRow w.heap.size 5 1 v L.length (bys L)) (hE : Ext w wr)
    (hown : w1.ownsRow w.heap.size 5 1 v' (L.length + 1) (bys L ++ [.int .u8 x])) (hg : (wr.alloc o).grownBy w1 v.ownBlock) : w1.ownsRow w.heap.size 5 1 v' (L ++ [x]).length (bys (L ++ [x])) ∧ Ext w w1 := by
  refine ⟨?_, (Below.alloc hE (Below.size hE) o).grown hg (by have := Below.size hE; simp; omega) (fun j hj => (hO.lt j hj).1)⟩
  simpa [bys] using hown
end

section
set_option linter.unusedVariables false
set_option linter.unusedSimpArgs false

open Go.RowKit

/-- Where s ends without its last blanks. -/
def endR (s : ByteArray) : Nat → Nat
  | 0 => 0
  | n + 1 => if bt s n = 32 then endR s n else n + 1

/-- Where s begins without its first blanks. -/
def begL (s : ByteArray) : Nat → Nat → Nat
  | 0, k => k
  | n + 1, k => if bt s k = 32 then begL s n (k + 1) else k

def cutR (s : ByteArray) : ByteArray := s.extract 0 (endR s s.size)

def cutL (s : ByteArray) : ByteArray := s.extract (begL s s.size 0) s.size

theorem endR_le (s : ByteArray) : ∀ n, endR s n ≤ n
  | 0 => Nat.le_refl _
  | n + 1 => by
    have := endR_le s n
    unfold endR
    split <;> omega

theorem endR_hi (s : ByteArray) : ∀ n j, endR s n ≤ j → j < n → bt s j = 32
  | 0, j, _, h => absurd h (Nat.not_lt_zero _)
  | n + 1, j, h, h2 => by
    unfold endR at h
    split at h
    · rename_i e
      by_cases c : j = n
      · subst c; exact e
      · exact endR_hi s n j h (by omega)
    · omega

theorem endR_last (s : ByteArray) : ∀ n, 0 < endR s n → bt s (endR s n - 1) ≠ 32
  | 0, h => absurd h (Nat.lt_irrefl _)
  | n + 1, h => by
    unfold endR at h ⊢
    split
    · rename_i e
      rw [if_pos e] at h
      exact endR_last s n h
    · rename_i e
      simpa using e

theorem begL_ge (s : ByteArray) : ∀ n k, k ≤ begL s n k ∧ begL s n k ≤ k + n
  | 0, k => ⟨Nat.le_refl _, Nat.le_refl _⟩
  | n + 1, k => by
    have := begL_ge s n (k + 1)
    unfold begL
    split <;> omega

theorem begL_lo (s : ByteArray) : ∀ n k j, k ≤ j → j < begL s n k → bt s j = 32
  | 0, k, j, h, h2 => by unfold begL at h2; omega
  | n + 1, k, j, h, h2 => by
    unfold begL at h2
    split at h2
    · rename_i e
      by_cases c : j = k
      · subst c; exact e
      · exact begL_lo s n (k + 1) j (by omega) h2
    · omega

theorem begL_first (s : ByteArray) : ∀ n k, begL s n k < k + n → bt s (begL s n k) ≠ 32
  | 0, k, h => by unfold begL at h; omega
  | n + 1, k, h => by
    unfold begL at h ⊢
    split
    · rename_i e
      rw [if_pos e] at h
      exact begL_first s n (k + 1) (by omega)
    · rename_i e
      exact e

theorem bt_cut (s : ByteArray) (a b i : Nat) (hb : b ≤ s.size) (hi : a + i < b) : bt (s.extract a b) i = bt s (a + i) := by
  have h1 : i < (s.extract a b).size := by simp; omega
  have h2 : a + i < s.size := by omega
  rw [← bt_get _ i h1, ← bt_get s (a + i) h2]
  congr 1
  simp [ByteArray.getElem_extract]

theorem trim_at (s : ByteArray) : TrimAt s (begL (cutR s) (cutR s).size 0) (endR s s.size) ∧ cutL (cutR s) = s.extract (begL (cutR s) (cutR s).size 0) (endR s s.size) := by
  have hm := endR_le s s.size
  have hz : (cutR s).size = endR s s.size := by unfold cutR; simp; omega
  have hk := (begL_ge (cutR s) (cutR s).size 0).2
  have hb : ∀ j, j < endR s s.size → bt (cutR s) j = bt s j := fun j hj => by
    unfold cutR
    rw [bt_cut s 0 _ j hm (by omega), Nat.zero_add]
  refine ⟨⟨by omega, hm, fun j hj => ?_, fun j h1 h2 => endR_hi s _ j h1 h2, fun h => ?_, fun h => endR_last s _ (by omega)⟩, ?_⟩
  · rw [← hb j (by omega)]
    exact begL_lo (cutR s) _ 0 j (Nat.zero_le _) hj
  · rw [← hb _ h]
    exact begL_first (cutR s) _ 0 (by omega)
  · unfold cutL
    rw [hz] at hk ⊢
    generalize begL (cutR s) (endR s s.size) 0 = k at *
    refine ByteArray.ext (Array.ext' ?_)
    unfold cutR
    rw [Lib.extract_data, Lib.extract_data, Lib.extract_data, List.drop_zero, Nat.sub_zero, List.drop_take, List.take_take]
    congr 1
    omega

theorem trim_plain (s : ByteArray) : cutL (cutR (strOfNums (plQ s s.size))) = plainS s := by
  obtain ⟨h1, h2⟩ := trim_at (strOfNums (plQ s s.size))
  rw [h2]
  exact plain_trim s h1

set_option maxHeartbeats 1600000 in
set_option maxRecDepth 100000 in
theorem trimRight_any (s : ByteArray) (hs : s.size ≤ 4194304) (w : World) :
    Calls Tryz.prog 294 #[.string s, .int .u8 32] w fun e w' => e = .returned (.string (cutR s)) ∧ w' = w := by
  have HR : Hid (cutR s = s.extract 0 (endR s s.size)) := rfl
  generalize cutR s = R at *
  go_enter Tryz.func294, Tryz.ntmps294
  go_wp2
  go_loopw [0] (fun v wr => wr = w ∧ ∃ u : ByteArray, v = .string u ∧ ∃ m : Nat, m ≤ s.size ∧ u = s.extract 0 m ∧ endR s m = endR s s.size) (fun v _ => (match v with | .string u => u.size | _ => 0))
  case atStart => exact ⟨rfl, s, rfl, s.size, Nat.le_refl _, by simp, rfl⟩
  case round =>
    obtain ⟨rfl, u, rfl, m, hm, hu, he⟩ := hrel
    have hz : u.size = m := by rw [hu]; simp; omega
    have hb : ∀ j, j < m → bt u j = bt s j := fun j hj => by rw [hu, bt_cut s 0 m j hm (by omega), Nat.zero_add]
    have HU := hide hu
    have HB := hide hb
    have HE := hide he
    clear hu hb he
    cases m with
    | zero =>
      go_wp2
      go_ret
      refine ⟨?_, rfl⟩
      rw [HR.out, HU.out, ← HE.out]
      rfl
    | succ q =>
      have hlt : q < u.size := by omega
      have hg := bt_get u q hlt
      have h2 := bt_lt u q
      have Hb := hide (HB.out q (by omega))
      have HE2 : Hid (endR s (q + 1) = if bt s q = 32 then endR s q else q + 1) := rfl
      have HX : Hid (u.extract 0 q = s.extract 0 q) := by
        show _ = _
        rw [HU.out]
        refine ByteArray.ext (Array.ext' ?_)
        rw [Lib.extract_data, Lib.extract_data, Lib.extract_data]
        simp [List.take_take]
      generalize bt u q = c at *
      by_cases h32 : c = 32
      · subst h32
        have w1 : wrap64 (((q : Int) + 1) - 1) = q := by unfold wrap64; omega
        have HN : Hid (endR s q = endR s s.size) := by show _ = _; rw [← HE.out, HE2.out, if_pos Hb.out.symm]
        have g1 : (q : Int) ≤ (q : Int) + 1 := by omega
        go_wp2
        go_roundw
        case rel => exact ⟨trivial, _, rfl, q, by omega, HX.out, HN.out⟩
        case measure => simp; omega
      · have hne : ((c : Int) == 32) = false := by simp; omega
        have HN : Hid (q + 1 = endR s s.size) := by show _ = _; rw [← HE.out, HE2.out, if_neg (by rw [← Hb.out]; exact h32)]
        go_wp2
        go_ret
        refine ⟨?_, rfl⟩
        rw [HR.out, HU.out, ← HN.out]
        rfl

set_option maxHeartbeats 1600000 in
set_option maxRecDepth 100000 in
theorem trimLeft_any (s : ByteArray) (hs : s.size ≤ 4194304) (w : World) :
    Calls Tryz.prog 293 #[.string s, .int .u8 32] w fun e w' => e = .returned (.string (cutL s)) ∧ w' = w := by
  have HR : Hid (cutL s = s.extract (begL s s.size 0) s.size) := rfl
  generalize cutL s = R at *
  go_enter Tryz.func293, Tryz.ntmps293
  go_wp2
  go_loopw [0] (fun v wr => wr = w ∧ ∃ u : ByteArray, v = .string u ∧ ∃ k : Nat, k ≤ s.size ∧ u = s.extract k s.size ∧ begL s (s.size - k) k = begL s s.size 0) (fun v _ => (match v with | .string u => u.size | _ => 0))
  case atStart => exact ⟨rfl, s, rfl, 0, Nat.zero_le _, by simp, rfl⟩
  case round =>
    obtain ⟨rfl, u, rfl, k, hk, hu, he⟩ := hrel
    have hz : u.size = s.size - k := by rw [hu]; simp
    have HU := hide hu
    have HE := hide he
    by_cases hlt : k < s.size
    · have hb : bt u 0 = bt s k := by rw [hu, bt_cut s k s.size 0 (Nat.le_refl _) (by omega), Nat.add_zero]
      have hl0 : 0 < u.size := by omega
      have g0 : (0 : Int) < (u.size : Int) := by omega
      have g1 : (1 : Int) ≤ (u.size : Int) := by omega
      have hg := bt_get u 0 hl0
      have h2 := bt_lt u 0
      have Hb := hide hb
      have HE2 : Hid (begL s (s.size - k) k = if bt s k = 32 then begL s (s.size - (k + 1)) (k + 1) else k) := by
        show _ = _
        rw [show s.size - k = (s.size - (k + 1)) + 1 by omega, begL]
      have HX : Hid (u.extract 1 u.size = s.extract (k + 1) s.size) := by
        show _ = _
        rw [hz, hu]
        refine ByteArray.ext (Array.ext' ?_)
        rw [Lib.extract_data, Lib.extract_data, Lib.extract_data, List.drop_take, List.drop_drop, List.take_take]
        congr 1
        omega
      have Hz := hide hz
      clear hu hb he hz
      generalize bt u 0 = c at *
      by_cases h32 : c = 32
      · subst h32
        have HN : Hid (begL s (s.size - (k + 1)) (k + 1) = begL s s.size 0) := by show _ = _; rw [← HE.out, HE2.out, if_pos Hb.out.symm]
        go_wp2
        go_roundw
        case rel => exact ⟨trivial, _, rfl, k + 1, by omega, HX.out, HN.out⟩
        case measure => simp; omega
      · have hne : ((c : Int) == 32) = false := by simp; omega
        have HN : Hid (k = begL s s.size 0) := by show _ = _; rw [← HE.out, HE2.out, if_neg (by rw [← Hb.out]; exact h32)]
        go_wp2
        go_ret
        refine ⟨?_, rfl⟩
        rw [HR.out, HU.out, ← HN.out]
        rfl
    · have hz0 : u.size = 0 := by omega
      have HN : Hid (k = begL s s.size 0) := by show _ = _; rw [← he, show s.size - k = 0 by omega]; rfl
      clear hu he hz
      go_wp2
      go_ret
      refine ⟨?_, rfl⟩
      rw [HR.out, HU.out, ← HN.out]
      rfl

set_option maxHeartbeats 1600000 in
set_option maxRecDepth 100000 in
theorem trim_any (s : ByteArray) (h0 : 0 < s.size) (hs : s.size ≤ 4194304) (w : World) :
    Calls Tryz.prog 289 #[.string s, .string ⟨#[32]⟩] w fun e w' => e = .returned (.string (cutL (cutR s))) ∧ Ext w w' := by
  have HL : Hid (∀ w, Calls Tryz.prog 293 #[.string (cutR s), .int .u8 32] w fun e w' => e = .returned (.string (cutL (cutR s))) ∧ w' = w) := fun w => trimLeft_any (cutR s) (by unfold cutR; simp; omega) w
  have HR : Hid (∀ w, Calls Tryz.prog 294 #[.string s, .int .u8 32] w fun e w' => e = .returned (.string (cutR s)) ∧ w' = w) := fun w => trimRight_any s hs w
  have he : (s.toList == []) = false := by
    cases h : (s.toList == [])
    · rfl
    · rw [beq_iff_eq, ByteArray.toList_eq] at h
      have := congrArg List.length h
      have e := Lib.size_eq s
      rw [List.length_nil] at this
      omega
  generalize cutL (cutR s) = L at *
  generalize cutR s = R at *
  clear h0
  go_enter Tryz.func289, Tryz.ntmps289
  go_wp2
  go_quiet (first | (go_at_call 293; exact Calls.quiet_of_same (HL.out _)) | (go_at_call 294; exact Calls.quiet_of_same (HR.out _)))
  go_wp2
  go_ret
  exact ⟨rfl, below_drewN (Below.refl _ _) _⟩
end

end Go.Proofs.YtollgoadgjlccaaGreatDoor
