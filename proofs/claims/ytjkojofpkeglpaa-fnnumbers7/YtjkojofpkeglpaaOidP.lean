/- Plain facts: what the two readers of identifiers make of bytes, step by step; of bytes that are an identifier's both make that one. Nothing of the program. -/
import Derived.Test.YtjkojofpkeglpaaOidB
namespace Go.Proofs.Ytjkojofpkeglpaa
set_option linter.unusedVariables false
set_option linter.unusedSimpArgs false

structure OSt where
  cnt : Nat
  F : Nat → Int
  acc : Int
  stop : Bool

def updN (F : Nat → Int) (c : Nat) (a : Int) (i : Nat) : Int := if i = c then a else F i

/-- The program's reader takes a byte. -/
def pStep (s : OSt) (x : Int) : OSt :=
  if s.stop = true then s
  else if 1000000000 < s.acc * 128 + x % 128 ∨ s.cnt = 12 then ⟨s.cnt, s.F, s.acc * 128 + x % 128, true⟩
  else if x < 128 then ⟨s.cnt + 1, updN s.F s.cnt (s.acc * 128 + x % 128), 0, false⟩
  else ⟨s.cnt, s.F, s.acc * 128 + x % 128, false⟩
def pst (f : Nat → Int) : Nat → OSt
  | 0 => ⟨0, fun _ => 0, 0, false⟩
  | p + 1 => pStep (pst f p) (f p)

/-- The model's reader takes a byte. -/
def mAcc (s : OSt) (x : Int) : Int := if s.acc * 128 + x % 128 < 1099511627776 then s.acc * 128 + x % 128 else 1099511627776
def fst40 (a : Int) : Int := if 2 < a / 40 then 2 else a / 40
def mStep (s : OSt) (x : Int) : OSt :=
  if 128 ≤ x then ⟨s.cnt, s.F, mAcc s x, false⟩
  else if s.cnt = 0 then ⟨2, fun i => if i = 0 then fst40 (mAcc s x) else mAcc s x - 40 * fst40 (mAcc s x), 0, false⟩
  else ⟨s.cnt + 1, updN s.F s.cnt (mAcc s x), 0, false⟩
def mst (f : Nat → Int) : Nat → OSt
  | 0 => ⟨0, fun _ => 0, 0, false⟩
  | p + 1 => mStep (mst f p) (f p)

theorem pst_stop {f : Nat → Int} {q : Nat} (h : (pst f q).stop = true) : ∀ n, q ≤ n → pst f n = pst f q := by
  intro n
  induction n with
  | zero => intro hn; rw [show q = 0 by omega]
  | succ n ih =>
    intro hn
    by_cases e : q = n + 1
    · rw [e]
    · have := ih (by omega)
      show pStep (pst f n) (f n) = _
      rw [this, pStep, if_pos h]

theorem pst_good {f : Nat → Int} {n : Nat} (hy : ∀ i, i < n → 0 ≤ f i ∧ f i < 256) : ∀ p, p ≤ n → 0 ≤ (pst f p).acc ∧ (pst f p).cnt ≤ 12 ∧ ((pst f p).stop = false → (pst f p).acc ≤ 1000000000) := by
  intro p
  induction p with
  | zero => intro _; exact ⟨Int.le_refl _, Nat.zero_le _, fun _ => by show (0 : Int) ≤ _; omega⟩
  | succ p ih =>
    intro hp
    obtain ⟨h1, h2, h3⟩ := ih (by omega)
    have hb := hy p (by omega)
    show 0 ≤ (pStep (pst f p) (f p)).acc ∧ (pStep (pst f p) (f p)).cnt ≤ 12 ∧ _
    show _ ∧ _ ∧ ((pStep (pst f p) (f p)).stop = false → (pStep (pst f p) (f p)).acc ≤ 1000000000)
    generalize pst f p = s at *
    unfold pStep
    by_cases c1 : s.stop = true
    · rw [if_pos c1]
      exact ⟨h1, h2, fun h => by rw [c1] at h; cases h⟩
    · rw [if_neg c1]
      split
      · exact ⟨by show 0 ≤ s.acc * 128 + f p % 128; omega, h2, fun h => by cases h⟩
      · rename_i c2
        split
        · exact ⟨Int.le_refl _, by show s.cnt + 1 ≤ 12; omega, fun _ => by show (0 : Int) ≤ 1000000000; omega⟩
        · exact ⟨by show 0 ≤ s.acc * 128 + f p % 128; omega, h2, fun _ => by show s.acc * 128 + f p % 128 ≤ 1000000000; omega⟩

theorem mst_good {f : Nat → Int} {n : Nat} (hy : ∀ i, i < n → 0 ≤ f i ∧ f i < 256) : ∀ p, p ≤ n → 0 ≤ (mst f p).acc ∧ (mst f p).cnt ≤ p + 1 ∧ (mst f p).acc ≤ 1099511627776 := by
  intro p
  induction p with
  | zero => intro _; exact ⟨Int.le_refl _, Nat.zero_le _, by show (0 : Int) ≤ _; omega⟩
  | succ p ih =>
    intro hp
    obtain ⟨h1, h2, h3⟩ := ih (by omega)
    have hb := hy p (by omega)
    show 0 ≤ (mStep (mst f p) (f p)).acc ∧ (mStep (mst f p) (f p)).cnt ≤ p + 1 + 1 ∧ (mStep (mst f p) (f p)).acc ≤ 1099511627776
    generalize mst f p = s at *
    have ha : 0 ≤ mAcc s (f p) ∧ mAcc s (f p) ≤ 1099511627776 := by unfold mAcc; split <;> omega
    unfold mStep
    split
    · exact ⟨ha.1, by show s.cnt ≤ _; omega, ha.2⟩
    · split
      · exact ⟨Int.le_refl _, by show 2 ≤ p + 1 + 1; omega, by show (0 : Int) ≤ _; omega⟩
      · exact ⟨Int.le_refl _, by show s.cnt + 1 ≤ _; omega, by show (0 : Int) ≤ _; omega⟩

/-- A number's bytes at place p. -/
theorem pst_mid {f : Nat → Int} {p : Nat} {x : Int} (c : Nat) (F : Nat → Int) (h0 : 0 ≤ x) (h1 : x ≤ 1000000000) (hc : c < 12) (hf : ∀ i, i ≤ lenB 128 x → f (p + i) = s7 x i) (hs : pst f p = ⟨c, F, 0, false⟩) :
    ∀ i, i ≤ lenB 128 x → pst f (p + i) = ⟨c, F, dv x 128 (lenB 128 x + 1 - i), false⟩ := by
  have hL := lenB_is (B := 128) (.inl rfl) x h0
  intro i
  induction i with
  | zero =>
    intro _
    have h2 := hL.yes
    have h3 := (dv_nonneg (B := 128) (.inl rfl) h0 (lenB 128 x + 1)).1
    rw [Nat.add_zero, hs, Nat.sub_zero, show dv x 128 (lenB 128 x + 1) = 0 by omega]
  | succ i ih =>
    intro hi
    have h2 := ih (by omega)
    show pStep (pst f (p + i)) (f (p + i)) = _
    rw [h2, hf i (by omega)]
    have e1 : s7 x i = dg x 128 (lenB 128 x - i) + 128 := by unfold s7 s7k; rw [if_pos (by omega)]
    have h3 := dg_range x (lenB 128 x - i)
    have e2 : dv x 128 (lenB 128 x + 1 - i) * 128 + dg x 128 (lenB 128 x - i) = dv x 128 (lenB 128 x - i) := by
      rw [show lenB 128 x + 1 - i = (lenB 128 x - i) + 1 by omega]
      unfold dg
      show dv x 128 (lenB 128 x - i) / 128 * 128 + _ = _
      omega
    have h4 := dv_nonneg (B := 128) (.inl rfl) h0 (lenB 128 x - i)
    rw [e1]
    have e3 : (dg x 128 (lenB 128 x - i) + 128) % 128 = dg x 128 (lenB 128 x - i) := by omega
    unfold pStep
    simp only [e3, e2]
    rw [if_neg (by simp), if_neg (by omega), if_neg (by omega), show lenB 128 x + 1 - (i + 1) = lenB 128 x - i by omega]

theorem pst_number {f : Nat → Int} {p : Nat} {x : Int} (c : Nat) (F : Nat → Int) (h0 : 0 ≤ x) (h1 : x ≤ 1000000000) (hc : c < 12) (hf : ∀ i, i ≤ lenB 128 x → f (p + i) = s7 x i) (hs : pst f p = ⟨c, F, 0, false⟩) :
    pst f (p + (lenB 128 x + 1)) = ⟨c + 1, updN F c x, 0, false⟩ := by
  have h2 := pst_mid c F h0 h1 hc hf hs (lenB 128 x) (Nat.le_refl _)
  show pStep (pst f (p + lenB 128 x)) (f (p + lenB 128 x)) = _
  rw [h2, hf _ (Nat.le_refl _)]
  have e1 : s7 x (lenB 128 x) = x % 128 := by unfold s7 s7k; rw [if_neg (by omega), Nat.sub_self]; show dg x 128 0 + 0 = _; rw [Int.add_zero]; rfl
  have e2 : dv x 128 (lenB 128 x + 1 - lenB 128 x) = x / 128 := by rw [show lenB 128 x + 1 - lenB 128 x = 1 by omega]; rfl
  rw [e1, e2]
  have e3 : x / 128 * 128 + x % 128 % 128 = x := by omega
  unfold pStep
  simp only [e3]
  rw [if_neg (by simp), if_neg (by omega), if_pos (by omega)]

theorem mst_mid {f : Nat → Int} {p : Nat} {x : Int} (c : Nat) (F : Nat → Int) (h0 : 0 ≤ x) (h1 : x ≤ 1000000000) (hf : ∀ i, i ≤ lenB 128 x → f (p + i) = s7 x i) (hs : mst f p = ⟨c, F, 0, false⟩) :
    ∀ i, i ≤ lenB 128 x → mst f (p + i) = ⟨c, F, dv x 128 (lenB 128 x + 1 - i), false⟩ := by
  have hL := lenB_is (B := 128) (.inl rfl) x h0
  intro i
  induction i with
  | zero =>
    intro _
    have h2 := hL.yes
    have h3 := (dv_nonneg (B := 128) (.inl rfl) h0 (lenB 128 x + 1)).1
    rw [Nat.add_zero, hs, Nat.sub_zero, show dv x 128 (lenB 128 x + 1) = 0 by omega]
  | succ i ih =>
    intro hi
    have h2 := ih (by omega)
    show mStep (mst f (p + i)) (f (p + i)) = _
    rw [h2, hf i (by omega)]
    have e1 : s7 x i = dg x 128 (lenB 128 x - i) + 128 := by unfold s7 s7k; rw [if_pos (by omega)]
    have h3 := dg_range x (lenB 128 x - i)
    have e2 : dv x 128 (lenB 128 x + 1 - i) * 128 + dg x 128 (lenB 128 x - i) = dv x 128 (lenB 128 x - i) := by
      rw [show lenB 128 x + 1 - i = (lenB 128 x - i) + 1 by omega]
      unfold dg
      show dv x 128 (lenB 128 x - i) / 128 * 128 + _ = _
      omega
    have h4 := dv_nonneg (B := 128) (.inl rfl) h0 (lenB 128 x - i)
    rw [e1]
    have e3 : (dg x 128 (lenB 128 x - i) + 128) % 128 = dg x 128 (lenB 128 x - i) := by omega
    unfold mStep mAcc
    simp only [e3, e2]
    rw [if_pos (by omega), if_pos (by omega), show lenB 128 x + 1 - (i + 1) = lenB 128 x - i by omega]

theorem mst_number {f : Nat → Int} {p : Nat} {x : Int} (c : Nat) (F : Nat → Int) (h0 : 0 ≤ x) (h1 : x ≤ 1000000000) (hf : ∀ i, i ≤ lenB 128 x → f (p + i) = s7 x i) (hs : mst f p = ⟨c, F, 0, false⟩) :
    mst f (p + (lenB 128 x + 1)) = if c = 0 then ⟨2, fun i => if i = 0 then fst40 x else x - 40 * fst40 x, 0, false⟩ else ⟨c + 1, updN F c x, 0, false⟩ := by
  have h2 := mst_mid c F h0 h1 hf hs (lenB 128 x) (Nat.le_refl _)
  show mStep (mst f (p + lenB 128 x)) (f (p + lenB 128 x)) = _
  rw [h2, hf _ (Nat.le_refl _)]
  have e1 : s7 x (lenB 128 x) = x % 128 := by unfold s7 s7k; rw [if_neg (by omega), Nat.sub_self]; show dg x 128 0 + 0 = _; rw [Int.add_zero]; rfl
  have e2 : dv x 128 (lenB 128 x + 1 - lenB 128 x) = x / 128 := by rw [show lenB 128 x + 1 - lenB 128 x = 1 by omega]; rfl
  rw [e1, e2]
  have e3 : x / 128 * 128 + x % 128 % 128 = x := by omega
  have hm : (if x < 1099511627776 then x else (1099511627776 : Int)) = x := if_pos (by omega)
  unfold mStep mAcc
  simp only [e3, hm]
  rw [if_neg (by omega)]

theorem oN_mono (g : Nat → Int) {j k : Nat} (h : j ≤ k) : oN g j ≤ oN g k := by
  induction k with
  | zero => rw [show j = 0 by omega]; exact Nat.le_refl _
  | succ k ih =>
    by_cases e : j = k + 1
    · rw [e]; exact Nat.le_refl _
    · exact Nat.le_trans (ih (by omega)) (Nat.le_add_right _ _)
theorem oF_prefix (g : Nat → Int) {j k : Nat} (h : j ≤ k) : ∀ i, i < oN g j → oF g k i = oF g j i := by
  induction k with
  | zero => rw [show j = 0 by omega]; exact fun _ _ => rfl
  | succ k ih =>
    by_cases e : j = k + 1
    · rw [e]; exact fun _ _ => rfl
    · intro i hi
      have h1 : i < oN g k := Nat.lt_of_lt_of_le hi (oN_mono g (by omega))
      show catF (oF g k) (oN g k) _ i = _
      rw [catF, if_pos h1]
      exact ih (by omega) i hi

/-- The bytes f, n of them, are those of the identifier g with m numbers. -/
structure RO (f : Nat → Int) (n : Nat) (g : Nat → Int) (m : Nat) : Prop where
  ok : oidB g m = true
  len : oidM g m = n
  eq : ∀ i, i < n → oF g (m - 2) i = f i

theorem RO.parts {f : Nat → Int} {n : Nat} {g : Nat → Int} {m : Nat} (h : RO f n g m) : 2 ≤ m ∧ m ≤ 12 ∧ oidHead g = true ∧ (∀ j, j < m - 2 → 0 ≤ g (j + 2) ∧ g (j + 2) ≤ 1000000000) ∧ oN g (m - 2) = n := by
  have h1 := h.ok
  have h2 := h.len
  unfold oidM at h2
  rw [if_pos h1] at h2
  unfold oidB at h1
  rw [Bool.and_eq_true, Bool.and_eq_true] at h1
  have h3 : 2 ≤ m ∧ m ≤ 12 := of_decide_eq_true h1.1
  exact ⟨h3.1, h3.2, h1.2.1, (oidAll_iff g (m - 2)).1 h1.2.2, h2⟩

theorem RO.bytes {f : Nat → Int} {n : Nat} {g : Nat → Int} {m : Nat} (h : RO f n g m) (j : Nat) (hj : j < m - 2) (i : Nat) (hi : i ≤ lenB 128 (g (j + 2))) : f (oN g j + i) = s7 (g (j + 2)) i := by
  obtain ⟨-, -, -, -, hn⟩ := h.parts
  have h1 : oN g (j + 1) = oN g j + (lenB 128 (g (j + 2)) + 1) := rfl
  have h2 := oN_mono g (show j + 1 ≤ m - 2 by omega)
  rw [← h.eq _ (by omega), oF_prefix g (show j + 1 ≤ m - 2 by omega) _ (by omega)]
  show catF (oF g j) (oN g j) _ _ = _
  rw [catF, if_neg (by omega), Nat.add_sub_cancel_left]
theorem RO.bytes0 {f : Nat → Int} {n : Nat} {g : Nat → Int} {m : Nat} (h : RO f n g m) (i : Nat) (hi : i ≤ lenB 128 (40 * g 0 + g 1)) : f (0 + i) = s7 (40 * g 0 + g 1) i := by
  obtain ⟨-, -, -, -, hn⟩ := h.parts
  have h1 : oN g 0 = lenB 128 (40 * g 0 + g 1) + 1 := rfl
  have h2 := oN_mono g (show 0 ≤ m - 2 by omega)
  rw [Nat.zero_add, ← h.eq _ (by omega), oF_prefix g (show 0 ≤ m - 2 by omega) _ (by omega)]
  rfl

theorem RO.pst {f : Nat → Int} {n : Nat} {g : Nat → Int} {m : Nat} (h : RO f n g m) : ∀ j, j ≤ m - 2 → ∃ F, pst f (oN g j) = ⟨j + 1, F, 0, false⟩ ∧ F 0 = 40 * g 0 + g 1 ∧ ∀ i, 1 ≤ i → i ≤ j → F i = g (i + 1) := by
  obtain ⟨m2, m12, hh, ha, hn⟩ := h.parts
  obtain ⟨p0, p1, p2, p3, p4⟩ := oidHead_true hh
  have x1 : g 1 ≤ 1000000 := by by_cases e : g 0 = 2 <;> omega
  intro j
  induction j with
  | zero =>
    intro _
    have h1 := pst_number (f := f) (p := 0) (x := 40 * g 0 + g 1) 0 (fun _ => 0) (by omega) (by omega) (by omega) (fun i hi => h.bytes0 i hi) rfl
    rw [Nat.zero_add] at h1
    exact ⟨_, h1, by unfold updN; rw [if_pos rfl], fun i hi hj => by omega⟩
  | succ j ih =>
    intro hj
    obtain ⟨F, h1, h2, h3⟩ := ih (by omega)
    have h4 := ha j (by omega)
    have h5 := pst_number (f := f) (p := oN g j) (x := g (j + 2)) (j + 1) F (by omega) (by omega) (by omega) (fun i hi => h.bytes j (by omega) i hi) h1
    refine ⟨_, h5, by unfold updN; rw [if_neg (by omega)]; exact h2, fun i hi hj' => ?_⟩
    unfold updN
    by_cases e : i = j + 1
    · rw [if_pos e, e]
    · rw [if_neg e]; exact h3 i hi (by omega)

theorem fst40_eq {x y : Int} (h0 : 0 ≤ x) (h1 : x ≤ 2) (h2 : 0 ≤ y) (h3 : x ≠ 2 → y ≤ 39) : fst40 (40 * x + y) = x := by
  unfold fst40
  by_cases e : x = 2
  · subst e; split <;> omega
  · have := h3 e; split <;> omega

theorem RO.mst {f : Nat → Int} {n : Nat} {g : Nat → Int} {m : Nat} (h : RO f n g m) : ∀ j, j ≤ m - 2 → ∃ F, mst f (oN g j) = ⟨j + 2, F, 0, false⟩ ∧ ∀ i, i < j + 2 → F i = g i := by
  obtain ⟨m2, m12, hh, ha, hn⟩ := h.parts
  obtain ⟨p0, p1, p2, p3, p4⟩ := oidHead_true hh
  have x1 : g 1 ≤ 1000000 := by by_cases e : g 0 = 2 <;> omega
  intro j
  induction j with
  | zero =>
    intro _
    have h1 := mst_number (f := f) (p := 0) (x := 40 * g 0 + g 1) 0 (fun _ => 0) (by omega) (by omega) (fun i hi => h.bytes0 i hi) rfl
    rw [Nat.zero_add, if_pos rfl] at h1
    refine ⟨_, h1, fun i hi => ?_⟩
    have e := fst40_eq p0 p1 p2 p4
    by_cases e0 : i = 0
    · subst e0; rw [if_pos rfl, e]
    · rw [if_neg e0, e, show i = 1 by omega]; omega
  | succ j ih =>
    intro hj
    obtain ⟨F, h1, h3⟩ := ih (by omega)
    have h4 := ha j (by omega)
    have h5 := mst_number (f := f) (p := oN g j) (x := g (j + 2)) (j + 2) F (by omega) (by omega) (fun i hi => h.bytes j (by omega) i hi) h1
    rw [if_neg (by omega)] at h5
    refine ⟨_, h5, fun i hi => ?_⟩
    unfold updN
    by_cases e : i = j + 2
    · rw [if_pos e, e]
    · rw [if_neg e]; exact h3 i (by omega)

theorem oidB_congr {g g' : Nat → Int} {m : Nat} (h : ∀ i, i < m → g i = g' i) : oidB g m = oidB g' m := by
  unfold oidB
  by_cases hm : 2 ≤ m ∧ m ≤ 12
  · have e0 := h 0 (by omega)
    have e1 := h 1 (by omega)
    have e2 : ∀ k, k ≤ m - 2 → oidAll g k = oidAll g' k := fun k => by
      induction k with
      | zero => exact fun _ => rfl
      | succ k ih => intro hk; unfold oidAll; rw [ih (by omega), h (k + 2) (by omega)]
    rw [e2 (m - 2) (Nat.le_refl _)]
    unfold oidHead
    rw [e0, e1]
  · rw [decide_eq_false hm]; rfl
theorem oNF_congr {g g' : Nat → Int} {m : Nat} (hm : 2 ≤ m) (h : ∀ i, i < m → g i = g' i) : ∀ k, k ≤ m - 2 → oN g k = oN g' k ∧ oF g k = oF g' k := fun k => by
  induction k with
  | zero =>
    intro _
    have e0 := h 0 (by omega)
    have e1 := h 1 (by omega)
    exact ⟨by show lenB 128 (40 * g 0 + g 1) + 1 = lenB 128 (40 * g' 0 + g' 1) + 1; rw [e0, e1], by show s7 (40 * g 0 + g 1) = s7 (40 * g' 0 + g' 1); rw [e0, e1]⟩
  | succ k ih =>
    intro hk
    obtain ⟨h1, h2⟩ := ih (by omega)
    have e := h (k + 2) (by omega)
    exact ⟨by show oN g k + (lenB 128 (g (k + 2)) + 1) = oN g' k + (lenB 128 (g' (k + 2)) + 1); rw [h1, e], by show catF (oF g k) (oN g k) (s7 (g (k + 2))) = catF (oF g' k) (oN g' k) (s7 (g' (k + 2))); rw [h1, h2, e]⟩
theorem RO.congr {f : Nat → Int} {n : Nat} {g g' : Nat → Int} {m : Nat} (h : RO f n g m) (e : ∀ i, i < m → g i = g' i) : RO f n g' m := by
  obtain ⟨m2, -, -, -, -⟩ := h.parts
  obtain ⟨h1, h2⟩ := oNF_congr m2 e (m - 2) (Nat.le_refl _)
  have h3 := oidB_congr e
  refine ⟨h3 ▸ h.ok, ?_, fun i hi => by rw [← h2]; exact h.eq i hi⟩
  have := h.len
  unfold oidM at this ⊢
  rw [← h3, ← h1]
  exact this

/-- What the program makes of the numbers it read. -/
def roG (f : Nat → Int) (n i : Nat) : Int := if i = 0 then fst40 ((pst f n).F 0) else if i = 1 then (pst f n).F 0 - 40 * fst40 ((pst f n).F 0) else (pst f n).F (i - 1)
def roN (f : Nat → Int) (n : Nat) : Nat := (pst f n).cnt + 1
def roB (f : Nat → Int) (n : Nat) : Bool := decide (0 < (pst f n).cnt) && (oidB (roG f n) (roN f n) && (oidM (roG f n) (roN f n) == n && alike (oF (roG f n) (roN f n - 2)) f (oidM (roG f n) (roN f n))))
def roM (f : Nat → Int) (n : Nat) : Nat := if roB f n = true then roN f n else 0
theorem roM_le (f : Nat → Int) (n : Nat) : roM f n ≤ 1048576 := by
  unfold roM
  split
  · rename_i h
    unfold roB at h
    rw [Bool.and_eq_true, Bool.and_eq_true] at h
    have h1 := h.2.1
    unfold oidB at h1
    rw [Bool.and_eq_true] at h1
    have : 2 ≤ roN f n ∧ roN f n ≤ 12 := of_decide_eq_true h1.1
    omega
  · omega

theorem ro_of {f g : Nat → Int} {n m : Nat} (h : oidB g m = true ∧ (oidM g m == n && alike (oF g (m - 2)) f (oidM g m)) = true) : RO f n g m := by
  obtain ⟨h1, h2⟩ := h
  rw [Bool.and_eq_true] at h2
  have e : oidM g m = n := by simpa using h2.1
  refine ⟨h1, e, ?_⟩
  have := (alike_iff _ _ _).1 h2.2
  rwa [e] at this
theorem of_ro {f g : Nat → Int} {n m : Nat} (h : RO f n g m) : oidB g m = true ∧ (oidM g m == n && alike (oF g (m - 2)) f (oidM g m)) = true := by
  refine ⟨h.ok, ?_⟩
  rw [h.len, (alike_iff _ _ _).2 h.eq]
  simp

/-- The program finds it. -/
theorem RO.prog {f g : Nat → Int} {n m : Nat} (h : RO f n g m) : roB f n = true ∧ roN f n = m ∧ ∀ i, i < m → roG f n i = g i := by
  obtain ⟨m2, m12, hh, ha, hn⟩ := h.parts
  obtain ⟨p0, p1, p2, p3, p4⟩ := oidHead_true hh
  obtain ⟨F, h1, h2, h3⟩ := h.pst (m - 2) (Nat.le_refl _)
  rw [hn] at h1
  have e1 : roN f n = m := by unfold roN; rw [h1]; show m - 2 + 1 + 1 = m; omega
  have e2 : ∀ i, i < m → roG f n i = g i := by
    intro i hi
    have e := fst40_eq p0 p1 p2 p4
    unfold roG
    rw [h1]
    show (if i = 0 then fst40 (F 0) else if i = 1 then F 0 - 40 * fst40 (F 0) else F (i - 1)) = g i
    rw [h2, e]
    by_cases e0 : i = 0
    · subst e0; rw [if_pos rfl]
    · rw [if_neg e0]
      by_cases e1 : i = 1
      · subst e1; rw [if_pos rfl]; omega
      · rw [if_neg e1, h3 (i - 1) (by omega) (by omega), show i - 1 + 1 = i by omega]
  have h4 := of_ro (h.congr (fun i hi => (e2 i hi).symm))
  refine ⟨?_, e1, e2⟩
  unfold roB
  rw [e1, h4.1, h4.2, h1]
  rfl

theorem roB_ro {f : Nat → Int} {n : Nat} (h : roB f n = true) : RO f n (roG f n) (roN f n) := by
  unfold roB at h
  rw [Bool.and_eq_true, Bool.and_eq_true] at h
  exact ro_of h.2

/-- The model answers as the program. -/
theorem mst_ok {f : Nat → Int} {n : Nat} : (oidB (mst f n).F (mst f n).cnt && (oidM (mst f n).F (mst f n).cnt == n && alike (oF (mst f n).F ((mst f n).cnt - 2)) f (oidM (mst f n).F (mst f n).cnt))) = roB f n ∧ (roB f n = true → (mst f n).cnt = roN f n ∧ ∀ i, i < roN f n → (mst f n).F i = roG f n i) := by
  have key : roB f n = true → (mst f n).cnt = roN f n ∧ ∀ i, i < roN f n → (mst f n).F i = roG f n i := by
    intro h
    have hr := roB_ro h
    obtain ⟨m2, m12, hh, ha, hn⟩ := hr.parts
    obtain ⟨F, h1, h2⟩ := hr.mst (roN f n - 2) (Nat.le_refl _)
    rw [hn] at h1
    rw [h1]
    exact ⟨by show roN f n - 2 + 2 = roN f n; omega, fun i hi => h2 i (by omega)⟩
  refine ⟨?_, key⟩
  cases hb : roB f n with
  | true =>
    obtain ⟨h1, h2⟩ := key hb
    have hr := of_ro ((roB_ro hb).congr (fun i hi => (h2 i hi).symm))
    rw [h1, hr.1, hr.2]
    rfl
  | false =>
    cases hc : (oidB (mst f n).F (mst f n).cnt && (oidM (mst f n).F (mst f n).cnt == n && alike (oF (mst f n).F ((mst f n).cnt - 2)) f (oidM (mst f n).F (mst f n).cnt))) with
    | false => rfl
    | true =>
      rw [Bool.and_eq_true] at hc
      have := (ro_of hc).prog.1
      rw [hb] at this
      cases this

end Go.Proofs.Ytjkojofpkeglpaa
