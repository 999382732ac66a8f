/- Plain numbers: days, months and years. Nothing of the program. -/
import Derived.Test.YtjidlahgfkdipaaDoorBase
namespace Go.Proofs.YtjidlahgfkdipaaDoor
set_option linter.unusedVariables false
set_option linter.unusedSimpArgs false
open Go.RowKit

/-- The days of months in a year of 365. -/
def mTab : List Int := [31, 28, 31, 30, 31, 30, 31, 31, 30, 31, 30, 31]
/-- The days of a year, of a month. -/
def yd (y : Nat) : Nat := if y % 4 = 0 then 366 else 365
def mdt : Nat → Nat
  | 1 => 31 | 2 => 28 | 3 => 31 | 4 => 30 | 5 => 31 | 6 => 30 | 7 => 31 | 8 => 31 | 9 => 30 | 10 => 31 | 11 => 30 | 12 => 31 | _ => 0
def md (y m : Nat) : Nat := if m = 2 ∧ y % 4 = 0 then 29 else mdt m
/-- The days ahead of a year, counted from 1950, and of a month. -/
def Yd (k : Nat) : Nat := 365 * k + (k + 1) / 4
def mbt : Nat → Nat
  | 1 => 0 | 2 => 31 | 3 => 59 | 4 => 90 | 5 => 120 | 6 => 151 | 7 => 181 | 8 => 212 | 9 => 243 | 10 => 273 | 11 => 304 | 12 => 334 | 13 => 365 | _ => 0
def Mb (y m : Nat) : Nat := if 2 < m ∧ y % 4 = 0 then mbt m + 1 else mbt m

theorem Yd_zero : Yd 0 = 0 := rfl
theorem Yd_succ (k : Nat) : Yd (k + 1) = Yd k + yd (1950 + k) := by unfold Yd yd; split <;> omega
theorem Mb_one (y : Nat) : Mb y 1 = 0 := by unfold Mb; simp [mbt]
theorem Mb_end (y : Nat) : Mb y 13 = yd y := by unfold Mb yd mbt; simp
theorem month_cases {m : Nat} (h1 : 1 ≤ m) (h2 : m ≤ 12) : m = 1 ∨ m = 2 ∨ m = 3 ∨ m = 4 ∨ m = 5 ∨ m = 6 ∨ m = 7 ∨ m = 8 ∨ m = 9 ∨ m = 10 ∨ m = 11 ∨ m = 12 := by omega
theorem Mb_succ (y m : Nat) (h1 : 1 ≤ m) (h2 : m ≤ 12) : Mb y (m + 1) = Mb y m + md y m := by
  by_cases h : y % 4 = 0
  all_goals rcases month_cases h1 h2 with rfl | rfl | rfl | rfl | rfl | rfl | rfl | rfl | rfl | rfl | rfl | rfl
  all_goals simp [Mb, md, mbt, mdt, h]
theorem md_le (y m : Nat) : md y m ≤ 31 := by
  unfold md
  split
  · omega
  · unfold mdt; split <;> omega
theorem Mb_le (y m : Nat) (h1 : 1 ≤ m) (h2 : m ≤ 12) : Mb y (m + 1) ≤ yd y := by
  by_cases h : y % 4 = 0
  all_goals rcases month_cases h1 h2 with rfl | rfl | rfl | rfl | rfl | rfl | rfl | rfl | rfl | rfl | rfl | rfl
  all_goals simp [Mb, mbt, yd, h]
theorem Mb_mono (y : Nat) {m n : Nat} (h1 : 1 ≤ m) (h : m < n) (h2 : n ≤ 12) : Mb y (m + 1) ≤ Mb y n := by
  induction n with
  | zero => omega
  | succ n ih =>
    by_cases e : m = n
    · subst e; exact Nat.le_refl _
    · have := ih (by omega) (by omega)
      rw [Mb_succ y n (by omega) (by omega)]
      omega
theorem Yd_mono {k n : Nat} (h : k < n) : Yd (k + 1) ≤ Yd n := by unfold Yd; omega
theorem Yd_lt {k : Nat} (h : Yd k ≤ 54786) : k < 150 := by unfold Yd at h; omega
theorem Yd_last {k : Nat} (h : k < 150) : Yd (k + 1) ≤ 54787 := by unfold Yd; omega
theorem yd_le (y : Nat) : 365 ≤ yd y ∧ yd y ≤ 366 := by unfold yd; split <;> omega

/-- Year, month and day that there are. -/
structure DayOk (y m d : Nat) : Prop where
  y0 : 1950 ≤ y
  y1 : y ≤ 2099
  m0 : 1 ≤ m
  m1 : m ≤ 12
  d0 : 1 ≤ d
  d1 : d ≤ md y m
/-- How many days lie ahead of a day. -/
def days (y m d : Nat) : Nat := Yd (y - 1950) + Mb y m + (d - 1)
theorem DayOk.lt {y m d : Nat} (h : DayOk y m d) : days y m d < Yd (y - 1950 + 1) ∧ Yd (y - 1950) ≤ days y m d ∧ Yd (y - 1950) + Mb y m ≤ days y m d ∧ days y m d < Yd (y - 1950) + Mb y (m + 1) := by
  have a := Yd_succ (y - 1950)
  have e : 1950 + (y - 1950) = y := by have := h.y0; omega
  rw [e] at a
  have b := Mb_succ y m h.m0 h.m1
  have c := Mb_le y m h.m0 h.m1
  have d0 := h.d0
  have d1 := h.d1
  unfold days
  omega
theorem DayOk.max {y m d : Nat} (h : DayOk y m d) : days y m d ≤ 54786 := by
  have := h.lt.1
  have := Yd_last (k := y - 1950) (by have := h.y1; omega)
  omega
theorem DayOk.unique {y m d y' m' d' : Nat} (h : DayOk y m d) (h' : DayOk y' m' d') (e : days y m d = days y' m' d') : y = y' ∧ m = m' ∧ d = d' := by
  obtain ⟨a1, a2, a3, a4⟩ := h.lt
  obtain ⟨b1, b2, b3, b4⟩ := h'.lt
  have hy : y = y' := by
    have h0 := h.y0
    have h0' := h'.y0
    rcases Nat.lt_trichotomy y y' with c | c | c
    · have := Yd_mono (k := y - 1950) (n := y' - 1950) (by omega); omega
    · exact c
    · have := Yd_mono (k := y' - 1950) (n := y - 1950) (by omega); omega
  subst hy
  have hm : m = m' := by
    rcases Nat.lt_trichotomy m m' with c | c | c
    · have := Mb_mono y h.m0 c h'.m1; omega
    · exact c
    · have := Mb_mono y h'.m0 c h.m1; omega
  subst hm
  have := h.d0
  have := h'.d0
  unfold days at e
  exact ⟨rfl, rfl, by omega⟩

/-- Order of days is that of years, months, days. -/
theorem DayOk.less {y m d y' m' d' : Nat} (h : DayOk y m d) (h' : DayOk y' m' d') (e : days y m d < days y' m' d') : y < y' ∨ (y = y' ∧ (m < m' ∨ (m = m' ∧ d < d'))) := by
  obtain ⟨a1, a2, a3, a4⟩ := h.lt
  obtain ⟨b1, b2, b3, b4⟩ := h'.lt
  have h0 := h.y0
  have h0' := h'.y0
  rcases Nat.lt_trichotomy y y' with c | c | c
  · exact .inl c
  · subst c
    refine .inr ⟨rfl, ?_⟩
    rcases Nat.lt_trichotomy m m' with c | c | c
    · exact .inl c
    · subst c
      unfold days at e
      exact .inr ⟨rfl, by omega⟩
    · have := Mb_mono y h'.m0 c h.m1; omega
  · have := Yd_mono (k := y' - 1950) (n := y - 1950) (by omega); omega

/-- The time of a day and a second. -/
def tmV (y m d s : Nat) : Int := -631152000 + ((days y m d * 86400 + s : Nat) : Int)
/-- A time, its day and its second. -/
structure IsDay (t : Int) (y m d s : Nat) : Prop extends DayOk y m d where
  s1 : s < 86400
  t1 : t = tmV y m d s
theorem IsDay.range {t : Int} {y m d s : Nat} (h : IsDay t y m d s) : -631152000 ≤ t ∧ t ≤ 4102444799 := by
  have := h.toDayOk.max
  have := h.s1
  have e := h.t1
  unfold tmV at e
  omega
theorem IsDay.unique {t : Int} {y m d s y' m' d' s' : Nat} (h : IsDay t y m d s) (h' : IsDay t y' m' d' s') : y = y' ∧ m = m' ∧ d = d' ∧ s = s' := by
  have a := h.s1
  have a' := h'.s1
  have e := h.t1
  have e' := h'.t1
  unfold tmV at e e'
  obtain ⟨h1, h2, h3⟩ := h.toDayOk.unique h'.toDayOk (by omega)
  subst h1 h2 h3
  exact ⟨rfl, rfl, rfl, by omega⟩
theorem isDay_of {t : Int} {D s k m r : Nat} (ht : t = -631152000 + ((D * 86400 + s : Nat) : Int)) (hD : D ≤ 54786) (hs : s < 86400) (hk : r + Mb (1950 + k) m + Yd k = D) (hm0 : 1 ≤ m) (hm : m ≤ 12) (hr : r < md (1950 + k) m) : IsDay t (1950 + k) m (r + 1) s := by
  have : k < 150 := Yd_lt (by omega)
  refine ⟨⟨by omega, by omega, hm0, hm, by omega, hr⟩, hs, ?_⟩
  rw [ht]
  unfold tmV days
  rw [Nat.add_sub_cancel_left, Nat.add_sub_cancel]
  have : D = Yd k + Mb (1950 + k) m + r := by omega
  rw [this]

/-- Whether four numbers tell a time. -/
def tOk (y m d s : Int) : Bool := decide (1950 ≤ y ∧ y ≤ 2099 ∧ 1 ≤ m ∧ m ≤ 12 ∧ 1 ≤ d ∧ d ≤ (md y.toNat m.toNat : Int) ∧ 0 ≤ s ∧ s < 86400)
def tTm (y m d s : Int) : Int := if tOk y m d s then tmV y.toNat m.toNat d.toNat s.toNat else 0
theorem tOk_nat {y m d s : Int} (h : tOk y m d s = true) : ∃ y' m' d' s' : Nat, y = y' ∧ m = m' ∧ d = d' ∧ s = s' ∧ DayOk y' m' d' ∧ s' < 86400 := by
  unfold tOk at h
  rw [decide_eq_true_eq] at h
  obtain ⟨h1, h2, h3, h4, h5, h6, h7, h8⟩ := h
  refine ⟨y.toNat, m.toNat, d.toNat, s.toNat, by omega, by omega, by omega, by omega, ⟨by omega, by omega, by omega, by omega, by omega, by omega⟩, by omega⟩
theorem tOk_of {y m d s : Nat} (h : DayOk y m d) (hs : s < 86400) : tOk y m d s = true ∧ tTm y m d s = tmV y m d s := by
  have k : tOk y m d s = true := by
    unfold tOk
    rw [decide_eq_true_eq]
    obtain ⟨h1, h2, h3, h4, h5, h6⟩ := h
    simp only [Int.toNat_natCast]
    omega
  refine ⟨k, ?_⟩
  unfold tTm
  rw [k]
  rfl

end Go.Proofs.YtjidlahgfkdipaaDoor
