/- Walks: PrimeInt, of the model and of the program: whether a number is prime. Plain numbers: points of a curve over the numbers by a prime number: sums by chord and tangent stay on the curve and are a group. Nothing of the program. Plain numbers: points of a curve are a group; multiples. Nothing of the program. -/
import Derived.Test.YtollgoadgjlccaaGreatDoorChecked
import Derived.Test.YtollgoadgjlccaaGreatDoorCz01
import Derived.Test.YtollgoadgjlccaaGreatDoorCz04
import Derived.Test.YtollgoadgjlccaaGreatDoorCz05
namespace Go.Proofs.YtollgoadgjlccaaGreatDoor

section
set_option linter.unusedVariables false

open Go.RowKit

/-- A call's answer is whether n is a prime number in 2 .. 2^40. -/
def GivesPrime (n : Int) (r : Ending) : Prop := ∃ ok : Bool, r = .returned (.bool ok) ∧ (ok = true ↔ 2 ≤ n ∧ n ≤ 1099511627776 ∧ Prime n.toNat)

theorem sq_le {D N : Nat} (h : D * D ≤ N) (hN : N ≤ 1099511627776) : D ≤ 1048576 := by
  rcases Nat.lt_or_ge 1048576 D with h1 | h1
  · have := Nat.mul_le_mul (show 1048577 ≤ D by omega) (show 1048577 ≤ D by omega)
    omega
  · exact h1

theorem sq_int {D : Nat} (h : D ≤ 1048579) : 0 ≤ (D : Int) * (D : Int) ∧ (D : Int) * (D : Int) ≤ 2199023255552 := by
  have := Nat.mul_le_mul h h
  rw [← Int.natCast_mul]
  omega

theorem prime_end {N D : Nat} (h2 : 2 ≤ N) (hno : ∀ c, 2 ≤ c → c < D → ¬ c ∣ N) (h : ¬ D * D ≤ N) : Prime N := by
  refine ⟨h2, fun d hd hdd => hno d hd ?_⟩
  rcases Nat.lt_or_ge d D with h1 | h1
  · exact h1
  · exact absurd (Nat.le_trans (Nat.mul_le_mul h1 h1) hdd) h

theorem not_prime {N D : Nat} (h2 : 2 ≤ D) (h : D * D ≤ N) (hd : N % D = 0) : ¬ Prime N := fun hp => hp.2 D h2 h (Nat.dvd_of_mod_eq_zero hd)

set_option maxHeartbeats 800000 in
theorem specPrimeInt_any (n : Int) (w : World) (h1 : n ≤ 9223372036854775807) :
    Calls Tryz.prog 192 #[.int .i64 n] w fun r w' => GivesPrime n r ∧ w' = w := by
  by_cases c : 2 ≤ n ∧ n ≤ 1099511627776
  · obtain ⟨N, rfl⟩ := Int.eq_ofNat_of_zero_le (show 0 ≤ n by omega)
    have hin : (decide ((2 : Int) ≤ (N : Int)) && decide ((N : Int) ≤ 1099511627776)) = true := by simp; omega
    obtain ⟨c1, c2⟩ := c
    have hN2 : 2 ≤ N := by omega
    have hNm : N ≤ 1099511627776 := by omega
    have Hy : Hid (∀ ok : Bool, (ok = true ↔ Prime N) → GivesPrime (N : Int) (.returned (.bool ok))) := fun ok h => ⟨ok, rfl, by
      rw [h, Int.toNat_natCast]
      exact ⟨fun hp => ⟨by omega, by omega, hp⟩, fun h => h.2.2⟩⟩
    go_enter Tryz.func192, Tryz.ntmps192
    go_wp2_with fail
    refine (l1In_int _ 2 1099511627776 _).mono ?_
    rintro r w' ⟨rfl, hw⟩
    obtain rfl := hw.symm
    rw [hin]
    clear hin
    go_wp2
    go_loop [3] (fun d => ∃ D : Nat, d = .int .i64 D ∧ 2 ≤ D ∧ D ≤ 1048577 ∧ ∀ c, 2 ≤ c → c < D → ¬ c ∣ N) (fun d => N + 3 - (intOf d).toNat)
    case atStart => exact ⟨2, rfl, by omega, by omega, fun c h1 h2 => by omega⟩
    case round =>
      obtain ⟨D, rfl, hD2, hDm, hno⟩ := hrel
      have Hno := hide hno
      clear hno
      obtain ⟨q0, q1⟩ := sq_int (show D ≤ 1048579 by omega)
      have hDp : 0 < (D : Int) := by omega
      by_cases hle : D * D ≤ N
      · have hle' : (D : Int) * (D : Int) ≤ (N : Int) := by rw [← Int.natCast_mul]; omega
        have hs := sq_le hle hNm
        have hDN : D ≤ N := Nat.le_trans (Nat.le_mul_of_pos_left D (by omega)) hle
        have Hle := hide hle
        have hmod : (N : Int) % (D : Int) = ((N % D : Nat) : Int) := by omega
        clear hle
        by_cases hdv : N % D = 0
        · have Hnp := hide (not_prime hD2 Hle.out hdv)
          have hz : (((N % D : Nat) : Int) == 0) = true := by rw [hdv]; rfl
          generalize N % D = T at *
          clear hdv
          go_wp2
          go_ret
          exact ⟨Hy.out false ⟨fun h => by simp at h, fun hp => absurd hp Hnp.out⟩, rfl⟩
        · have hz : (((N % D : Nat) : Int) == 0) = false := by simp; omega
          have Hn : Hid (∀ c, 2 ≤ c → c < D + 1 → ¬ c ∣ N) := fun c h1 h2 => by
            rcases Nat.lt_or_ge c D with h3 | h3
            · exact Hno.out c h1 h3
            · obtain rfl : c = D := by omega
              exact fun hd => hdv (Nat.mod_eq_zero_of_dvd hd)
          generalize N % D = T at *
          clear hdv
          go_wp2
          go_round
          case rel => exact ⟨D + 1, by go_num, by omega, by omega, Hn.out⟩
          case measure => simp [intOf]; omega
      · have hle' : ¬ (D : Int) * (D : Int) ≤ (N : Int) := by rw [← Int.natCast_mul]; omega
        have Hp := hide (prime_end hN2 Hno.out hle)
        clear hle
        go_wp2
        go_ret
        exact ⟨Hy.out true ⟨fun _ => Hp.out, fun _ => rfl⟩, rfl⟩
  · have Hno : Hid (GivesPrime n (.returned (.bool false))) := ⟨false, rfl, ⟨fun h => by simp at h, fun h => absurd ⟨h.1, h.2.1⟩ c⟩⟩
    have hin : (decide ((2 : Int) ≤ n) && decide (n ≤ 1099511627776)) = false := by simp; omega
    clear c
    go_enter Tryz.func192, Tryz.ntmps192
    go_wp2_with fail
    refine (l1In_int _ 2 1099511627776 _).mono ?_
    rintro r w' ⟨rfl, hw⟩
    obtain rfl := hw.symm
    rw [hin]
    clear hin
    go_wp2
    go_ret
    exact ⟨Hno.out, rfl⟩

set_option maxHeartbeats 800000 in
theorem implPrimeInt_any (n : Int) (w : World) (h1 : n ≤ 9223372036854775807) :
    Calls Tryz.prog 281 #[.int .i64 n] w fun r w' => GivesPrime n r ∧ w' = w := by
  by_cases c : 2 ≤ n ∧ n ≤ 1099511627776
  · obtain ⟨N, rfl⟩ := Int.eq_ofNat_of_zero_le (show 0 ≤ n by omega)
    obtain ⟨c1, c2⟩ := c
    have hN2 : 2 ≤ N := by omega
    have hNm : N ≤ 1099511627776 := by omega
    have Hy : Hid (∀ ok : Bool, (ok = true ↔ Prime N) → GivesPrime (N : Int) (.returned (.bool ok))) := fun ok h => ⟨ok, rfl, by
      rw [h, Int.toNat_natCast]
      exact ⟨fun hp => ⟨by omega, by omega, hp⟩, fun h => h.2.2⟩⟩
    by_cases hev : N % 2 = 0
    · have hz : ((N : Int) % 2 == 0) = true := by simp; omega
      by_cases h2 : N = 2
      · subst h2
        have Hp : Hid (Prime 2) := prime_end (D := 2) (by omega) (fun c h1 h2 => by omega) (by omega)
        go_enter Tryz.func281, Tryz.ntmps281
        go_wp2
        go_ret
        exact ⟨Hy.out true ⟨fun _ => Hp.out, fun _ => rfl⟩, rfl⟩
      · have h2' : ((N : Int) == 2) = false := by simp; omega
        have Hp : Hid (¬ Prime N) := by
          by_cases h4 : 4 ≤ N
          · exact not_prime (D := 2) (by omega) (by omega) hev
          · omega
        go_enter Tryz.func281, Tryz.ntmps281
        go_wp2
        go_ret
        exact ⟨Hy.out false ⟨fun h => by simp at h, fun hp => absurd hp Hp.out⟩, rfl⟩
    · have hz : ((N : Int) % 2 == 0) = false := by simp; omega
      go_enter Tryz.func281, Tryz.ntmps281
      go_wp2
      clear hz
      go_loop [3] (fun d => ∃ D : Nat, d = .int .i64 D ∧ 3 ≤ D ∧ D % 2 = 1 ∧ D ≤ 1048578 ∧ ∀ c, 2 ≤ c → c < D → ¬ c ∣ N) (fun d => N + 3 - (intOf d).toNat)
      case atStart =>
        refine ⟨3, rfl, by omega, by omega, by omega, fun c h1 h2 => ?_⟩
        obtain rfl : c = 2 := by omega
        exact fun hd => hev (Nat.mod_eq_zero_of_dvd hd)
      case round =>
        obtain ⟨D, rfl, hD2, hodd, hDm, hno⟩ := hrel
        have Hno := hide hno
        clear hno
        obtain ⟨q0, q1⟩ := sq_int (show D ≤ 1048579 by omega)
        have hDp : 0 < (D : Int) := by omega
        by_cases hle : D * D ≤ N
        · have hle' : (D : Int) * (D : Int) ≤ (N : Int) := by rw [← Int.natCast_mul]; omega
          have hs := sq_le hle hNm
          have hDN : D ≤ N := Nat.le_trans (Nat.le_mul_of_pos_left D (by omega)) hle
          have Hle := hide hle
          have hmod : (N : Int) % (D : Int) = ((N % D : Nat) : Int) := by omega
          clear hle
          by_cases hdv : N % D = 0
          · have hz : (((N % D : Nat) : Int) == 0) = true := by rw [hdv]; rfl
            have Hnp := hide (not_prime (show 2 ≤ D by omega) Hle.out hdv)
            generalize N % D = T at *
            clear hdv
            go_wp2
            go_ret
            exact ⟨Hy.out false ⟨fun h => by simp at h, fun hp => absurd hp Hnp.out⟩, rfl⟩
          · have hz : (((N % D : Nat) : Int) == 0) = false := by simp; omega
            have Hn : Hid (∀ c, 2 ≤ c → c < D + 2 → ¬ c ∣ N) := fun c h1 h2 => by
              rcases Nat.lt_or_ge c D with h3 | h3
              · exact Hno.out c h1 h3
              · rcases (show c = D ∨ c = D + 1 by omega) with rfl | rfl
                · exact fun hd => hdv (Nat.mod_eq_zero_of_dvd hd)
                · exact fun hd => hev (Nat.mod_eq_zero_of_dvd (Nat.dvd_trans (Nat.dvd_of_mod_eq_zero (by omega)) hd))
            generalize N % D = T at *
            clear hdv
            go_wp2
            go_round
            case rel => exact ⟨D + 2, by go_num, by omega, by omega, by omega, Hn.out⟩
            case measure => simp [intOf]; omega
        · have hle' : ¬ (D : Int) * (D : Int) ≤ (N : Int) := by rw [← Int.natCast_mul]; omega
          have Hp := hide (prime_end hN2 Hno.out hle)
          clear hle
          go_wp2
          go_ret
          exact ⟨Hy.out true ⟨fun _ => Hp.out, fun _ => rfl⟩, rfl⟩
  · have Hno : Hid (GivesPrime n (.returned (.bool false))) := ⟨false, rfl, ⟨fun h => by simp at h, fun h => absurd ⟨h.1, h.2.1⟩ c⟩⟩
    by_cases c1 : n < 2
    · clear c
      go_enter Tryz.func281, Tryz.ntmps281
      go_wp2
      go_ret
      exact ⟨Hno.out, rfl⟩
    · have c2 : 1099511627776 < n := by omega
      clear c
      go_enter Tryz.func281, Tryz.ntmps281
      go_wp2
      go_ret
      exact ⟨Hno.out, rfl⟩

theorem GivesPrime.unique {n : Int} {a b : Bool} (h : GivesPrime n (.returned (.bool a))) (h' : GivesPrime n (.returned (.bool b))) : a = b := by
  obtain ⟨x, hx, hx2⟩ := h
  obtain ⟨y, hy, hy2⟩ := h'
  have e1 : a = x := by injection hx with h; injection h
  have e2 : b = y := by injection hy with h; injection h
  subst e1 e2
  rw [Bool.eq_iff_iff, hx2, hy2]
end

section
set_option linter.unusedVariables false

theorem comb1 {p H E : Int} (h : p ∣ H) (c : Int) (e : E = c * H) : p ∣ E := by
  rw [e]; exact Int.dvd_mul_of_dvd_right h

theorem comb2 {p H1 H2 E : Int} (h1 : p ∣ H1) (h2 : p ∣ H2) (c1 c2 : Int) (e : E = c1 * H1 + c2 * H2) : p ∣ E := by
  rw [e]; exact Int.dvd_add (Int.dvd_mul_of_dvd_right h1) (Int.dvd_mul_of_dvd_right h2)

theorem comb3 {p H1 H2 H3 E : Int} (h1 : p ∣ H1) (h2 : p ∣ H2) (h3 : p ∣ H3) (c1 c2 c3 : Int) (e : E = c1 * H1 + c2 * H2 + c3 * H3) : p ∣ E := by
  rw [e]; exact Int.dvd_add (comb2 h1 h2 c1 c2 rfl) (Int.dvd_mul_of_dvd_right h3)

theorem comb4 {p H1 H2 H3 H4 E : Int} (h1 : p ∣ H1) (h2 : p ∣ H2) (h3 : p ∣ H3) (h4 : p ∣ H4) (c1 c2 c3 c4 : Int) (e : E = c1 * H1 + c2 * H2 + c3 * H3 + c4 * H4) : p ∣ E := by
  rw [e]; exact Int.dvd_add (comb3 h1 h2 h3 c1 c2 c3 rfl) (Int.dvd_mul_of_dvd_right h4)

theorem comb5 {p H1 H2 H3 H4 H5 E : Int} (h1 : p ∣ H1) (h2 : p ∣ H2) (h3 : p ∣ H3) (h4 : p ∣ H4) (h5 : p ∣ H5) (c1 c2 c3 c4 c5 : Int) (e : E = c1 * H1 + c2 * H2 + c3 * H3 + c4 * H4 + c5 * H5) : p ∣ E := by
  rw [e]; exact Int.dvd_add (comb4 h1 h2 h3 h4 c1 c2 c3 c4 rfl) (Int.dvd_mul_of_dvd_right h5)

theorem comb6 {p H1 H2 H3 H4 H5 H6 E : Int} (h1 : p ∣ H1) (h2 : p ∣ H2) (h3 : p ∣ H3) (h4 : p ∣ H4) (h5 : p ∣ H5) (h6 : p ∣ H6) (c1 c2 c3 c4 c5 c6 : Int) (e : E = c1 * H1 + c2 * H2 + c3 * H3 + c4 * H4 + c5 * H5 + c6 * H6) : p ∣ E := by
  rw [e]; exact Int.dvd_add (comb5 h1 h2 h3 h4 h5 c1 c2 c3 c4 c5 rfl) (Int.dvd_mul_of_dvd_right h6)

theorem mod_dvd (p x : Int) : p ∣ x % p - x := by
  have := Int.emod_add_mul_ediv x p
  exact ⟨-(x / p), by rw [Int.mul_neg]; omega⟩

theorem mod_eq {p x y : Int} (h : p ∣ x - y) : x % p = y % p :=
  Int.emod_eq_emod_iff_emod_sub_eq_zero.2 (Int.emod_eq_zero_of_dvd h)

theorem eq_of_dvd {p x y : Int} (hx0 : 0 ≤ x) (hx : x < p) (hy0 : 0 ≤ y) (hy : y < p) (h : p ∣ x - y) : x = y := by
  have := mod_eq h
  rwa [Int.emod_eq_of_lt hx0 hx, Int.emod_eq_of_lt hy0 hy] at this

/-- The inverse by a prime number, 0 where there is none. -/
def iv (p : Nat) (a : Int) : Int := (((a % p).toNat ^ (p - 2) % p : Nat) : Int)

theorem iv_range {p : Nat} (h : 0 < p) (a : Int) : 0 ≤ iv p a ∧ iv p a < p := by
  have := Nat.mod_lt ((a % p).toNat ^ (p - 2)) h
  unfold iv
  omega

theorem iv_spec {p : Nat} (hp : Prime p) {a : Int} (ha : ¬ (p : Int) ∣ a) : (p : Int) ∣ a * iv p a - 1 := by
  have h2 := hp.1
  have r0 := Int.emod_nonneg a (show (p : Int) ≠ 0 by omega)
  have hz : ((a % p).toNat : Int) = a % p := by omega
  have hn : ¬ p ∣ (a % p).toNat := by
    intro hd
    apply ha
    have h1 : (p : Int) ∣ a % p := by rw [← hz]; exact Int.ofNat_dvd.2 hd
    have h3 := Int.dvd_sub h1 (mod_dvd (p : Int) a)
    rwa [show a % (p : Int) - (a % p - a) = a by omega] at h3
  have hf := hp.fermat hn
  have e1 : (p : Int) ∣ iv p a - (((a % p).toNat ^ (p - 2) : Nat) : Int) := by
    unfold iv; rw [Int.natCast_emod]; exact mod_dvd _ _
  have e2 : (p : Int) ∣ (((a % p).toNat ^ (p - 1) : Nat) : Int) - 1 := by
    have := mod_dvd (p : Int) (((a % p).toNat ^ (p - 1) : Nat) : Int)
    rw [← Int.natCast_emod, hf] at this
    have h3 := Int.dvd_neg.2 this
    rwa [show -(((1 : Nat) : Int) - (((a % p).toNat ^ (p - 1) : Nat) : Int)) = (((a % p).toNat ^ (p - 1) : Nat) : Int) - 1 by omega] at h3
  have e3 : (((a % p).toNat ^ (p - 1) : Nat) : Int) = (a % p) * (((a % p).toNat ^ (p - 2) : Nat) : Int) := by
    rw [show p - 1 = (p - 2) + 1 by omega, Nat.pow_succ, Int.natCast_mul, hz, Int.mul_comm]
  rw [e3] at e2
  have e4 := mod_dvd (p : Int) a
  generalize (((a % p).toNat ^ (p - 2) : Nat) : Int) = z at *
  generalize iv p a = v at *
  generalize a % (p : Int) = r at *
  exact comb3 e1 e2 e4 a 1 (-z) (by grind)

theorem iv_zero {p : Nat} (h3 : 3 ≤ p) {a : Int} (ha : (p : Int) ∣ a) : iv p a = 0 := by
  unfold iv
  rw [Int.emod_eq_zero_of_dvd ha]
  simp only [Int.toNat_zero]
  rw [Nat.zero_pow (by omega)]
  simp

/-- A point: two numbers, or the far one. -/
structure Pt where
  x : Int
  y : Int
  far : Bool

def farP : Pt := ⟨0, 0, true⟩

theorem Pt.ext' {a b : Pt} (hx : a.x = b.x) (hy : a.y = b.y) (hf : a.far = b.far) : a = b := by
  cases a; cases b; simp only at hx hy hf; subst hx hy hf; rfl

/-- Two numbers of the curve. -/
structure Aff (p : Nat) (A B x y : Int) : Prop where
  x0 : 0 ≤ x
  x1 : x < p
  y0 : 0 ≤ y
  y1 : y < p
  on : (p : Int) ∣ y * y - (x * x * x + A * x + B)

/-- A point of the curve. -/
def On (p : Nat) (A B : Int) (a : Pt) : Prop := (a.far = true ∧ a.x = 0 ∧ a.y = 0) ∨ (a.far = false ∧ Aff p A B a.x a.y)

theorem On.far_eq {p : Nat} {A B : Int} {a : Pt} (h : On p A B a) (hf : a.far = true) : a = farP := by
  rcases h with ⟨_, hx, hy⟩ | ⟨h, _⟩
  · exact Pt.ext' hx hy hf
  · rw [hf] at h; simp at h

theorem On.aff {p : Nat} {A B : Int} {a : Pt} (h : On p A B a) (hf : a.far = false) : Aff p A B a.x a.y := by
  rcases h with ⟨h, _⟩ | ⟨_, h⟩
  · rw [hf] at h; simp at h
  · exact h

theorem on_far (p : Nat) (A B : Int) : On p A B farP := Or.inl ⟨rfl, rfl, rfl⟩

/-- The curve is as wanted. -/
structure Cv (p : Nat) (A B : Int) : Prop where
  prime : Prime p
  five : 5 ≤ p
  disc : ¬ (p : Int) ∣ 4 * (A * A * A) + 27 * (B * B)

/-- The number by which the sum is told. -/
def slopeF (p : Nat) (A : Int) (a b : Pt) : Int :=
  (if a.x = b.x then (3 * a.x * a.x + A) * iv p (2 * a.y) else (b.y - a.y) * iv p (b.x - a.x)) % p

/-- The third point. -/
def third (p : Nat) (x1 y1 x2 l : Int) : Pt := ⟨(l * l - x1 - x2) % p, (l * (x1 - (l * l - x1 - x2) % p) - y1) % p, false⟩

/-- The sum. -/
def addF (p : Nat) (A : Int) (a b : Pt) : Pt :=
  if a.far = true then b else if b.far = true then a else if a.x = b.x ∧ (a.y + b.y) % p = 0 then farP else third p a.x a.y b.x (slopeF p A a b)

/-- A number as slope of two points. -/
structure Slope (p : Nat) (A x1 y1 x2 y2 l : Int) : Prop where
  s1 : (p : Int) ∣ (y1 - y2) - l * (x1 - x2)
  s2 : (p : Int) ∣ (y1 + y2) * l - (x1 * x1 + x1 * x2 + x2 * x2 + A)

/-- Two points are each other's other side. -/
def Opp (p : Nat) (x1 y1 x2 y2 : Int) : Prop := x1 = x2 ∧ (p : Int) ∣ y1 + y2

theorem third_x (p : Nat) (x1 y1 x2 l : Int) : (p : Int) ∣ (third p x1 y1 x2 l).x - (l * l - x1 - x2) := mod_dvd _ _

theorem third_y (p : Nat) (x1 y1 x2 l : Int) : (p : Int) ∣ (third p x1 y1 x2 l).y - (l * (x1 - (third p x1 y1 x2 l).x) - y1) := mod_dvd _ _

theorem third_congr {p : Nat} {x1 y1 x2 y2 l x1' y1' x2' l' : Int} (hx : (p : Int) ∣ (l * l - x1 - x2) - (l' * l' - x1' - x2')) (hy : (p : Int) ∣ (l * (x1 - (third p x1 y1 x2 l).x) - y1) - (l' * (x1' - (third p x1 y1 x2 l).x) - y1')) : third p x1 y1 x2 l = third p x1' y1' x2' l' := by
  have ex : (third p x1 y1 x2 l).x = (third p x1' y1' x2' l').x := mod_eq hx
  refine Pt.ext' ex ?_ rfl
  have : (third p x1 y1 x2 l).y = (l' * (x1' - (third p x1 y1 x2 l).x) - y1') % p := mod_eq hy
  rw [this, ex]
  rfl

section

variable {p : Nat} {A B : Int}

theorem Cv.pos (h : Cv p A B) : (0 : Int) < p := by have := h.five; omega

theorem Cv.two (h : Cv p A B) {y : Int} (hd : (p : Int) ∣ 2 * y) : (p : Int) ∣ y := by
  rcases h.prime.dvd_mul_int hd with h1 | h1
  · have := Int.le_of_dvd (by omega) h1
    have := h.five
    omega
  · exact h1

theorem Aff.not_dvd_sub (h5 : 0 < p) {x1 x2 : Int} (a0 : 0 ≤ x1) (a1 : x1 < p) (b0 : 0 ≤ x2) (b1 : x2 < p) (hne : x1 ≠ x2) : ¬ (p : Int) ∣ x1 - x2 := fun hd => hne (eq_of_dvd a0 a1 b0 b1 hd)

/-- Two with one x are the same, or each other's other side. -/
theorem same_or_opp (hp : Prime p) {x y1 y2 : Int} (h1 : Aff p A B x y1) (h2 : Aff p A B x y2) : y1 = y2 ∨ (p : Int) ∣ y1 + y2 := by
  have hd : (p : Int) ∣ (y1 - y2) * (y1 + y2) := comb2 h1.on h2.on 1 (-1) (by grind)
  rcases hp.dvd_mul_int hd with h | h
  · exact Or.inl (eq_of_dvd h1.y0 h1.y1 h2.y0 h2.y1 h)
  · exact Or.inr h

/-- The slope that is reckoned is one. -/
theorem slope_ok (h : Cv p A B) {a b : Pt} (ha : Aff p A B a.x a.y) (hb : Aff p A B b.x b.y) (hno : ¬ Opp p a.x a.y b.x b.y) : Slope p A a.x a.y b.x b.y (slopeF p A a b) := by
  obtain ⟨x1, y1, f1⟩ := a
  obtain ⟨x2, y2, f2⟩ := b
  simp only at ha hb hno ⊢
  unfold slopeF
  simp only
  by_cases hx : x1 = x2
  · subst hx
    rw [if_pos rfl]
    have hy : y1 = y2 := by
      rcases same_or_opp h.prime ha hb with e | e
      · exact e
      · exact absurd ⟨rfl, e⟩ hno
    subst hy
    have hn : ¬ (p : Int) ∣ 2 * y1 := fun hd => hno ⟨rfl, by rwa [show y1 + y1 = 2 * y1 by omega]⟩
    have hi := iv_spec h.prime hn
    generalize iv p (2 * y1) = i at *
    have hm := mod_dvd (p : Int) ((3 * x1 * x1 + A) * i)
    generalize (3 * x1 * x1 + A) * i % (p : Int) = l at *
    refine ⟨⟨0, by grind⟩, comb2 hi hm (3 * x1 * x1 + A) (2 * y1) (by grind)⟩
  · rw [if_neg hx]
    have hn : ¬ (p : Int) ∣ x2 - x1 := Aff.not_dvd_sub (by have := h.five; omega) hb.x0 hb.x1 ha.x0 ha.x1 (Ne.symm hx)
    have hi := iv_spec h.prime hn
    generalize iv p (x2 - x1) = i at *
    have hm := mod_dvd (p : Int) ((y2 - y1) * i)
    generalize (y2 - y1) * i % (p : Int) = l at *
    have s1 : (p : Int) ∣ (y1 - y2) - l * (x1 - x2) := comb2 hi hm (y2 - y1) (x2 - x1) (by grind)
    refine ⟨s1, ?_⟩
    have hd : (p : Int) ∣ ((y1 + y2) * l - (x1 * x1 + x1 * x2 + x2 * x2 + A)) * (x2 - x1) := comb3 s1 ha.on hb.on (y1 + y2) (-1) 1 (by grind)
    exact (h.prime.dvd_mul_int hd).resolve_right hn

/-- There is but one slope. -/
theorem slope_one (h : Cv p A B) {x1 y1 x2 y2 l l' : Int} (ha : Aff p A B x1 y1) (hb : Aff p A B x2 y2) (hno : ¬ Opp p x1 y1 x2 y2) (hs : Slope p A x1 y1 x2 y2 l) (hs' : Slope p A x1 y1 x2 y2 l') : (p : Int) ∣ l - l' := by
  by_cases hx : x1 = x2
  · subst hx
    have hd : (p : Int) ∣ (y1 + y2) * (l - l') := comb2 hs.s2 hs'.s2 1 (-1) (by grind)
    exact (h.prime.dvd_mul_int hd).resolve_left fun e => hno ⟨rfl, e⟩
  · have hn : ¬ (p : Int) ∣ x1 - x2 := Aff.not_dvd_sub (by have := h.five; omega) ha.x0 ha.x1 hb.x0 hb.x1 hx
    have hd : (p : Int) ∣ (x1 - x2) * (l - l') := comb2 hs.s1 hs'.s1 (-1) 1 (by grind)
    exact (h.prime.dvd_mul_int hd).resolve_left hn

/-- The third point is of the curve. -/
theorem third_on (h5 : 0 < p) {x1 y1 x2 y2 l : Int} (ha : Aff p A B x1 y1) (hs : Slope p A x1 y1 x2 y2 l) : Aff p A B (third p x1 y1 x2 l).x (third p x1 y1 x2 l).y := by
  have hx := third_x p x1 y1 x2 l
  have hy := third_y p x1 y1 x2 l
  refine ⟨Int.emod_nonneg _ (by omega), Int.emod_lt_of_pos _ (by omega), Int.emod_nonneg _ (by omega), Int.emod_lt_of_pos _ (by omega), ?_⟩
  generalize (third p x1 y1 x2 l).x = x3 at *
  generalize (third p x1 y1 x2 l).y = y3 at *
  exact comb5 hy ha.on hs.s2 hs.s1 hx (l * x1 - l * x3 - y1 + y3) 1 (-x1 + x3) (-l * (x1 - x3)) (-(x1 - x3) * (x2 - x3)) (by grind)

theorem opp_mod {a b : Pt} : (a.x = b.x ∧ (a.y + b.y) % p = 0) ↔ Opp p a.x a.y b.x b.y :=
  ⟨fun h => ⟨h.1, Int.dvd_of_emod_eq_zero h.2⟩, fun h => ⟨h.1, Int.emod_eq_zero_of_dvd h.2⟩⟩

theorem addF_far_right {a : Pt} (h : On p A B a) : addF p A a farP = a := by
  unfold addF
  by_cases hf : a.far = true
  · rw [if_pos hf, h.far_eq hf]
  · rw [if_neg hf]; exact if_pos rfl

theorem addF_opp {a b : Pt} (ha : a.far = false) (hb : b.far = false) (h : Opp p a.x a.y b.x b.y) : addF p A a b = farP := by
  unfold addF
  rw [if_neg (by rw [ha]; simp), if_neg (by rw [hb]; simp), if_pos (opp_mod.2 h)]

theorem addF_third (h : Cv p A B) {a b : Pt} (fa : a.far = false) (fb : b.far = false) (ha : Aff p A B a.x a.y) (hb : Aff p A B b.x b.y) (hno : ¬ Opp p a.x a.y b.x b.y) {l : Int} (hs : Slope p A a.x a.y b.x b.y l) : addF p A a b = third p a.x a.y b.x l := by
  have e : addF p A a b = third p a.x a.y b.x (slopeF p A a b) := by
    unfold addF
    rw [if_neg (by rw [fa]; simp), if_neg (by rw [fb]; simp), if_neg (fun k => hno (opp_mod.1 k))]
  rw [e]
  have hl := slope_one h ha hb hno (slope_ok h ha hb hno) hs
  generalize slopeF p A a b = l' at *
  refine third_congr (y2 := 0) (comb1 hl (l' + l) (by grind)) ?_
  generalize (third p a.x a.y b.x l').x = z at *
  exact comb1 hl (a.x - z) (by grind)

/-- Sums stay on the curve. -/
theorem addF_on (h : Cv p A B) {a b : Pt} (ha : On p A B a) (hb : On p A B b) : On p A B (addF p A a b) := by
  by_cases fa : a.far = true
  · rw [ha.far_eq fa]; exact hb
  · have fa' : a.far = false := by simpa using fa
    by_cases fb : b.far = true
    · rw [hb.far_eq fb, addF_far_right ha]; exact ha
    · have fb' : b.far = false := by simpa using fb
      by_cases ho : Opp p a.x a.y b.x b.y
      · rw [addF_opp fa' fb' ho]; exact on_far _ _ _
      · have hs := slope_ok h (ha.aff fa') (hb.aff fb') ho
        rw [addF_third h fa' fb' (ha.aff fa') (hb.aff fb') ho hs]
        exact Or.inr ⟨rfl, third_on (by have := h.five; omega) (ha.aff fa') hs⟩

end
end

section
set_option linter.unusedVariables false

section

variable {p : Nat} {A B : Int}

theorem Slope.swap {x1 y1 x2 y2 l : Int} (h : Slope p A x1 y1 x2 y2 l) : Slope p A x2 y2 x1 y1 l :=
  ⟨comb1 h.s1 (-1) (by grind), comb1 h.s2 1 (by grind)⟩

theorem Opp.swap {x1 y1 x2 y2 : Int} (h : Opp p x1 y1 x2 y2) : Opp p x2 y2 x1 y1 := ⟨h.1.symm, by rw [Int.add_comm]; exact h.2⟩

/-- Sums may be turned about. -/
theorem addF_comm (h : Cv p A B) {a b : Pt} (ha : On p A B a) (hb : On p A B b) : addF p A a b = addF p A b a := by
  by_cases fa : a.far = true
  · rw [ha.far_eq fa, addF_far_right hb]; rfl
  · have fa' : a.far = false := by simpa using fa
    by_cases fb : b.far = true
    · rw [hb.far_eq fb, addF_far_right ha]; rfl
    · have fb' : b.far = false := by simpa using fb
      by_cases ho : Opp p a.x a.y b.x b.y
      · rw [addF_opp fa' fb' ho, addF_opp fb' fa' ho.swap]
      · have hs := slope_ok h (ha.aff fa') (hb.aff fb') ho
        rw [addF_third h fa' fb' (ha.aff fa') (hb.aff fb') ho hs, addF_third h fb' fa' (hb.aff fb') (ha.aff fa') (fun k => ho k.swap) hs.swap]
        have s1 := hs.s1
        generalize slopeF p A a b = l at *
        refine third_congr (y2 := 0) ⟨0, by grind⟩ ?_
        generalize (third p a.x a.y b.x l).x = z at *
        exact comb1 s1 (-1) (by grind)

/-- The other side. -/
def negF (p : Nat) (a : Pt) : Pt := if a.far = true then a else ⟨a.x, (-a.y) % p, false⟩

theorem neg_dvd (p : Nat) (y : Int) : (p : Int) ∣ (-y) % p + y := by
  have := mod_dvd (p : Int) (-y)
  rwa [show (-y) % (p : Int) - -y = (-y) % p + y by omega] at this

theorem negF_far : negF p farP = farP := rfl

theorem negF_fin {a : Pt} (f : a.far = false) : negF p a = ⟨a.x, (-a.y) % p, false⟩ := by
  unfold negF
  rw [if_neg (by rw [f]; simp)]

theorem neg_aff (h5 : 0 < p) {x y : Int} (h : Aff p A B x y) : Aff p A B x ((-y) % p) := by
  refine ⟨h.x0, h.x1, Int.emod_nonneg _ (by omega), Int.emod_lt_of_pos _ (by omega), ?_⟩
  have hd := neg_dvd p y
  generalize (-y) % (p : Int) = z at *
  exact comb2 h.on hd 1 (z - y) (by grind)

theorem negF_on (h5 : 0 < p) {a : Pt} (h : On p A B a) : On p A B (negF p a) := by
  by_cases f : a.far = true
  · rw [h.far_eq f]; exact on_far _ _ _
  · have f' : a.far = false := by simpa using f
    rw [negF_fin f']
    exact Or.inr ⟨rfl, neg_aff h5 (h.aff f')⟩

theorem add_negF (h : Cv p A B) {a : Pt} (ha : On p A B a) : addF p A a (negF p a) = farP := by
  by_cases f : a.far = true
  · rw [ha.far_eq f]; rfl
  · have f' : a.far = false := by simpa using f
    rw [negF_fin f']
    exact addF_opp f' rfl ⟨rfl, by rw [Int.add_comm]; exact neg_dvd p a.y⟩

theorem negF_add_self (h : Cv p A B) {a : Pt} (ha : On p A B a) : addF p A (negF p a) a = farP := by
  rw [addF_comm h (negF_on (by have := h.five; omega) ha) ha, add_negF h ha]

theorem negF_negF (h5 : 0 < p) {a : Pt} (ha : On p A B a) : negF p (negF p a) = a := by
  by_cases f : a.far = true
  · rw [ha.far_eq f]; rfl
  · have f' : a.far = false := by simpa using f
    rw [negF_fin f', negF_fin rfl]
    refine Pt.ext' rfl ?_ f'.symm
    have k := ha.aff f'
    have h1 := neg_dvd p a.y
    have h2 := neg_dvd p ((-a.y) % p)
    simp only
    refine eq_of_dvd (Int.emod_nonneg _ (by omega)) (Int.emod_lt_of_pos _ (by omega)) k.y0 k.y1 ?_
    generalize (-a.y) % (p : Int) = z at *
    generalize (-z) % (p : Int) = u at *
    exact comb2 h2 h1 1 (-1) (by grind)

/-- Two that are each other's other side. -/
theorem opp_eq (h5 : 0 < p) {a b : Pt} (fa : a.far = false) (fb : b.far = false) (ha : Aff p A B a.x a.y) (hb : Aff p A B b.x b.y) (h : Opp p a.x a.y b.x b.y) : b = negF p a := by
  rw [negF_fin fa]
  refine Pt.ext' h.1.symm ?_ fb
  simp only
  refine eq_of_dvd hb.y0 hb.y1 (Int.emod_nonneg _ (by omega)) (Int.emod_lt_of_pos _ (by omega)) ?_
  have h1 := neg_dvd p a.y
  have h2 := h.2
  generalize (-a.y) % (p : Int) = z at *
  exact comb2 h2 h1 1 (-1) (by grind)

/-- The slope of the other sides. -/
theorem Slope.neg {x1 y1 x2 y2 l z1 z2 : Int} (h : Slope p A x1 y1 x2 y2 l) (h1 : (p : Int) ∣ z1 + y1) (h2 : (p : Int) ∣ z2 + y2) : Slope p A x1 z1 x2 z2 (-l) :=
  ⟨comb3 h.s1 h1 h2 (-1) 1 (-1) (by grind), comb3 h.s2 h1 h2 1 (-l) (-l) (by grind)⟩

theorem Opp.neg {x1 y1 x2 y2 z1 z2 : Int} (h : Opp p x1 z1 x2 z2) (h1 : (p : Int) ∣ z1 + y1) (h2 : (p : Int) ∣ z2 + y2) : Opp p x1 y1 x2 y2 := by
  have h3 := h.2
  exact ⟨h.1, comb3 h3 h1 h2 (-1) 1 1 (by grind)⟩

/-- The other side of a sum. -/
theorem negF_addF (h : Cv p A B) {a b : Pt} (ha : On p A B a) (hb : On p A B b) : negF p (addF p A a b) = addF p A (negF p a) (negF p b) := by
  have h5 : 0 < p := by have := h.five; omega
  by_cases fa : a.far = true
  · rw [ha.far_eq fa]; rfl
  · have fa' : a.far = false := by simpa using fa
    by_cases fb : b.far = true
    · rw [hb.far_eq fb, addF_far_right ha, negF_far, addF_far_right (negF_on h5 ha)]
    · have fb' : b.far = false := by simpa using fb
      have ka := ha.aff fa'
      have kb := hb.aff fb'
      have d1 := neg_dvd p a.y
      have d2 := neg_dvd p b.y
      by_cases ho : Opp p a.x a.y b.x b.y
      · rw [addF_opp fa' fb' ho, negF_far, negF_fin fa', negF_fin fb', addF_opp rfl rfl ?_]
        have h3 := ho.2
        exact ⟨ho.1, comb3 h3 d1 d2 (-1) 1 1 (by grind)⟩
      · have hs := slope_ok h ka kb ho
        rw [addF_third h fa' fb' ka kb ho hs, negF_fin fa', negF_fin fb',
          addF_third h (a := ⟨a.x, (-a.y) % p, false⟩) (b := ⟨b.x, (-b.y) % p, false⟩) rfl rfl (neg_aff h5 ka) (neg_aff h5 kb) (fun k => ho (k.neg d1 d2)) (hs.neg d1 d2)]
        generalize slopeF p A a b = l at *
        rw [negF_fin rfl]
        simp only
        have ex : (third p a.x a.y b.x l).x = (third p a.x ((-a.y) % p) b.x (-l)).x := mod_eq ⟨0, by grind⟩
        refine Pt.ext' ex ?_ rfl
        simp only
        have e1 := third_y p a.x a.y b.x l
        have e2 := third_y p a.x ((-a.y) % p) b.x (-l)
        rw [← ex] at e2
        have e3 := neg_dvd p (third p a.x a.y b.x l).y
        refine eq_of_dvd (Int.emod_nonneg _ (by omega)) (Int.emod_lt_of_pos _ (by omega)) (Int.emod_nonneg _ (by omega)) (Int.emod_lt_of_pos _ (by omega)) ?_
        generalize (third p a.x ((-a.y) % p) b.x (-l)).y = u at *
        generalize (third p a.x a.y b.x l).y = v at *
        generalize (third p a.x a.y b.x l).x = z at *
        generalize (-v) % (p : Int) = v' at *
        generalize (-a.y) % (p : Int) = y' at *
        exact comb4 e1 e2 e3 d1 (-1) (-1) 1 1 (by grind)

/-- No sum with a point that is not far is what it was. -/
theorem no_fix (h : Cv p A B) {x1 y1 x2 y2 l : Int} (ha : Aff p A B x1 y1) (hb : Aff p A B x2 y2) (hs : Slope p A x1 y1 x2 y2 l) (hx : (p : Int) ∣ x1 - (l * l - x1 - x2)) (hy : (p : Int) ∣ y1 - (l * (x1 - x1) - y1)) : False := by
  have h1 : (p : Int) ∣ y1 := h.two (comb1 hy 1 (by grind))
  have h2 : (p : Int) ∣ 3 * x1 * x1 + A := comb4 h1 hs.s1 hs.s2 hx (2 * l) (-l) (-1) (x1 - x2) (by grind)
  exact h.disc (comb3 h1 ha.on h2 (-27 * y1 * (A * x1 - B + x1 * x1 * x1)) (27 * (A * x1 - B + x1 * x1 * x1)) (4 * A * A + 15 * A * x1 * x1 + 9 * x1 * x1 * x1 * x1) (by grind))

/-- The slope back. -/
theorem Slope.back {x1 y1 x2 y2 x3 y3 z1 l : Int} (h : Slope p A x1 y1 x2 y2 l) (hx : (p : Int) ∣ x3 - (l * l - x1 - x2)) (hy : (p : Int) ∣ y3 - (l * (x1 - x3) - y1)) (hz : (p : Int) ∣ z1 + y1) : Slope p A x1 z1 x3 y3 (-l) :=
  ⟨comb2 hz hy 1 (-1) (by grind), comb5 hz hy h.s2 h.s1 hx (-l) (-l) 1 l (x2 - x3) (by grind)⟩

/-- What is added is taken away by the other side. -/
theorem addF_cancel (h : Cv p A B) {a b : Pt} (ha : On p A B a) (hb : On p A B b) : addF p A (negF p a) (addF p A a b) = b := by
  have h5 : 0 < p := by have := h.five; omega
  by_cases fa : a.far = true
  · rw [ha.far_eq fa]; rfl
  · have fa' : a.far = false := by simpa using fa
    by_cases fb : b.far = true
    · rw [hb.far_eq fb, addF_far_right ha, negF_add_self h ha]
    · have fb' : b.far = false := by simpa using fb
      have ka := ha.aff fa'
      have kb := hb.aff fb'
      have d1 := neg_dvd p a.y
      by_cases ho : Opp p a.x a.y b.x b.y
      · rw [addF_opp fa' fb' ho, addF_far_right (negF_on h5 ha), opp_eq h5 fa' fb' ka kb ho]
      · have hs := slope_ok h ka kb ho
        have hc := third_on h5 ka hs
        rw [addF_third h fa' fb' ka kb ho hs, negF_fin fa']
        have hx := third_x p a.x a.y b.x (slopeF p A a b)
        have hy := third_y p a.x a.y b.x (slopeF p A a b)
        have hf : (third p a.x a.y b.x (slopeF p A a b)).far = false := rfl
        generalize slopeF p A a b = l at *
        generalize third p a.x a.y b.x l = c at *
        have hno : ¬ Opp p a.x ((-a.y) % p) c.x c.y := by
          intro k
          have kx := k.1
          have ky := k.2
          generalize (-a.y) % (p : Int) = z at *
          rw [← kx] at hx hy
          refine no_fix h ka kb hs hx ?_
          exact comb3 ky d1 hy (-1) 1 1 (by grind)
        rw [addF_third h (a := ⟨a.x, (-a.y) % p, false⟩) rfl hf (neg_aff h5 ka) hc hno (hs.back hx hy d1)]
        have s1 := hs.s1
        generalize (-a.y) % (p : Int) = z at *
        have ex : (third p a.x z c.x (-l)).x = b.x := by
          refine eq_of_dvd (Int.emod_nonneg _ (by omega)) (Int.emod_lt_of_pos _ (by omega)) kb.x0 kb.x1 ?_
          have := third_x p a.x z c.x (-l)
          generalize (third p a.x z c.x (-l)).x = u at *
          exact comb2 this hx 1 (-1) (by grind)
        refine Pt.ext' ex ?_ fb'.symm
        refine eq_of_dvd (Int.emod_nonneg _ (by omega)) (Int.emod_lt_of_pos _ (by omega)) kb.y0 kb.y1 ?_
        have := third_y p a.x z c.x (-l)
        rw [ex] at this
        generalize (third p a.x z c.x (-l)).y = v at *
        exact comb3 this d1 s1 1 (-1) 1 (by grind)

/-- Sums of three, no two of which nor of their sums are each other's other side. -/
theorem assoc_far_apart (h : Cv p A B) {a b c : Pt} (fa : a.far = false) (fb : b.far = false) (fc : c.far = false) (ka : Aff p A B a.x a.y) (kb : Aff p A B b.x b.y) (kc : Aff p A B c.x c.y)
    (hab : ¬ Opp p a.x a.y b.x b.y) (hbc : ¬ Opp p b.x b.y c.x c.y) (hne : a ≠ c) (h4 : addF p A a b ≠ negF p c) (h5 : addF p A b c ≠ negF p a) :
    addF p A (addF p A a b) c = addF p A a (addF p A b c) := by
  have hp : 0 < p := by have := h.five; omega
  have hs := slope_ok h ka kb hab
  have ht := slope_ok h kb kc hbc
  rw [addF_third h fa fb ka kb hab hs] at h4 ⊢
  rw [addF_third h fb fc kb kc hbc ht] at h5 ⊢
  have k4 := third_on hp ka hs
  have k5 := third_on hp kb ht
  have x4 := third_x p a.x a.y b.x (slopeF p A a b)
  have y4 := third_y p a.x a.y b.x (slopeF p A a b)
  have x5 := third_x p b.x b.y c.x (slopeF p A b c)
  have y5 := third_y p b.x b.y c.x (slopeF p A b c)
  have f4 : (third p a.x a.y b.x (slopeF p A a b)).far = false := rfl
  have f5 : (third p b.x b.y c.x (slopeF p A b c)).far = false := rfl
  generalize slopeF p A a b = l at *
  generalize slopeF p A b c = m at *
  generalize third p a.x a.y b.x l = d at *
  generalize third p b.x b.y c.x m = e at *
  have o4 : ¬ Opp p d.x d.y c.x c.y := fun k => h4 (opp_eq hp fc f4 kc k4 k.swap)
  have o5 : ¬ Opp p a.x a.y e.x e.y := fun k => h5 (opp_eq hp fa f5 ka k5 k)
  have s1 := hs.s1
  have s2 := hs.s2
  have t1 := ht.s1
  have t2 := ht.s2
  -- the two slopes part
  have hd : ¬ (p : Int) ∣ m - l := by
    intro hd
    have e1 : (p : Int) ∣ (c.x - a.x) * (a.x + b.x + c.x - l * l) := comb5 s2 t2 s1 t1 hd (1) (-1) (-l) (-m) (2 * b.y + (m + l) * (c.x - b.x)) (by grind)
    rcases h.prime.dvd_mul_int e1 with e2 | e2
    · have ex : c.x = a.x := eq_of_dvd kc.x0 kc.x1 ka.x0 ka.x1 e2
      apply hne
      refine Pt.ext' ex.symm ?_ (fa.trans fc.symm)
      rw [ex] at t1
      refine eq_of_dvd ka.y0 ka.y1 kc.y0 kc.y1 ?_
      exact comb3 s1 t1 hd 1 1 (b.x - a.x) (by grind)
    · have ex : d.x = c.x := eq_of_dvd k4.x0 k4.x1 kc.x0 kc.x1 (comb2 x4 e2 1 (-1) (by grind))
      refine o4 ⟨ex, ?_⟩
      rw [ex] at y4
      exact comb4 y4 s1 t1 hd 1 (-1) (-1) (c.x - b.x) (by grind)
  obtain ⟨t, ht⟩ : ∃ t, (p : Int) ∣ t * (m - l) - (c.x - a.x) := by
    refine ⟨(c.x - a.x) * iv p (m - l), ?_⟩
    have := iv_spec h.prime hd
    generalize iv p (m - l) = i at *
    exact comb1 this (c.x - a.x) (by grind)
  have hR : (p : Int) ∣ 2 * b.y - (t * (a.x + b.x + c.x) - (m + l) * (a.x - b.x) - m * m * t) := by
    have : (p : Int) ∣ (m - l) * (2 * b.y - (t * (a.x + b.x + c.x) - (m + l) * (a.x - b.x) - m * m * t)) :=
      comb5 t2 s2 t1 s1 ht 1 (-1) m l (m * m - a.x - b.x - c.x) (by grind)
    exact (h.prime.dvd_mul_int this).resolve_left hd
  have n1 : Slope p A d.x d.y c.x c.y (t - l) := by
    constructor
    · exact comb6 y4 x4 ht s1 t1 hR 1 (-t) (l + m) (-1) 1 (-1) (by grind)
    · have g := Int.dvd_add (comb6 y4 x4 ht s2 s1 t1 (-l + t) (-l * t + a.x + b.x - c.x - d.x) (l * l + l * m - b.x + c.x) 1 (-t) (l - t) rfl) (comb1 hR (-l) rfl)
      exact comb1 g 1 (by grind)
  have n2 : Slope p A a.x a.y e.x e.y (t - m) := by
    constructor
    · exact comb4 y5 x5 s1 hR (-1) t 1 1 (by grind)
    · exact comb6 y5 x5 ht s2 s1 hR (-m + t) (-m * t - a.x + b.x + c.x - e.x) (-(m * m) + 2 * b.x + c.x) 1 (-l - m + t) (-l) (by grind)
  rw [addF_third h f4 fc k4 kc o4 n1, addF_third h fa f5 ka k5 o5 n2]
  refine third_congr (y2 := 0) ?_ ?_
  · exact comb3 x4 x5 ht (-1) 1 2 (by grind)
  · have x6 := third_x p d.x d.y c.x (t - l)
    generalize (third p d.x d.y c.x (t - l)).x = z at *
    have g := Int.dvd_add (comb6 x6 y4 x4 ht s1 hR (l - m) (-1) (-l + m + t) (l - m - t) 2 1 rfl) (comb1 t1 0 rfl)
    exact comb1 g 1 (by grind)

/-- Sums may be put together otherwise. -/
theorem addF_assoc (h : Cv p A B) {a b c : Pt} (ha : On p A B a) (hb : On p A B b) (hc : On p A B c) : addF p A (addF p A a b) c = addF p A a (addF p A b c) := by
  have hp : 0 < p := by have := h.five; omega
  by_cases fa : a.far = true
  · rw [ha.far_eq fa]; rfl
  have fa' : a.far = false := by simpa using fa
  by_cases fb : b.far = true
  · rw [hb.far_eq fb, addF_far_right ha]; rfl
  have fb' : b.far = false := by simpa using fb
  by_cases fc : c.far = true
  · rw [hc.far_eq fc, addF_far_right (addF_on h ha hb), addF_far_right hb]
  have fc' : c.far = false := by simpa using fc
  have na := negF_on hp ha
  have nb := negF_on hp hb
  have nc := negF_on hp hc
  by_cases hab : Opp p a.x a.y b.x b.y
  · rw [addF_opp fa' fb' hab]
    have e := opp_eq hp fb' fa' (hb.aff fb') (ha.aff fa') hab.swap
    show c = _
    rw [e, addF_cancel h hb hc]
  by_cases hbc : Opp p b.x b.y c.x c.y
  · rw [addF_opp fb' fc' hbc, addF_far_right ha]
    have e := opp_eq hp fb' fc' (hb.aff fb') (hc.aff fc') hbc
    rw [e, addF_comm h (addF_on h ha hb) nb, addF_comm h ha hb, addF_cancel h hb ha]
  by_cases hac : a = c
  · subst hac
    rw [addF_comm h (addF_on h ha hb) ha, addF_comm h ha hb]
  by_cases h4 : addF p A a b = negF p c
  · have e : addF p A b c = negF p a := by
      have e1 : c = negF p (addF p A a b) := by rw [h4, negF_negF hp hc]
      rw [e1, addF_comm h ha hb, negF_addF h hb ha]
      have := addF_cancel h nb na
      rwa [negF_negF hp hb] at this
    rw [h4, e, negF_add_self h hc, add_negF h ha]
  by_cases h5 : addF p A b c = negF p a
  · have e : addF p A a b = negF p c := by
      have e1 : a = negF p (addF p A b c) := by rw [h5, negF_negF hp ha]
      rw [e1, negF_addF h hb hc, addF_comm h (addF_on h nb nc) hb]
      have := addF_cancel h nb nc
      rwa [negF_negF hp hb] at this
    exact absurd e h4
  exact assoc_far_apart h fa' fb' fc' (ha.aff fa') (hb.aff fb') (hc.aff fc') hab hbc hac h4 h5

/-- A point taken n times. -/
def nF (p : Nat) (A : Int) : Nat → Pt → Pt
  | 0, _ => farP
  | n + 1, a => addF p A (nF p A n a) a

theorem nF_on (h : Cv p A B) {a : Pt} (ha : On p A B a) (n : Nat) : On p A B (nF p A n a) := by
  induction n with
  | zero => exact on_far _ _ _
  | succ n ih => exact addF_on h ih ha

theorem nF_add (h : Cv p A B) {a : Pt} (ha : On p A B a) (m n : Nat) : nF p A (m + n) a = addF p A (nF p A m a) (nF p A n a) := by
  induction n with
  | zero => exact (addF_far_right (nF_on h ha m)).symm
  | succ n ih =>
    show addF p A (nF p A (m + n) a) a = addF p A (nF p A m a) (addF p A (nF p A n a) a)
    rw [ih, addF_assoc h (nF_on h ha m) (nF_on h ha n) ha]

theorem nF_mul (h : Cv p A B) {a : Pt} (ha : On p A B a) (m n : Nat) : nF p A m (nF p A n a) = nF p A (m * n) a := by
  induction m with
  | zero => rw [Nat.zero_mul]; rfl
  | succ m ih => rw [Nat.succ_mul, nF_add h ha, ← ih]; rfl

/-- A multiple by doubling, as the model and the program reckon it. -/
def mulAcc (p : Nat) (A : Int) : Nat → Nat → Pt → Pt → Pt
  | 0, _, o, _ => o
  | f + 1, n, o, a => mulAcc p A f (n / 2) (if n % 2 = 1 then addF p A o a else o) (addF p A a a)

def mulF (p : Nat) (A : Int) (n : Nat) (a : Pt) : Pt := mulAcc p A 64 n farP a

theorem mulAcc_eq (h : Cv p A B) : ∀ (f n : Nat) (o a : Pt), On p A B o → On p A B a → n < 2 ^ f → mulAcc p A f n o a = addF p A o (nF p A n a) := by
  intro f
  induction f with
  | zero =>
    intro n o a ho ha hn
    obtain rfl : n = 0 := by simpa using hn
    exact (addF_far_right ho).symm
  | succ f ih =>
    intro n o a ho ha hn
    have h2 : n / 2 < 2 ^ f := by rw [Nat.pow_succ] at hn; omega
    have haa := addF_on h ha ha
    have e2 : nF p A (n / 2) (addF p A a a) = nF p A (n / 2 * 2) a := by
      have := nF_mul h ha (n / 2) 2
      rwa [show nF p A 2 a = addF p A a a from rfl] at this
    rw [mulAcc]
    by_cases hodd : n % 2 = 1
    · rw [if_pos hodd, ih _ _ _ (addF_on h ho ha) haa h2, e2, addF_assoc h ho ha (nF_on h ha _)]
      congr 1
      rw [addF_comm h ha (nF_on h ha _)]
      show nF p A (n / 2 * 2 + 1) a = _
      rw [show n / 2 * 2 + 1 = n by omega]
    · rw [if_neg hodd, ih _ _ _ ho haa h2, e2, show n / 2 * 2 = n by omega]

theorem mulF_eq (h : Cv p A B) {n : Nat} (hn : n < 2 ^ 64) {a : Pt} (ha : On p A B a) : mulF p A n a = nF p A n a := by
  unfold mulF
  rw [mulAcc_eq h 64 n farP a (on_far _ _ _) ha hn]
  rfl

theorem mulF_on (h : Cv p A B) {n : Nat} (hn : n < 2 ^ 64) {a : Pt} (ha : On p A B a) : On p A B (mulF p A n a) := by
  rw [mulF_eq h hn ha]; exact nF_on h ha n

end
end

end Go.Proofs.YtollgoadgjlccaaGreatDoor
