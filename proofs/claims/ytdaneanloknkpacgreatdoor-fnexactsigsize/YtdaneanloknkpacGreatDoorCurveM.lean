/- Plain numbers: points of a curve over the numbers by a prime number: sums by chord and tangent stay on the curve and are a group. Nothing of the program. -/
import Derived.Test.YtdaneanloknkpacGreatDoorNumAll
namespace Go.Proofs.YtdaneanloknkpacGreatDoor
set_option linter.unusedVariables false

theorem comb1 {p H E : Int} (h : p ∣ H) (c : Int) (e : E = c * H) : p ∣ E := by
  rw [e]; exact Int.dvd_mul_of_dvd_right h

theorem comb2 {p H1 H2 E : Int} (h1 : p ∣ H1) (h2 : p ∣ H2) (c1 c2 : Int) (e : E = c1 * H1 + c2 * H2) : p ∣ E := by
  rw [e]; exact Int.dvd_add (Int.dvd_mul_of_dvd_right h1) (Int.dvd_mul_of_dvd_right h2)

theorem comb3 {p H1 H2 H3 E : Int} (h1 : p ∣ H1) (h2 : p ∣ H2) (h3 : p ∣ H3) (c1 c2 c3 : Int) (e : E = c1 * H1 + c2 * H2 + c3 * H3) : p ∣ E := by
  rw [e]; exact Int.dvd_add (comb2 h1 h2 c1 c2 rfl) (Int.dvd_mul_of_dvd_right h3)

theorem comb4 {p H1 H2 H3 H4 E : Int} (h1 : p ∣ H1) (h2 : p ∣ H2) (h3 : p ∣ H3) (h4 : p ∣ H4) (c1 c2 c3 c4 : Int) (e : E = c1 * H1 + c2 * H2 + c3 * H3 + c4 * H4) : p ∣ E := by
  rw [e]; exact Int.dvd_add (comb3 h1 h2 h3 c1 c2 c3 rfl) (Int.dvd_mul_of_dvd_right h4)

theorem comb5 {p H1 H2 H3 H4 H5 E : Int} (h1 : p ∣ H1) (h2 : p ∣ H2) (h3 : p ∣ H3) (h4 : p ∣ H4) (h5 : p ∣ H5) (c1 c2 c3 c4 c5 : Int) (e : E = c1 * H1 + c2 * H2 + c3 * H3 + c4 * H4 + c5 * H5) : p ∣ E := by
  rw [e]; exact Int.dvd_add (comb4 h1 h2 h3 h4 c1 c2 c3 c4 rfl) (Int.dvd_mul_of_dvd_right h5)

theorem comb6 {p H1 H2 H3 H4 H5 H6 E : Int} (h1 : p ∣ H1) (h2 : p ∣ H2) (h3 : p ∣ H3) (h4 : p ∣ H4) (h5 : p ∣ H5) (h6 : p ∣ H6) (c1 c2 c3 c4 c5 c6 : Int) (e : E = c1 * H1 + c2 * H2 + c3 * H3 + c4 * H4 + c5 * H5 + c6 * H6) : p ∣ E := by
  rw [e]; exact Int.dvd_add (comb5 h1 h2 h3 h4 h5 c1 c2 c3 c4 c5 rfl) (Int.dvd_mul_of_dvd_right h6)

theorem mod_dvd (p x : Int) : p ∣ x % p - x := by
  have := Int.emod_add_mul_ediv x p
  exact ⟨-(x / p), by rw [Int.mul_neg]; omega⟩

theorem mod_eq {p x y : Int} (h : p ∣ x - y) : x % p = y % p :=
  Int.emod_eq_emod_iff_emod_sub_eq_zero.2 (Int.emod_eq_zero_of_dvd h)

theorem eq_of_dvd {p x y : Int} (hx0 : 0 ≤ x) (hx : x < p) (hy0 : 0 ≤ y) (hy : y < p) (h : p ∣ x - y) : x = y := by
  have := mod_eq h
  rwa [Int.emod_eq_of_lt hx0 hx, Int.emod_eq_of_lt hy0 hy] at this

/-- The inverse by a prime number, 0 where there is none. -/
def iv (p : Nat) (a : Int) : Int := (((a % p).toNat ^ (p - 2) % p : Nat) : Int)

theorem iv_range {p : Nat} (h : 0 < p) (a : Int) : 0 ≤ iv p a ∧ iv p a < p := by
  have := Nat.mod_lt ((a % p).toNat ^ (p - 2)) h
  unfold iv
  omega

theorem iv_spec {p : Nat} (hp : Prime p) {a : Int} (ha : ¬ (p : Int) ∣ a) : (p : Int) ∣ a * iv p a - 1 := by
  have h2 := hp.1
  have r0 := Int.emod_nonneg a (show (p : Int) ≠ 0 by omega)
  have hz : ((a % p).toNat : Int) = a % p := by omega
  have hn : ¬ p ∣ (a % p).toNat := by
    intro hd
    apply ha
    have h1 : (p : Int) ∣ a % p := by rw [← hz]; exact Int.ofNat_dvd.2 hd
    have h3 := Int.dvd_sub h1 (mod_dvd (p : Int) a)
    rwa [show a % (p : Int) - (a % p - a) = a by omega] at h3
  have hf := hp.fermat hn
  have e1 : (p : Int) ∣ iv p a - (((a % p).toNat ^ (p - 2) : Nat) : Int) := by
    unfold iv; rw [Int.natCast_emod]; exact mod_dvd _ _
  have e2 : (p : Int) ∣ (((a % p).toNat ^ (p - 1) : Nat) : Int) - 1 := by
    have := mod_dvd (p : Int) (((a % p).toNat ^ (p - 1) : Nat) : Int)
    rw [← Int.natCast_emod, hf] at this
    have h3 := Int.dvd_neg.2 this
    rwa [show -(((1 : Nat) : Int) - (((a % p).toNat ^ (p - 1) : Nat) : Int)) = (((a % p).toNat ^ (p - 1) : Nat) : Int) - 1 by omega] at h3
  have e3 : (((a % p).toNat ^ (p - 1) : Nat) : Int) = (a % p) * (((a % p).toNat ^ (p - 2) : Nat) : Int) := by
    rw [show p - 1 = (p - 2) + 1 by omega, Nat.pow_succ, Int.natCast_mul, hz, Int.mul_comm]
  rw [e3] at e2
  have e4 := mod_dvd (p : Int) a
  generalize (((a % p).toNat ^ (p - 2) : Nat) : Int) = z at *
  generalize iv p a = v at *
  generalize a % (p : Int) = r at *
  exact comb3 e1 e2 e4 a 1 (-z) (by grind)

theorem iv_zero {p : Nat} (h3 : 3 ≤ p) {a : Int} (ha : (p : Int) ∣ a) : iv p a = 0 := by
  unfold iv
  rw [Int.emod_eq_zero_of_dvd ha]
  simp only [Int.toNat_zero]
  rw [Nat.zero_pow (by omega)]
  simp

/-- A point: two numbers, or the far one. -/
structure Pt where
  x : Int
  y : Int
  far : Bool

def farP : Pt := ⟨0, 0, true⟩

theorem Pt.ext' {a b : Pt} (hx : a.x = b.x) (hy : a.y = b.y) (hf : a.far = b.far) : a = b := by
  cases a; cases b; simp only at hx hy hf; subst hx hy hf; rfl

/-- Two numbers of the curve. -/
structure Aff (p : Nat) (A B x y : Int) : Prop where
  x0 : 0 ≤ x
  x1 : x < p
  y0 : 0 ≤ y
  y1 : y < p
  on : (p : Int) ∣ y * y - (x * x * x + A * x + B)

/-- A point of the curve. -/
def On (p : Nat) (A B : Int) (a : Pt) : Prop := (a.far = true ∧ a.x = 0 ∧ a.y = 0) ∨ (a.far = false ∧ Aff p A B a.x a.y)

theorem On.far_eq {p : Nat} {A B : Int} {a : Pt} (h : On p A B a) (hf : a.far = true) : a = farP := by
  rcases h with ⟨_, hx, hy⟩ | ⟨h, _⟩
  · exact Pt.ext' hx hy hf
  · rw [hf] at h; simp at h

theorem On.aff {p : Nat} {A B : Int} {a : Pt} (h : On p A B a) (hf : a.far = false) : Aff p A B a.x a.y := by
  rcases h with ⟨h, _⟩ | ⟨_, h⟩
  · rw [hf] at h; simp at h
  · exact h

theorem on_far (p : Nat) (A B : Int) : On p A B farP := Or.inl ⟨rfl, rfl, rfl⟩

/-- The curve is as wanted. -/
structure Cv (p : Nat) (A B : Int) : Prop where
  prime : Prime p
  five : 5 ≤ p
  disc : ¬ (p : Int) ∣ 4 * (A * A * A) + 27 * (B * B)

/-- The number by which the sum is told. -/
def slopeF (p : Nat) (A : Int) (a b : Pt) : Int :=
  (if a.x = b.x then (3 * a.x * a.x + A) * iv p (2 * a.y) else (b.y - a.y) * iv p (b.x - a.x)) % p

/-- The third point. -/
def third (p : Nat) (x1 y1 x2 l : Int) : Pt := ⟨(l * l - x1 - x2) % p, (l * (x1 - (l * l - x1 - x2) % p) - y1) % p, false⟩

/-- The sum. -/
def addF (p : Nat) (A : Int) (a b : Pt) : Pt :=
  if a.far = true then b else if b.far = true then a else if a.x = b.x ∧ (a.y + b.y) % p = 0 then farP else third p a.x a.y b.x (slopeF p A a b)

/-- A number as slope of two points. -/
structure Slope (p : Nat) (A x1 y1 x2 y2 l : Int) : Prop where
  s1 : (p : Int) ∣ (y1 - y2) - l * (x1 - x2)
  s2 : (p : Int) ∣ (y1 + y2) * l - (x1 * x1 + x1 * x2 + x2 * x2 + A)

/-- Two points are each other's other side. -/
def Opp (p : Nat) (x1 y1 x2 y2 : Int) : Prop := x1 = x2 ∧ (p : Int) ∣ y1 + y2

theorem third_x (p : Nat) (x1 y1 x2 l : Int) : (p : Int) ∣ (third p x1 y1 x2 l).x - (l * l - x1 - x2) := mod_dvd _ _
theorem third_y (p : Nat) (x1 y1 x2 l : Int) : (p : Int) ∣ (third p x1 y1 x2 l).y - (l * (x1 - (third p x1 y1 x2 l).x) - y1) := mod_dvd _ _

theorem third_congr {p : Nat} {x1 y1 x2 y2 l x1' y1' x2' l' : Int} (hx : (p : Int) ∣ (l * l - x1 - x2) - (l' * l' - x1' - x2')) (hy : (p : Int) ∣ (l * (x1 - (third p x1 y1 x2 l).x) - y1) - (l' * (x1' - (third p x1 y1 x2 l).x) - y1')) : third p x1 y1 x2 l = third p x1' y1' x2' l' := by
  have ex : (third p x1 y1 x2 l).x = (third p x1' y1' x2' l').x := mod_eq hx
  refine Pt.ext' ex ?_ rfl
  have : (third p x1 y1 x2 l).y = (l' * (x1' - (third p x1 y1 x2 l).x) - y1') % p := mod_eq hy
  rw [this, ex]
  rfl

section
variable {p : Nat} {A B : Int}

theorem Cv.pos (h : Cv p A B) : (0 : Int) < p := by have := h.five; omega

theorem Cv.two (h : Cv p A B) {y : Int} (hd : (p : Int) ∣ 2 * y) : (p : Int) ∣ y := by
  rcases h.prime.dvd_mul_int hd with h1 | h1
  · have := Int.le_of_dvd (by omega) h1
    have := h.five
    omega
  · exact h1

theorem Aff.not_dvd_sub (h5 : 0 < p) {x1 x2 : Int} (a0 : 0 ≤ x1) (a1 : x1 < p) (b0 : 0 ≤ x2) (b1 : x2 < p) (hne : x1 ≠ x2) : ¬ (p : Int) ∣ x1 - x2 := fun hd => hne (eq_of_dvd a0 a1 b0 b1 hd)

/-- Two with one x are the same, or each other's other side. -/
theorem same_or_opp (hp : Prime p) {x y1 y2 : Int} (h1 : Aff p A B x y1) (h2 : Aff p A B x y2) : y1 = y2 ∨ (p : Int) ∣ y1 + y2 := by
  have hd : (p : Int) ∣ (y1 - y2) * (y1 + y2) := comb2 h1.on h2.on 1 (-1) (by grind)
  rcases hp.dvd_mul_int hd with h | h
  · exact Or.inl (eq_of_dvd h1.y0 h1.y1 h2.y0 h2.y1 h)
  · exact Or.inr h

/-- The slope that is reckoned is one. -/
theorem slope_ok (h : Cv p A B) {a b : Pt} (ha : Aff p A B a.x a.y) (hb : Aff p A B b.x b.y) (hno : ¬ Opp p a.x a.y b.x b.y) : Slope p A a.x a.y b.x b.y (slopeF p A a b) := by
  obtain ⟨x1, y1, f1⟩ := a
  obtain ⟨x2, y2, f2⟩ := b
  simp only at ha hb hno ⊢
  unfold slopeF
  simp only
  by_cases hx : x1 = x2
  · subst hx
    rw [if_pos rfl]
    have hy : y1 = y2 := by
      rcases same_or_opp h.prime ha hb with e | e
      · exact e
      · exact absurd ⟨rfl, e⟩ hno
    subst hy
    have hn : ¬ (p : Int) ∣ 2 * y1 := fun hd => hno ⟨rfl, by rwa [show y1 + y1 = 2 * y1 by omega]⟩
    have hi := iv_spec h.prime hn
    generalize iv p (2 * y1) = i at *
    have hm := mod_dvd (p : Int) ((3 * x1 * x1 + A) * i)
    generalize (3 * x1 * x1 + A) * i % (p : Int) = l at *
    refine ⟨⟨0, by grind⟩, comb2 hi hm (3 * x1 * x1 + A) (2 * y1) (by grind)⟩
  · rw [if_neg hx]
    have hn : ¬ (p : Int) ∣ x2 - x1 := Aff.not_dvd_sub (by have := h.five; omega) hb.x0 hb.x1 ha.x0 ha.x1 (Ne.symm hx)
    have hi := iv_spec h.prime hn
    generalize iv p (x2 - x1) = i at *
    have hm := mod_dvd (p : Int) ((y2 - y1) * i)
    generalize (y2 - y1) * i % (p : Int) = l at *
    have s1 : (p : Int) ∣ (y1 - y2) - l * (x1 - x2) := comb2 hi hm (y2 - y1) (x2 - x1) (by grind)
    refine ⟨s1, ?_⟩
    have hd : (p : Int) ∣ ((y1 + y2) * l - (x1 * x1 + x1 * x2 + x2 * x2 + A)) * (x2 - x1) := comb3 s1 ha.on hb.on (y1 + y2) (-1) 1 (by grind)
    exact (h.prime.dvd_mul_int hd).resolve_right hn

/-- There is but one slope. -/
theorem slope_one (h : Cv p A B) {x1 y1 x2 y2 l l' : Int} (ha : Aff p A B x1 y1) (hb : Aff p A B x2 y2) (hno : ¬ Opp p x1 y1 x2 y2) (hs : Slope p A x1 y1 x2 y2 l) (hs' : Slope p A x1 y1 x2 y2 l') : (p : Int) ∣ l - l' := by
  by_cases hx : x1 = x2
  · subst hx
    have hd : (p : Int) ∣ (y1 + y2) * (l - l') := comb2 hs.s2 hs'.s2 1 (-1) (by grind)
    exact (h.prime.dvd_mul_int hd).resolve_left fun e => hno ⟨rfl, e⟩
  · have hn : ¬ (p : Int) ∣ x1 - x2 := Aff.not_dvd_sub (by have := h.five; omega) ha.x0 ha.x1 hb.x0 hb.x1 hx
    have hd : (p : Int) ∣ (x1 - x2) * (l - l') := comb2 hs.s1 hs'.s1 (-1) 1 (by grind)
    exact (h.prime.dvd_mul_int hd).resolve_left hn

/-- The third point is of the curve. -/
theorem third_on (h5 : 0 < p) {x1 y1 x2 y2 l : Int} (ha : Aff p A B x1 y1) (hs : Slope p A x1 y1 x2 y2 l) : Aff p A B (third p x1 y1 x2 l).x (third p x1 y1 x2 l).y := by
  have hx := third_x p x1 y1 x2 l
  have hy := third_y p x1 y1 x2 l
  refine ⟨Int.emod_nonneg _ (by omega), Int.emod_lt_of_pos _ (by omega), Int.emod_nonneg _ (by omega), Int.emod_lt_of_pos _ (by omega), ?_⟩
  generalize (third p x1 y1 x2 l).x = x3 at *
  generalize (third p x1 y1 x2 l).y = y3 at *
  exact comb5 hy ha.on hs.s2 hs.s1 hx (l * x1 - l * x3 - y1 + y3) 1 (-x1 + x3) (-l * (x1 - x3)) (-(x1 - x3) * (x2 - x3)) (by grind)

theorem opp_mod {a b : Pt} : (a.x = b.x ∧ (a.y + b.y) % p = 0) ↔ Opp p a.x a.y b.x b.y :=
  ⟨fun h => ⟨h.1, Int.dvd_of_emod_eq_zero h.2⟩, fun h => ⟨h.1, Int.emod_eq_zero_of_dvd h.2⟩⟩

theorem addF_far_left (b : Pt) : addF p A farP b = b := rfl

theorem addF_far_right {a : Pt} (h : On p A B a) : addF p A a farP = a := by
  unfold addF
  by_cases hf : a.far = true
  · rw [if_pos hf, h.far_eq hf]
  · rw [if_neg hf]; exact if_pos rfl

theorem addF_opp {a b : Pt} (ha : a.far = false) (hb : b.far = false) (h : Opp p a.x a.y b.x b.y) : addF p A a b = farP := by
  unfold addF
  rw [if_neg (by rw [ha]; simp), if_neg (by rw [hb]; simp), if_pos (opp_mod.2 h)]

theorem addF_third (h : Cv p A B) {a b : Pt} (fa : a.far = false) (fb : b.far = false) (ha : Aff p A B a.x a.y) (hb : Aff p A B b.x b.y) (hno : ¬ Opp p a.x a.y b.x b.y) {l : Int} (hs : Slope p A a.x a.y b.x b.y l) : addF p A a b = third p a.x a.y b.x l := by
  have e : addF p A a b = third p a.x a.y b.x (slopeF p A a b) := by
    unfold addF
    rw [if_neg (by rw [fa]; simp), if_neg (by rw [fb]; simp), if_neg (fun k => hno (opp_mod.1 k))]
  rw [e]
  have hl := slope_one h ha hb hno (slope_ok h ha hb hno) hs
  generalize slopeF p A a b = l' at *
  refine third_congr (y2 := 0) (comb1 hl (l' + l) (by grind)) ?_
  generalize (third p a.x a.y b.x l').x = z at *
  exact comb1 hl (a.x - z) (by grind)

/-- Sums stay on the curve. -/
theorem addF_on (h : Cv p A B) {a b : Pt} (ha : On p A B a) (hb : On p A B b) : On p A B (addF p A a b) := by
  by_cases fa : a.far = true
  · rw [ha.far_eq fa]; exact hb
  · have fa' : a.far = false := by simpa using fa
    by_cases fb : b.far = true
    · rw [hb.far_eq fb, addF_far_right ha]; exact ha
    · have fb' : b.far = false := by simpa using fb
      by_cases ho : Opp p a.x a.y b.x b.y
      · rw [addF_opp fa' fb' ho]; exact on_far _ _ _
      · have hs := slope_ok h (ha.aff fa') (hb.aff fb') ho
        rw [addF_third h fa' fb' (ha.aff fa') (hb.aff fb') ho hs]
        exact Or.inr ⟨rfl, third_on (by have := h.five; omega) (ha.aff fa') hs⟩

end

end Go.Proofs.YtdaneanloknkpacGreatDoor
