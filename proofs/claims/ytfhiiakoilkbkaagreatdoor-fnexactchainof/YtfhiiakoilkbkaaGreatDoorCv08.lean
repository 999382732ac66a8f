/- Plain numbers: points of a curve over the numbers by a prime number: sums by chord and tangent stay on the curve and are a group. Nothing of the program. Plain numbers: points of a curve are a group; multiples. Nothing of the program. Walks: curves of the model: l3On, l3Add, l3Mul, CurveOk, PointOk. Walks: sums and multiples of points in the model: l3Add, l3Mul. -/
import Derived.Test.YtfhiiakoilkbkaaGreatDoorCv07
namespace Go.Proofs.YtfhiiakoilkbkaaGreatDoor
set_option linter.unusedVariables false
set_option linter.unusedSimpArgs false
section
theorem comb1 {p H E : Int} (h : p ∣ H) (c : Int) (e : E = c * H) : p ∣ E := by
 rw [e]; exact Int.dvd_mul_of_dvd_right h
theorem comb2 {p H1 H2 E : Int} (h1 : p ∣ H1) (h2 : p ∣ H2) (c1 c2 : Int) (e : E = c1 * H1 + c2 * H2) : p ∣ E := by
 rw [e]; exact Int.dvd_add (Int.dvd_mul_of_dvd_right h1) (Int.dvd_mul_of_dvd_right h2)
theorem comb3 {p H1 H2 H3 E : Int} (h1 : p ∣ H1) (h2 : p ∣ H2) (h3 : p ∣ H3) (c1 c2 c3 : Int) (e : E = c1 * H1 + c2 * H2 + c3 * H3) : p ∣ E := by
 rw [e]; exact Int.dvd_add (comb2 h1 h2 c1 c2 rfl) (Int.dvd_mul_of_dvd_right h3)
theorem comb4 {p H1 H2 H3 H4 E : Int} (h1 : p ∣ H1) (h2 : p ∣ H2) (h3 : p ∣ H3) (h4 : p ∣ H4) (c1 c2 c3 c4 : Int) (e : E = c1 * H1 + c2 * H2 + c3 * H3 + c4 * H4) : p ∣ E := by
 rw [e]; exact Int.dvd_add (comb3 h1 h2 h3 c1 c2 c3 rfl) (Int.dvd_mul_of_dvd_right h4)
theorem comb5 {p H1 H2 H3 H4 H5 E : Int} (h1 : p ∣ H1) (h2 : p ∣ H2) (h3 : p ∣ H3) (h4 : p ∣ H4) (h5 : p ∣ H5) (c1 c2 c3 c4 c5 : Int) (e : E = c1 * H1 + c2 * H2 + c3 * H3 + c4 * H4 + c5 * H5) : p ∣ E := by
 rw [e]; exact Int.dvd_add (comb4 h1 h2 h3 h4 c1 c2 c3 c4 rfl) (Int.dvd_mul_of_dvd_right h5)
theorem comb6 {p H1 H2 H3 H4 H5 H6 E : Int} (h1 : p ∣ H1) (h2 : p ∣ H2) (h3 : p ∣ H3) (h4 : p ∣ H4) (h5 : p ∣ H5) (h6 : p ∣ H6) (c1 c2 c3 c4 c5 c6 : Int) (e : E = c1 * H1 + c2 * H2 + c3 * H3 + c4 * H4 + c5 * H5 + c6 * H6) : p ∣ E := by
 rw [e]; exact Int.dvd_add (comb5 h1 h2 h3 h4 h5 c1 c2 c3 c4 c5 rfl) (Int.dvd_mul_of_dvd_right h6)
theorem mod_dvd (p x : Int) : p ∣ x % p - x := by
 have := Int.emod_add_mul_ediv x p
 exact ⟨-(x / p), by rw [Int.mul_neg]; omega⟩
theorem mod_eq {p x y : Int} (h : p ∣ x - y) : x % p = y % p :=
 Int.emod_eq_emod_iff_emod_sub_eq_zero.2 (Int.emod_eq_zero_of_dvd h)
theorem eq_of_dvd {p x y : Int} (hx0 : 0 ≤ x) (hx : x < p) (hy0 : 0 ≤ y) (hy : y < p) (h : p ∣ x - y) : x = y := by
 have := mod_eq h
 rwa [Int.emod_eq_of_lt hx0 hx, Int.emod_eq_of_lt hy0 hy] at this
def iv (p : Nat) (a : Int) : Int := (((a % p).toNat ^ (p - 2) % p : Nat) : Int)
theorem iv_range {p : Nat} (h : 0 < p) (a : Int) : 0 ≤ iv p a ∧ iv p a < p := by
 have := Nat.mod_lt ((a % p).toNat ^ (p - 2)) h
 unfold iv
 omega
theorem iv_spec {p : Nat} (hp : Prime p) {a : Int} (ha : ¬ (p : Int) ∣ a) : (p : Int) ∣ a * iv p a - 1 := by
 have h2 := hp.1
 have r0 := Int.emod_nonneg a (show (p : Int) ≠ 0 by omega)
 have hz : ((a % p).toNat : Int) = a % p := by omega
 have hn : ¬ p ∣ (a % p).toNat := by
  intro hd
  apply ha
  have h1 : (p : Int) ∣ a % p := by rw [← hz]; exact Int.ofNat_dvd.2 hd
  have h3 := Int.dvd_sub h1 (mod_dvd (p : Int) a)
  rwa [show a % (p : Int) - (a % p - a) = a by omega] at h3
 have hf := hp.fermat hn
 have e1 : (p : Int) ∣ iv p a - (((a % p).toNat ^ (p - 2) : Nat) : Int) := by
  unfold iv; rw [Int.natCast_emod]; exact mod_dvd _ _
 have e2 : (p : Int) ∣ (((a % p).toNat ^ (p - 1) : Nat) : Int) - 1 := by
  have := mod_dvd (p : Int) (((a % p).toNat ^ (p - 1) : Nat) : Int)
  rw [← Int.natCast_emod, hf] at this
  have h3 := Int.dvd_neg.2 this
  rwa [show -(((1 : Nat) : Int) - (((a % p).toNat ^ (p - 1) : Nat) : Int)) = (((a % p).toNat ^ (p - 1) : Nat) : Int) - 1 by omega] at h3
 have e3 : (((a % p).toNat ^ (p - 1) : Nat) : Int) = (a % p) * (((a % p).toNat ^ (p - 2) : Nat) : Int) := by
  rw [show p - 1 = (p - 2) + 1 by omega, Nat.pow_succ, Int.natCast_mul, hz, Int.mul_comm]
 rw [e3] at e2
 have e4 := mod_dvd (p : Int) a
 generalize (((a % p).toNat ^ (p - 2) : Nat) : Int) = z at *
 generalize iv p a = v at *
 generalize a % (p : Int) = r at *
 exact comb3 e1 e2 e4 a 1 (-z) (by grind)
theorem iv_zero {p : Nat} (h3 : 3 ≤ p) {a : Int} (ha : (p : Int) ∣ a) : iv p a = 0 := by
 unfold iv
 rw [Int.emod_eq_zero_of_dvd ha]
 simp only [Int.toNat_zero]
 rw [Nat.zero_pow (by omega)]
 simp
structure Pt where
 x : Int
 y : Int
 far : Bool
def farP : Pt := ⟨0, 0, true⟩
theorem Pt.ext' {a b : Pt} (hx : a.x = b.x) (hy : a.y = b.y) (hf : a.far = b.far) : a = b := by
 cases a; cases b; simp only at hx hy hf; subst hx hy hf; rfl
structure Aff (p : Nat) (A B x y : Int) : Prop where
 x0 : 0 ≤ x
 x1 : x < p
 y0 : 0 ≤ y
 y1 : y < p
 on : (p : Int) ∣ y * y - (x * x * x + A * x + B)
def On (p : Nat) (A B : Int) (a : Pt) : Prop := (a.far = true ∧ a.x = 0 ∧ a.y = 0) ∨ (a.far = false ∧ Aff p A B a.x a.y)
theorem On.far_eq {p : Nat} {A B : Int} {a : Pt} (h : On p A B a) (hf : a.far = true) : a = farP := by
 rcases h with ⟨_, hx, hy⟩ | ⟨h, _⟩
 ·exact Pt.ext' hx hy hf
 ·rw [hf] at h; simp at h
theorem On.aff {p : Nat} {A B : Int} {a : Pt} (h : On p A B a) (hf : a.far = false) : Aff p A B a.x a.y := by
 rcases h with ⟨h, _⟩ | ⟨_, h⟩
 ·rw [hf] at h; simp at h
 ·exact h
theorem on_far (p : Nat) (A B : Int) : On p A B farP := Or.inl ⟨rfl, rfl, rfl⟩
structure Cv (p : Nat) (A B : Int) : Prop where
 prime : Prime p
 five : 5 ≤ p
 disc : ¬ (p : Int) ∣ 4 * (A * A * A) + 27 * (B * B)
def slopeF (p : Nat) (A : Int) (a b : Pt) : Int :=
 (if a.x = b.x then (3 * a.x * a.x + A) * iv p (2 * a.y) else (b.y - a.y) * iv p (b.x - a.x)) % p
def third (p : Nat) (x1 y1 x2 l : Int) : Pt := ⟨(l * l - x1 - x2) % p, (l * (x1 - (l * l - x1 - x2) % p) - y1) % p, false⟩
def addF (p : Nat) (A : Int) (a b : Pt) : Pt :=
 if a.far = true then b else if b.far = true then a else if a.x = b.x ∧ (a.y + b.y) % p = 0 then farP else third p a.x a.y b.x (slopeF p A a b)
structure Slope (p : Nat) (A x1 y1 x2 y2 l : Int) : Prop where
 s1 : (p : Int) ∣ (y1 - y2) - l * (x1 - x2)
 s2 : (p : Int) ∣ (y1 + y2) * l - (x1 * x1 + x1 * x2 + x2 * x2 + A)
def Opp (p : Nat) (x1 y1 x2 y2 : Int) : Prop := x1 = x2 ∧ (p : Int) ∣ y1 + y2
theorem third_x (p : Nat) (x1 y1 x2 l : Int) : (p : Int) ∣ (third p x1 y1 x2 l).x - (l * l - x1 - x2) := mod_dvd _ _
theorem third_y (p : Nat) (x1 y1 x2 l : Int) : (p : Int) ∣ (third p x1 y1 x2 l).y - (l * (x1 - (third p x1 y1 x2 l).x) - y1) := mod_dvd _ _
theorem third_congr {p : Nat} {x1 y1 x2 y2 l x1' y1' x2' l' : Int} (hx : (p : Int) ∣ (l * l - x1 - x2) - (l' * l' - x1' - x2')) (hy : (p : Int) ∣ (l * (x1 - (third p x1 y1 x2 l).x) - y1) - (l' * (x1' - (third p x1 y1 x2 l).x) - y1')) : third p x1 y1 x2 l = third p x1' y1' x2' l' := by
 have ex : (third p x1 y1 x2 l).x = (third p x1' y1' x2' l').x := mod_eq hx
 refine Pt.ext' ex ?_ rfl
 have : (third p x1 y1 x2 l).y = (l' * (x1' - (third p x1 y1 x2 l).x) - y1') % p := mod_eq hy
 rw [this, ex]
 rfl
section
variable {p : Nat} {A B : Int}
theorem Cv.two (h : Cv p A B) {y : Int} (hd : (p : Int) ∣ 2 * y) : (p : Int) ∣ y := by
 rcases h.prime.dvd_mul_int hd with h1 | h1
 ·have := Int.le_of_dvd (by omega) h1
  have := h.five
  omega
 ·exact h1
theorem Aff.not_dvd_sub (h5 : 0 < p) {x1 x2 : Int} (a0 : 0 ≤ x1) (a1 : x1 < p) (b0 : 0 ≤ x2) (b1 : x2 < p) (hne : x1 ≠ x2) : ¬ (p : Int) ∣ x1 - x2 := fun hd => hne (eq_of_dvd a0 a1 b0 b1 hd)
theorem same_or_opp (hp : Prime p) {x y1 y2 : Int} (h1 : Aff p A B x y1) (h2 : Aff p A B x y2) : y1 = y2 ∨ (p : Int) ∣ y1 + y2 := by
 have hd : (p : Int) ∣ (y1 - y2) * (y1 + y2) := comb2 h1.on h2.on 1 (-1) (by grind)
 rcases hp.dvd_mul_int hd with h | h
 ·exact Or.inl (eq_of_dvd h1.y0 h1.y1 h2.y0 h2.y1 h)
 ·exact Or.inr h
theorem slope_ok (h : Cv p A B) {a b : Pt} (ha : Aff p A B a.x a.y) (hb : Aff p A B b.x b.y) (hno : ¬ Opp p a.x a.y b.x b.y) : Slope p A a.x a.y b.x b.y (slopeF p A a b) := by
 obtain ⟨x1, y1, f1⟩ := a
 obtain ⟨x2, y2, f2⟩ := b
 simp only at ha hb hno ⊢
 unfold slopeF
 simp only
 by_cases hx : x1 = x2
 ·subst hx
  rw [if_pos rfl]
  have hy : y1 = y2 := by
   rcases same_or_opp h.prime ha hb with e | e
   ·exact e
   ·exact absurd ⟨rfl, e⟩ hno
  subst hy
  have hn : ¬ (p : Int) ∣ 2 * y1 := fun hd => hno ⟨rfl, by rwa [show y1 + y1 = 2 * y1 by omega]⟩
  have hi := iv_spec h.prime hn
  generalize iv p (2 * y1) = i at *
  have hm := mod_dvd (p : Int) ((3 * x1 * x1 + A) * i)
  generalize (3 * x1 * x1 + A) * i % (p : Int) = l at *
  refine ⟨⟨0, by grind⟩, comb2 hi hm (3 * x1 * x1 + A) (2 * y1) (by grind)⟩
 ·rw [if_neg hx]
  have hn : ¬ (p : Int) ∣ x2 - x1 := Aff.not_dvd_sub (by have := h.five; omega) hb.x0 hb.x1 ha.x0 ha.x1 (Ne.symm hx)
  have hi := iv_spec h.prime hn
  generalize iv p (x2 - x1) = i at *
  have hm := mod_dvd (p : Int) ((y2 - y1) * i)
  generalize (y2 - y1) * i % (p : Int) = l at *
  have s1 : (p : Int) ∣ (y1 - y2) - l * (x1 - x2) := comb2 hi hm (y2 - y1) (x2 - x1) (by grind)
  refine ⟨s1, ?_⟩
  have hd : (p : Int) ∣ ((y1 + y2) * l - (x1 * x1 + x1 * x2 + x2 * x2 + A)) * (x2 - x1) := comb3 s1 ha.on hb.on (y1 + y2) (-1) 1 (by grind)
  exact (h.prime.dvd_mul_int hd).resolve_right hn
theorem slope_one (h : Cv p A B) {x1 y1 x2 y2 l l' : Int} (ha : Aff p A B x1 y1) (hb : Aff p A B x2 y2) (hno : ¬ Opp p x1 y1 x2 y2) (hs : Slope p A x1 y1 x2 y2 l) (hs' : Slope p A x1 y1 x2 y2 l') : (p : Int) ∣ l - l' := by
 by_cases hx : x1 = x2
 ·subst hx
  have hd : (p : Int) ∣ (y1 + y2) * (l - l') := comb2 hs.s2 hs'.s2 1 (-1) (by grind)
  exact (h.prime.dvd_mul_int hd).resolve_left fun e => hno ⟨rfl, e⟩
 ·have hn : ¬ (p : Int) ∣ x1 - x2 := Aff.not_dvd_sub (by have := h.five; omega) ha.x0 ha.x1 hb.x0 hb.x1 hx
  have hd : (p : Int) ∣ (x1 - x2) * (l - l') := comb2 hs.s1 hs'.s1 (-1) 1 (by grind)
  exact (h.prime.dvd_mul_int hd).resolve_left hn
theorem third_on (h5 : 0 < p) {x1 y1 x2 y2 l : Int} (ha : Aff p A B x1 y1) (hs : Slope p A x1 y1 x2 y2 l) : Aff p A B (third p x1 y1 x2 l).x (third p x1 y1 x2 l).y := by
 have hx := third_x p x1 y1 x2 l
 have hy := third_y p x1 y1 x2 l
 refine ⟨Int.emod_nonneg _ (by omega), Int.emod_lt_of_pos _ (by omega), Int.emod_nonneg _ (by omega), Int.emod_lt_of_pos _ (by omega), ?_⟩
 generalize (third p x1 y1 x2 l).x = x3 at *
 generalize (third p x1 y1 x2 l).y = y3 at *
 exact comb5 hy ha.on hs.s2 hs.s1 hx (l * x1 - l * x3 - y1 + y3) 1 (-x1 + x3) (-l * (x1 - x3)) (-(x1 - x3) * (x2 - x3)) (by grind)
theorem opp_mod {a b : Pt} : (a.x = b.x ∧ (a.y + b.y) % p = 0) ↔ Opp p a.x a.y b.x b.y :=
 ⟨fun h => ⟨h.1, Int.dvd_of_emod_eq_zero h.2⟩, fun h => ⟨h.1, Int.emod_eq_zero_of_dvd h.2⟩⟩
theorem addF_far_right {a : Pt} (h : On p A B a) : addF p A a farP = a := by
 unfold addF
 by_cases hf : a.far = true
 ·rw [if_pos hf, h.far_eq hf]
 ·rw [if_neg hf]; exact if_pos rfl
theorem addF_opp {a b : Pt} (ha : a.far = false) (hb : b.far = false) (h : Opp p a.x a.y b.x b.y) : addF p A a b = farP := by
 unfold addF
 rw [if_neg (by rw [ha]; simp), if_neg (by rw [hb]; simp), if_pos (opp_mod.2 h)]
theorem addF_third (h : Cv p A B) {a b : Pt} (fa : a.far = false) (fb : b.far = false) (ha : Aff p A B a.x a.y) (hb : Aff p A B b.x b.y) (hno : ¬ Opp p a.x a.y b.x b.y) {l : Int} (hs : Slope p A a.x a.y b.x b.y l) : addF p A a b = third p a.x a.y b.x l := by
 have e : addF p A a b = third p a.x a.y b.x (slopeF p A a b) := by
  unfold addF
  rw [if_neg (by rw [fa]; simp), if_neg (by rw [fb]; simp), if_neg (fun k => hno (opp_mod.1 k))]
 rw [e]
 have hl := slope_one h ha hb hno (slope_ok h ha hb hno) hs
 generalize slopeF p A a b = l' at *
 refine third_congr (y2 := 0) (comb1 hl (l' + l) (by grind)) ?_
 generalize (third p a.x a.y b.x l').x = z at *
 exact comb1 hl (a.x - z) (by grind)
theorem addF_on (h : Cv p A B) {a b : Pt} (ha : On p A B a) (hb : On p A B b) : On p A B (addF p A a b) := by
 by_cases fa : a.far = true
 ·rw [ha.far_eq fa]; exact hb
 ·have fa' : a.far = false := by simpa using fa
  by_cases fb : b.far = true
  ·rw [hb.far_eq fb, addF_far_right ha]; exact ha
  ·have fb' : b.far = false := by simpa using fb
   by_cases ho : Opp p a.x a.y b.x b.y
   ·rw [addF_opp fa' fb' ho]; exact on_far _ _ _
   ·have hs := slope_ok h (ha.aff fa') (hb.aff fb') ho
    rw [addF_third h fa' fb' (ha.aff fa') (hb.aff fb') ho hs]
    exact Or.inr ⟨rfl, third_on (by have := h.five; omega) (ha.aff fa') hs⟩
end
end
section
section
variable {p : Nat} {A B : Int}
theorem Slope.swap {x1 y1 x2 y2 l : Int} (h : Slope p A x1 y1 x2 y2 l) : Slope p A x2 y2 x1 y1 l :=
 ⟨comb1 h.s1 (-1) (by grind), comb1 h.s2 1 (by grind)⟩
theorem Opp.swap {x1 y1 x2 y2 : Int} (h : Opp p x1 y1 x2 y2) : Opp p x2 y2 x1 y1 := ⟨h.1.symm, by rw [Int.add_comm]; exact h.2⟩
theorem addF_comm (h : Cv p A B) {a b : Pt} (ha : On p A B a) (hb : On p A B b) : addF p A a b = addF p A b a := by
 by_cases fa : a.far = true
 ·rw [ha.far_eq fa, addF_far_right hb]; rfl
 ·have fa' : a.far = false := by simpa using fa
  by_cases fb : b.far = true
  ·rw [hb.far_eq fb, addF_far_right ha]; rfl
  ·have fb' : b.far = false := by simpa using fb
   by_cases ho : Opp p a.x a.y b.x b.y
   ·rw [addF_opp fa' fb' ho, addF_opp fb' fa' ho.swap]
   ·have hs := slope_ok h (ha.aff fa') (hb.aff fb') ho
    rw [addF_third h fa' fb' (ha.aff fa') (hb.aff fb') ho hs, addF_third h fb' fa' (hb.aff fb') (ha.aff fa') (fun k => ho k.swap) hs.swap]
    have s1 := hs.s1
    generalize slopeF p A a b = l at *
    refine third_congr (y2 := 0) ⟨0, by grind⟩ ?_
    generalize (third p a.x a.y b.x l).x = z at *
    exact comb1 s1 (-1) (by grind)
def negF (p : Nat) (a : Pt) : Pt := if a.far = true then a else ⟨a.x, (-a.y) % p, false⟩
theorem neg_dvd (p : Nat) (y : Int) : (p : Int) ∣ (-y) % p + y := by
 have := mod_dvd (p : Int) (-y)
 rwa [show (-y) % (p : Int) - -y = (-y) % p + y by omega] at this
theorem negF_far : negF p farP = farP := rfl
theorem negF_fin {a : Pt} (f : a.far = false) : negF p a = ⟨a.x, (-a.y) % p, false⟩ := by
 unfold negF
 rw [if_neg (by rw [f]; simp)]
theorem neg_aff (h5 : 0 < p) {x y : Int} (h : Aff p A B x y) : Aff p A B x ((-y) % p) := by
 refine ⟨h.x0, h.x1, Int.emod_nonneg _ (by omega), Int.emod_lt_of_pos _ (by omega), ?_⟩
 have hd := neg_dvd p y
 generalize (-y) % (p : Int) = z at *
 exact comb2 h.on hd 1 (z - y) (by grind)
theorem negF_on (h5 : 0 < p) {a : Pt} (h : On p A B a) : On p A B (negF p a) := by
 by_cases f : a.far = true
 ·rw [h.far_eq f]; exact on_far _ _ _
 ·have f' : a.far = false := by simpa using f
  rw [negF_fin f']
  exact Or.inr ⟨rfl, neg_aff h5 (h.aff f')⟩
theorem add_negF (h : Cv p A B) {a : Pt} (ha : On p A B a) : addF p A a (negF p a) = farP := by
 by_cases f : a.far = true
 ·rw [ha.far_eq f]; rfl
 ·have f' : a.far = false := by simpa using f
  rw [negF_fin f']
  exact addF_opp f' rfl ⟨rfl, by rw [Int.add_comm]; exact neg_dvd p a.y⟩
theorem negF_add_self (h : Cv p A B) {a : Pt} (ha : On p A B a) : addF p A (negF p a) a = farP := by
 rw [addF_comm h (negF_on (by have := h.five; omega) ha) ha, add_negF h ha]
theorem negF_negF (h5 : 0 < p) {a : Pt} (ha : On p A B a) : negF p (negF p a) = a := by
 by_cases f : a.far = true
 ·rw [ha.far_eq f]; rfl
 ·have f' : a.far = false := by simpa using f
  rw [negF_fin f', negF_fin rfl]
  refine Pt.ext' rfl ?_ f'.symm
  have k := ha.aff f'
  have h1 := neg_dvd p a.y
  have h2 := neg_dvd p ((-a.y) % p)
  simp only
  refine eq_of_dvd (Int.emod_nonneg _ (by omega)) (Int.emod_lt_of_pos _ (by omega)) k.y0 k.y1 ?_
  generalize (-a.y) % (p : Int) = z at *
  generalize (-z) % (p : Int) = u at *
  exact comb2 h2 h1 1 (-1) (by grind)
theorem opp_eq (h5 : 0 < p) {a b : Pt} (fa : a.far = false) (fb : b.far = false) (ha : Aff p A B a.x a.y) (hb : Aff p A B b.x b.y) (h : Opp p a.x a.y b.x b.y) : b = negF p a := by
 rw [negF_fin fa]
 refine Pt.ext' h.1.symm ?_ fb
 simp only
 refine eq_of_dvd hb.y0 hb.y1 (Int.emod_nonneg _ (by omega)) (Int.emod_lt_of_pos _ (by omega)) ?_
 have h1 := neg_dvd p a.y
 have h2 := h.2
 generalize (-a.y) % (p : Int) = z at *
 exact comb2 h2 h1 1 (-1) (by grind)
theorem Slope.neg {x1 y1 x2 y2 l z1 z2 : Int} (h : Slope p A x1 y1 x2 y2 l) (h1 : (p : Int) ∣ z1 + y1) (h2 : (p : Int) ∣ z2 + y2) : Slope p A x1 z1 x2 z2 (-l) :=
 ⟨comb3 h.s1 h1 h2 (-1) 1 (-1) (by grind), comb3 h.s2 h1 h2 1 (-l) (-l) (by grind)⟩
theorem Opp.neg {x1 y1 x2 y2 z1 z2 : Int} (h : Opp p x1 z1 x2 z2) (h1 : (p : Int) ∣ z1 + y1) (h2 : (p : Int) ∣ z2 + y2) : Opp p x1 y1 x2 y2 := by
 have h3 := h.2
 exact ⟨h.1, comb3 h3 h1 h2 (-1) 1 1 (by grind)⟩
theorem negF_addF (h : Cv p A B) {a b : Pt} (ha : On p A B a) (hb : On p A B b) : negF p (addF p A a b) = addF p A (negF p a) (negF p b) := by
 have h5 : 0 < p := by have := h.five; omega
 by_cases fa : a.far = true
 ·rw [ha.far_eq fa]; rfl
 ·have fa' : a.far = false := by simpa using fa
  by_cases fb : b.far = true
  ·rw [hb.far_eq fb, addF_far_right ha, negF_far, addF_far_right (negF_on h5 ha)]
  ·have fb' : b.far = false := by simpa using fb
   have ka := ha.aff fa'
   have kb := hb.aff fb'
   have d1 := neg_dvd p a.y
   have d2 := neg_dvd p b.y
   by_cases ho : Opp p a.x a.y b.x b.y
   ·rw [addF_opp fa' fb' ho, negF_far, negF_fin fa', negF_fin fb', addF_opp rfl rfl ?_]
    have h3 := ho.2
    exact ⟨ho.1, comb3 h3 d1 d2 (-1) 1 1 (by grind)⟩
   ·have hs := slope_ok h ka kb ho
    rw [addF_third h fa' fb' ka kb ho hs, negF_fin fa', negF_fin fb',
     addF_third h (a := ⟨a.x, (-a.y) % p, false⟩) (b := ⟨b.x, (-b.y) % p, false⟩) rfl rfl (neg_aff h5 ka) (neg_aff h5 kb) (fun k => ho (k.neg d1 d2)) (hs.neg d1 d2)]
    generalize slopeF p A a b = l at *
    rw [negF_fin rfl]
    simp only
    have ex : (third p a.x a.y b.x l).x = (third p a.x ((-a.y) % p) b.x (-l)).x := mod_eq ⟨0, by grind⟩
    refine Pt.ext' ex ?_ rfl
    simp only
    have e1 := third_y p a.x a.y b.x l
    have e2 := third_y p a.x ((-a.y) % p) b.x (-l)
    rw [← ex] at e2
    have e3 := neg_dvd p (third p a.x a.y b.x l).y
    refine eq_of_dvd (Int.emod_nonneg _ (by omega)) (Int.emod_lt_of_pos _ (by omega)) (Int.emod_nonneg _ (by omega)) (Int.emod_lt_of_pos _ (by omega)) ?_
    generalize (third p a.x ((-a.y) % p) b.x (-l)).y = u at *
    generalize (third p a.x a.y b.x l).y = v at *
    generalize (third p a.x a.y b.x l).x = z at *
    generalize (-v) % (p : Int) = v' at *
    generalize (-a.y) % (p : Int) = y' at *
    exact comb4 e1 e2 e3 d1 (-1) (-1) 1 1 (by grind)
theorem no_fix (h : Cv p A B) {x1 y1 x2 y2 l : Int} (ha : Aff p A B x1 y1) (hb : Aff p A B x2 y2) (hs : Slope p A x1 y1 x2 y2 l) (hx : (p : Int) ∣ x1 - (l * l - x1 - x2)) (hy : (p : Int) ∣ y1 - (l * (x1 - x1) - y1)) : False := by
 have h1 : (p : Int) ∣ y1 := h.two (comb1 hy 1 (by grind))
 have h2 : (p : Int) ∣ 3 * x1 * x1 + A := comb4 h1 hs.s1 hs.s2 hx (2 * l) (-l) (-1) (x1 - x2) (by grind)
 exact h.disc (comb3 h1 ha.on h2 (-27 * y1 * (A * x1 - B + x1 * x1 * x1)) (27 * (A * x1 - B + x1 * x1 * x1)) (4 * A * A + 15 * A * x1 * x1 + 9 * x1 * x1 * x1 * x1) (by grind))
theorem Slope.back {x1 y1 x2 y2 x3 y3 z1 l : Int} (h : Slope p A x1 y1 x2 y2 l) (hx : (p : Int) ∣ x3 - (l * l - x1 - x2)) (hy : (p : Int) ∣ y3 - (l * (x1 - x3) - y1)) (hz : (p : Int) ∣ z1 + y1) : Slope p A x1 z1 x3 y3 (-l) :=
 ⟨comb2 hz hy 1 (-1) (by grind), comb5 hz hy h.s2 h.s1 hx (-l) (-l) 1 l (x2 - x3) (by grind)⟩
theorem addF_cancel (h : Cv p A B) {a b : Pt} (ha : On p A B a) (hb : On p A B b) : addF p A (negF p a) (addF p A a b) = b := by
 have h5 : 0 < p := by have := h.five; omega
 by_cases fa : a.far = true
 ·rw [ha.far_eq fa]; rfl
 ·have fa' : a.far = false := by simpa using fa
  by_cases fb : b.far = true
  ·rw [hb.far_eq fb, addF_far_right ha, negF_add_self h ha]
  ·have fb' : b.far = false := by simpa using fb
   have ka := ha.aff fa'
   have kb := hb.aff fb'
   have d1 := neg_dvd p a.y
   by_cases ho : Opp p a.x a.y b.x b.y
   ·rw [addF_opp fa' fb' ho, addF_far_right (negF_on h5 ha), opp_eq h5 fa' fb' ka kb ho]
   ·have hs := slope_ok h ka kb ho
    have hc := third_on h5 ka hs
    rw [addF_third h fa' fb' ka kb ho hs, negF_fin fa']
    have hx := third_x p a.x a.y b.x (slopeF p A a b)
    have hy := third_y p a.x a.y b.x (slopeF p A a b)
    have hf : (third p a.x a.y b.x (slopeF p A a b)).far = false := rfl
    generalize slopeF p A a b = l at *
    generalize third p a.x a.y b.x l = c at *
    have hno : ¬ Opp p a.x ((-a.y) % p) c.x c.y := by
     intro k
     have kx := k.1
     have ky := k.2
     generalize (-a.y) % (p : Int) = z at *
     rw [← kx] at hx hy
     refine no_fix h ka kb hs hx ?_
     exact comb3 ky d1 hy (-1) 1 1 (by grind)
    rw [addF_third h (a := ⟨a.x, (-a.y) % p, false⟩) rfl hf (neg_aff h5 ka) hc hno (hs.back hx hy d1)]
    have s1 := hs.s1
    generalize (-a.y) % (p : Int) = z at *
    have ex : (third p a.x z c.x (-l)).x = b.x := by
     refine eq_of_dvd (Int.emod_nonneg _ (by omega)) (Int.emod_lt_of_pos _ (by omega)) kb.x0 kb.x1 ?_
     have := third_x p a.x z c.x (-l)
     generalize (third p a.x z c.x (-l)).x = u at *
     exact comb2 this hx 1 (-1) (by grind)
    refine Pt.ext' ex ?_ fb'.symm
    refine eq_of_dvd (Int.emod_nonneg _ (by omega)) (Int.emod_lt_of_pos _ (by omega)) kb.y0 kb.y1 ?_
    have := third_y p a.x z c.x (-l)
    rw [ex] at this
    generalize (third p a.x z c.x (-l)).y = v at *
    exact comb3 this d1 s1 1 (-1) 1 (by grind)
theorem assoc_far_apart (h : Cv p A B) {a b c : Pt} (fa : a.far = false) (fb : b.far = false) (fc : c.far = false) (ka : Aff p A B a.x a.y) (kb : Aff p A B b.x b.y) (kc : Aff p A B c.x c.y)
  (hab : ¬ Opp p a.x a.y b.x b.y) (hbc : ¬ Opp p b.x b.y c.x c.y) (hne : a ≠ c) (h4 : addF p A a b ≠ negF p c) (h5 : addF p A b c ≠ negF p a) :
  addF p A (addF p A a b) c = addF p A a (addF p A b c) := by
 have hp : 0 < p := by have := h.five; omega
 have hs := slope_ok h ka kb hab
 have ht := slope_ok h kb kc hbc
 rw [addF_third h fa fb ka kb hab hs] at h4 ⊢
 rw [addF_third h fb fc kb kc hbc ht] at h5 ⊢
 have k4 := third_on hp ka hs
 have k5 := third_on hp kb ht
 have x4 := third_x p a.x a.y b.x (slopeF p A a b)
 have y4 := third_y p a.x a.y b.x (slopeF p A a b)
 have x5 := third_x p b.x b.y c.x (slopeF p A b c)
 have y5 := third_y p b.x b.y c.x (slopeF p A b c)
 have f4 : (third p a.x a.y b.x (slopeF p A a b)).far = false := rfl
 have f5 : (third p b.x b.y c.x (slopeF p A b c)).far = false := rfl
 generalize slopeF p A a b = l at *
 generalize slopeF p A b c = m at *
 generalize third p a.x a.y b.x l = d at *
 generalize third p b.x b.y c.x m = e at *
 have o4 : ¬ Opp p d.x d.y c.x c.y := fun k => h4 (opp_eq hp fc f4 kc k4 k.swap)
 have o5 : ¬ Opp p a.x a.y e.x e.y := fun k => h5 (opp_eq hp fa f5 ka k5 k)
 have s1 := hs.s1
 have s2 := hs.s2
 have t1 := ht.s1
 have t2 := ht.s2
 have hd : ¬ (p : Int) ∣ m - l := by
  intro hd
  have e1 : (p : Int) ∣ (c.x - a.x) * (a.x + b.x + c.x - l * l) := comb5 s2 t2 s1 t1 hd (1) (-1) (-l) (-m) (2 * b.y + (m + l) * (c.x - b.x)) (by grind)
  rcases h.prime.dvd_mul_int e1 with e2 | e2
  ·have ex : c.x = a.x := eq_of_dvd kc.x0 kc.x1 ka.x0 ka.x1 e2
   apply hne
   refine Pt.ext' ex.symm ?_ (fa.trans fc.symm)
   rw [ex] at t1
   refine eq_of_dvd ka.y0 ka.y1 kc.y0 kc.y1 ?_
   exact comb3 s1 t1 hd 1 1 (b.x - a.x) (by grind)
  ·have ex : d.x = c.x := eq_of_dvd k4.x0 k4.x1 kc.x0 kc.x1 (comb2 x4 e2 1 (-1) (by grind))
   refine o4 ⟨ex, ?_⟩
   rw [ex] at y4
   exact comb4 y4 s1 t1 hd 1 (-1) (-1) (c.x - b.x) (by grind)
 obtain ⟨t, ht⟩ : ∃ t, (p : Int) ∣ t * (m - l) - (c.x - a.x) := by
  refine ⟨(c.x - a.x) * iv p (m - l), ?_⟩
  have := iv_spec h.prime hd
  generalize iv p (m - l) = i at *
  exact comb1 this (c.x - a.x) (by grind)
 have hR : (p : Int) ∣ 2 * b.y - (t * (a.x + b.x + c.x) - (m + l) * (a.x - b.x) - m * m * t) := by
  have : (p : Int) ∣ (m - l) * (2 * b.y - (t * (a.x + b.x + c.x) - (m + l) * (a.x - b.x) - m * m * t)) :=
   comb5 t2 s2 t1 s1 ht 1 (-1) m l (m * m - a.x - b.x - c.x) (by grind)
  exact (h.prime.dvd_mul_int this).resolve_left hd
 have n1 : Slope p A d.x d.y c.x c.y (t - l) := by
  constructor
  ·exact comb6 y4 x4 ht s1 t1 hR 1 (-t) (l + m) (-1) 1 (-1) (by grind)
  ·have g := Int.dvd_add (comb6 y4 x4 ht s2 s1 t1 (-l + t) (-l * t + a.x + b.x - c.x - d.x) (l * l + l * m - b.x + c.x) 1 (-t) (l - t) rfl) (comb1 hR (-l) rfl)
   exact comb1 g 1 (by grind)
 have n2 : Slope p A a.x a.y e.x e.y (t - m) := by
  constructor
  ·exact comb4 y5 x5 s1 hR (-1) t 1 1 (by grind)
  ·exact comb6 y5 x5 ht s2 s1 hR (-m + t) (-m * t - a.x + b.x + c.x - e.x) (-(m * m) + 2 * b.x + c.x) 1 (-l - m + t) (-l) (by grind)
 rw [addF_third h f4 fc k4 kc o4 n1, addF_third h fa f5 ka k5 o5 n2]
 refine third_congr (y2 := 0) ?_ ?_
 ·exact comb3 x4 x5 ht (-1) 1 2 (by grind)
 ·have x6 := third_x p d.x d.y c.x (t - l)
  generalize (third p d.x d.y c.x (t - l)).x = z at *
  have g := Int.dvd_add (comb6 x6 y4 x4 ht s1 hR (l - m) (-1) (-l + m + t) (l - m - t) 2 1 rfl) (comb1 t1 0 rfl)
  exact comb1 g 1 (by grind)
theorem addF_assoc (h : Cv p A B) {a b c : Pt} (ha : On p A B a) (hb : On p A B b) (hc : On p A B c) : addF p A (addF p A a b) c = addF p A a (addF p A b c) := by
 have hp : 0 < p := by have := h.five; omega
 by_cases fa : a.far = true
 ·rw [ha.far_eq fa]; rfl
 have fa' : a.far = false := by simpa using fa
 by_cases fb : b.far = true
 ·rw [hb.far_eq fb, addF_far_right ha]; rfl
 have fb' : b.far = false := by simpa using fb
 by_cases fc : c.far = true
 ·rw [hc.far_eq fc, addF_far_right (addF_on h ha hb), addF_far_right hb]
 have fc' : c.far = false := by simpa using fc
 have na := negF_on hp ha
 have nb := negF_on hp hb
 have nc := negF_on hp hc
 by_cases hab : Opp p a.x a.y b.x b.y
 ·rw [addF_opp fa' fb' hab]
  have e := opp_eq hp fb' fa' (hb.aff fb') (ha.aff fa') hab.swap
  show c = _
  rw [e, addF_cancel h hb hc]
 by_cases hbc : Opp p b.x b.y c.x c.y
 ·rw [addF_opp fb' fc' hbc, addF_far_right ha]
  have e := opp_eq hp fb' fc' (hb.aff fb') (hc.aff fc') hbc
  rw [e, addF_comm h (addF_on h ha hb) nb, addF_comm h ha hb, addF_cancel h hb ha]
 by_cases hac : a = c
 ·subst hac
  rw [addF_comm h (addF_on h ha hb) ha, addF_comm h ha hb]
 by_cases h4 : addF p A a b = negF p c
 ·have e : addF p A b c = negF p a := by
   have e1 : c = negF p (addF p A a b) := by rw [h4, negF_negF hp hc]
   rw [e1, addF_comm h ha hb, negF_addF h hb ha]
   have := addF_cancel h nb na
   rwa [negF_negF hp hb] at this
  rw [h4, e, negF_add_self h hc, add_negF h ha]
 by_cases h5 : addF p A b c = negF p a
 ·have e : addF p A a b = negF p c := by
   have e1 : a = negF p (addF p A b c) := by rw [h5, negF_negF hp ha]
   rw [e1, negF_addF h hb hc, addF_comm h (addF_on h nb nc) hb]
   have := addF_cancel h nb nc
   rwa [negF_negF hp hb] at this
  exact absurd e h4
 exact assoc_far_apart h fa' fb' fc' (ha.aff fa') (hb.aff fb') (hc.aff fc') hab hbc hac h4 h5
def nF (p : Nat) (A : Int) : Nat → Pt → Pt
 | 0, _ => farP
 | n + 1, a => addF p A (nF p A n a) a
theorem nF_on (h : Cv p A B) {a : Pt} (ha : On p A B a) (n : Nat) : On p A B (nF p A n a) := by
 induction n with
 | zero => exact on_far _ _ _
 | succ n ih => exact addF_on h ih ha
theorem nF_add (h : Cv p A B) {a : Pt} (ha : On p A B a) (m n : Nat) : nF p A (m + n) a = addF p A (nF p A m a) (nF p A n a) := by
 induction n with
 | zero => exact (addF_far_right (nF_on h ha m)).symm
 | succ n ih =>
  show addF p A (nF p A (m + n) a) a = addF p A (nF p A m a) (addF p A (nF p A n a) a)
  rw [ih, addF_assoc h (nF_on h ha m) (nF_on h ha n) ha]
theorem nF_mul (h : Cv p A B) {a : Pt} (ha : On p A B a) (m n : Nat) : nF p A m (nF p A n a) = nF p A (m * n) a := by
 induction m with
 | zero => rw [Nat.zero_mul]; rfl
 | succ m ih => rw [Nat.succ_mul, nF_add h ha, ← ih]; rfl
def mulAcc (p : Nat) (A : Int) : Nat → Nat → Pt → Pt → Pt
 | 0, _, o, _ => o
 | f + 1, n, o, a => mulAcc p A f (n / 2) (if n % 2 = 1 then addF p A o a else o) (addF p A a a)
def mulF (p : Nat) (A : Int) (n : Nat) (a : Pt) : Pt := mulAcc p A 64 n farP a
theorem mulAcc_eq (h : Cv p A B) : ∀ (f n : Nat) (o a : Pt), On p A B o → On p A B a → n < 2 ^ f → mulAcc p A f n o a = addF p A o (nF p A n a) := by
 intro f
 induction f with
 | zero =>
  intro n o a ho ha hn
  obtain rfl : n = 0 := by simpa using hn
  exact (addF_far_right ho).symm
 | succ f ih =>
  intro n o a ho ha hn
  have h2 : n / 2 < 2 ^ f := by rw [Nat.pow_succ] at hn; omega
  have haa := addF_on h ha ha
  have e2 : nF p A (n / 2) (addF p A a a) = nF p A (n / 2 * 2) a := by
   have := nF_mul h ha (n / 2) 2
   rwa [show nF p A 2 a = addF p A a a from rfl] at this
  rw [mulAcc]
  by_cases hodd : n % 2 = 1
  ·rw [if_pos hodd, ih _ _ _ (addF_on h ho ha) haa h2, e2, addF_assoc h ho ha (nF_on h ha _)]
   congr 1
   rw [addF_comm h ha (nF_on h ha _)]
   show nF p A (n / 2 * 2 + 1) a = _
   rw [show n / 2 * 2 + 1 = n by omega]
  ·rw [if_neg hodd, ih _ _ _ ho haa h2, e2, show n / 2 * 2 = n by omega]
theorem mulF_eq (h : Cv p A B) {n : Nat} (hn : n < 2 ^ 64) {a : Pt} (ha : On p A B a) : mulF p A n a = nF p A n a := by
 unfold mulF
 rw [mulAcc_eq h 64 n farP a (on_far _ _ _) ha hn]
 rfl
theorem mulF_on (h : Cv p A B) {n : Nat} (hn : n < 2 ^ 64) {a : Pt} (ha : On p A B a) : On p A B (mulF p A n a) := by
 rw [mulF_eq h hn ha]; exact nF_on h ha n
end
end
section
open Go.RowKit
def GivesOn (p : Int) (A B : Int) (a : Pt) (r : Ending) : Prop := ∃ ok : Bool, r = .returned (.bool ok) ∧ (0 ≤ A → (ok = true ↔ On p.toNat A B a)) ∧ (ok = true → a.far = false → 0 ≤ a.x ∧ a.x < p ∧ 0 ≤ a.y ∧ a.y < p)
theorem mulBd {x y p q : Int} (hx0 : 0 ≤ x) (hx : x ≤ p) (hy0 : 0 ≤ y) (hy : y ≤ q) : 0 ≤ x * y ∧ x * y ≤ p * q :=
 ⟨Int.mul_nonneg hx0 hy0, Int.mul_le_mul hx hy hy0 (by omega)⟩
theorem givesOn_no {p A B x y : Int} (h : ¬ (0 ≤ x ∧ x ≤ p - 1 ∧ 0 ≤ y ∧ y ≤ p - 1)) (hp : 0 ≤ p) : GivesOn p A B ⟨x, y, false⟩ (.returned (.bool false)) := by
 refine ⟨false, rfl, fun _ => ⟨fun k => by simp at k, fun k => ?_⟩, fun k => by simp at k⟩
 have k1 := k.aff rfl
 have a1 := k1.x0; have a2 := k1.x1; have a3 := k1.y0; have a4 := k1.y1
 simp only at a1 a2 a3 a4
 exact absurd ⟨a1, by omega, a3, by omega⟩ h
theorem givesOn_far {p A B x y : Int} {ok : Bool} (h : ok = true ↔ x = 0 ∧ y = 0) : GivesOn p A B ⟨x, y, true⟩ (.returned (.bool ok)) := by
 refine ⟨ok, rfl, fun _ => ?_, fun _ k => by simp at k⟩
 rw [h]
 constructor
 ·rintro ⟨rfl, rfl⟩; exact Or.inl ⟨rfl, rfl, rfl⟩
 ·rintro (⟨_, h1, h2⟩ | ⟨h, _⟩)
  ·exact ⟨h1, h2⟩
  ·simp at h
theorem on_model {p A B x y : Int} (hp : 0 < p) : y * y % p = ((x * x % p + A) * x + B) % p ↔ p ∣ y * y - (x * x * x + A * x + B) := by
 have h1 := mod_dvd p (x * x)
 constructor
 ·intro h
  have h2 := Int.dvd_of_emod_eq_zero (Int.emod_eq_emod_iff_emod_sub_eq_zero.1 h)
  generalize x * x % p = q at *
  exact comb2 h2 h1 1 x (by grind)
 ·intro h
  apply mod_eq
  generalize x * x % p = q at *
  exact comb2 h h1 1 (-x) (by grind)
theorem givesOn_eq {p A B x y : Int} (hx0 : 0 ≤ x) (hx : x ≤ p - 1) (hy0 : 0 ≤ y) (hy : y ≤ p - 1) (hB : 0 ≤ B) {ok : Bool} (h : ok = (y * y % p == Int.tmod ((x * x % p + A) * x + B) p)) : GivesOn p A B ⟨x, y, false⟩ (.returned (.bool ok)) := by
 refine ⟨ok, rfl, fun hA => ?_, fun _ _ => ⟨hx0, by simp only; omega, hy0, by simp only; omega⟩⟩
 have hm := Int.emod_nonneg (x * x) (show p ≠ 0 by omega)
 have hn : 0 ≤ (x * x % p + A) * x + B := Int.add_nonneg (Int.mul_nonneg (by omega) hx0) hB
 rw [Int.tmod_eq_emod_of_nonneg hn] at h
 rw [h, beq_iff_eq, on_model (by omega)]
 have e : ((p.toNat : Nat) : Int) = p := by omega
 constructor
 ·intro hd
  exact Or.inr ⟨rfl, ⟨hx0, by simp only; omega, hy0, by simp only; omega, by rw [e]; exact hd⟩⟩
 ·intro hd
  have := (hd.aff rfl).on
  rwa [e] at this
set_option maxHeartbeats 800000 in
theorem l3On_any (p A B N gx gy x y : Int) (f : Bool) (w : World) (hp0 : 0 ≤ p) (hp : p ≤ 2097152) (hA0 : -1 ≤ A) (hA : A ≤ 2097152) (hB0 : 0 ≤ B) (hB : B ≤ 2097152) :
  Calls Tryz.prog 118 #[.agg #[.int .i64 p, .int .i64 A, .int .i64 B, .int .i64 N, .int .i64 gx, .int .i64 gy], .agg #[.int .i64 x, .int .i64 y, .bool f]] w fun r w' => GivesOn p A B ⟨x, y, f⟩ r ∧ Below w.heap.size w w' := by
 cases f
 ·by_cases c1 : 0 ≤ x ∧ x ≤ p - 1
  ·have hin : (decide ((0 : Int) ≤ x) && decide (x ≤ p - 1)) = true := by simp; omega
   by_cases c2 : 0 ≤ y ∧ y ≤ p - 1
   ·have hin2 : (decide ((0 : Int) ≤ y) && decide (y ≤ p - 1)) = true := by simp; omega
    obtain ⟨x0, x1⟩ := c1
    obtain ⟨y0, y1⟩ := c2
    have Hy : Hid (∀ ok : Bool, ok = (y * y % p == Int.tmod ((x * x % p + A) * x + B) p) → GivesOn p A B ⟨x, y, false⟩ (.returned (.bool ok))) := fun ok h => givesOn_eq x0 x1 y0 y1 hB0 h
    have pp : 0 < p := by omega
    obtain ⟨a0, a1⟩ := mulBd y0 (show y ≤ 2097152 by omega) y0 (show y ≤ 2097152 by omega)
    obtain ⟨b0, b1⟩ := mulBd x0 (show x ≤ 2097152 by omega) x0 (show x ≤ 2097152 by omega)
    have m0 := Int.emod_nonneg (x * x) (show p ≠ 0 by omega)
    have m1 := Int.emod_lt_of_pos (x * x) pp
    have z : -2097152 ≤ (x * x % p + A) * x ∧ (x * x % p + A) * x ≤ 8796093022208 := by
     generalize x * x % p = q at *
     have h1 := mulBd (show 0 ≤ q + A + 1 by omega) (show q + A + 1 ≤ 4194304 by omega) x0 (show x ≤ 2097152 by omega)
     rw [Int.add_mul, Int.one_mul] at h1
     omega
    obtain ⟨z0, z1⟩ := z
    go_enter Tryz.func118, Tryz.ntmps118
    go_wp2_with fail
    refine (l1In_int _ _ _ _).mono ?_
    rintro r w' ⟨rfl, hw⟩
    subst hw
    rw [hin]
    go_wp2_with fail
    refine (l1In_int _ _ _ _).mono ?_
    rintro r w' ⟨rfl, hw⟩
    subst hw
    rw [hin2]
    clear hin hin2
    go_wp2
    go_quiet (fail)
    go_wp2
    go_ret
    exact ⟨Hy.out _ rfl, below_drewN (((Below.refl _ _).alloc (Nat.le_refl _) _).alloc (by simp) _) _⟩
   ·have hin2 : (decide ((0 : Int) ≤ y) && decide (y ≤ p - 1)) = false := by simp; omega
    have Hno : Hid (GivesOn p A B ⟨x, y, false⟩ (.returned (.bool false))) := givesOn_no (fun h => c2 ⟨h.2.2.1, h.2.2.2⟩) hp0
    go_enter Tryz.func118, Tryz.ntmps118
    go_wp2_with fail
    refine (l1In_int _ _ _ _).mono ?_
    rintro r w' ⟨rfl, hw⟩
    subst hw
    rw [hin]
    go_wp2_with fail
    refine (l1In_int _ _ _ _).mono ?_
    rintro r w' ⟨rfl, hw⟩
    subst hw
    rw [hin2]
    clear hin hin2
    go_wp2
    go_ret
    exact ⟨Hno.out, ((Below.refl _ _).alloc (Nat.le_refl _) _).alloc (by simp) _⟩
  ·have hin : (decide ((0 : Int) ≤ x) && decide (x ≤ p - 1)) = false := by simp; omega
   have Hno : Hid (GivesOn p A B ⟨x, y, false⟩ (.returned (.bool false))) := givesOn_no (fun h => c1 ⟨h.1, h.2.1⟩) hp0
   go_enter Tryz.func118, Tryz.ntmps118
   go_wp2_with fail
   refine (l1In_int _ _ _ _).mono ?_
   rintro r w' ⟨rfl, hw⟩
   subst hw
   rw [hin]
   clear hin
   go_wp2
   go_ret
   exact ⟨Hno.out, ((Below.refl _ _).alloc (Nat.le_refl _) _).alloc (by simp) _⟩
 ·by_cases cx : x = 0
  ·by_cases cy : y = 0
   ·subst cx cy
    go_enter Tryz.func118, Tryz.ntmps118
    go_wp2
    go_ret
    exact ⟨givesOn_far (by simp), ((Below.refl _ _).alloc (Nat.le_refl _) _).alloc (by simp) _⟩
   ·have hb : (y == 0) = false := by simpa using cy
    have Hno : Hid (GivesOn p A B ⟨0, y, true⟩ (.returned (.bool false))) := givesOn_far (by simp [cy])
    subst cx
    go_enter Tryz.func118, Tryz.ntmps118
    go_wp2
    go_ret
    exact ⟨Hno.out, ((Below.refl _ _).alloc (Nat.le_refl _) _).alloc (by simp) _⟩
  ·have hb : (x == 0) = false := by simpa using cx
   have Hno : Hid (GivesOn p A B ⟨x, y, true⟩ (.returned (.bool false))) := givesOn_far (by simp [cx])
   go_enter Tryz.func118, Tryz.ntmps118
   go_wp2
   go_ret
   exact ⟨Hno.out, ((Below.refl _ _).alloc (Nat.le_refl _) _).alloc (by simp) _⟩
def ptV (a : Pt) : Value := .agg #[.int .i64 a.x, .int .i64 a.y, .bool a.far]
theorem iv_of_isInv {p : Nat} (hp : Prime p) (h3 : 3 ≤ p) {a v : Int} {ok : Bool} (h : IsInv p (invR a p) v ok) : v = iv p a := by
 have hr := invR_lt (a := a) (m := (p : Int)) (by omega)
 rw [Int.toNat_natCast] at hr
 obtain ⟨h1, h2⟩ := hr
 have hi := iv_range (show 0 < p by omega) a
 by_cases hd : (p : Int) ∣ a
 ·rw [iv_zero h3 hd]
  have e0 : invR a p = 0 := by
   have := Int.emod_eq_zero_of_dvd hd
   rw [h2] at this
   omega
  apply h.no
  have k := h.dec
  simp only [e0, Nat.gcd_zero_right] at k
  rw [k]
  simp; omega
 ·have hs := iv_spec hp hd
  have e1 : ¬ p ∣ invR a p := by
   intro k
   apply hd
   have k2 : (p : Int) ∣ a % p := by rw [h2]; exact Int.ofNat_dvd.2 k
   have k3 := Int.dvd_sub k2 (mod_dvd (p : Int) a)
   rwa [show a % (p : Int) - (a % p - a) = a by omega] at k3
  have hg : ok = true := by rw [h.dec]; simpa using hp.coprime e1
  obtain ⟨v0, v1, v2⟩ := h.yes hg
  rw [← h2] at v2
  have d1 : (p : Int) ∣ v * (a % p) - 1 := by
   have := mod_dvd (p : Int) (v * (a % p))
   rw [v2] at this
   have := Int.dvd_neg.2 this
   rwa [show -(1 - v * (a % (p : Int))) = v * (a % p) - 1 by omega] at this
  have d2 := mod_dvd (p : Int) a
  refine eq_of_dvd v0 v1 hi.1 hi.2 ?_
  have d3 : (p : Int) ∣ a * (v - iv p a) := by
   generalize iv p a = i at *
   generalize a % (p : Int) = r at *
   exact comb3 d1 hs d2 1 (-1) (-v) (by grind)
  exact (hp.dvd_mul_int d3).resolve_left hd
theorem l2Inv_iv (a : Int) (p : Nat) (w : World) (h0 : -9223372036854775808 ≤ a) (h1 : a ≤ 9223372036854775807) (hp : Prime p) (h3 : 3 ≤ p) (hm : p ≤ 1073741824) :
  Calls Tryz.prog 142 #[.int .i64 a, .int .i64 (p : Int)] w fun r w' => r = .returned (.int .i64 (iv p a)) ∧ ∃ q, w' = w.drewN q := by
 refine (l2Inv_any a p w h0 h1 (by omega) hm).mono ?_
 rintro r w' ⟨⟨v, rfl, hI, _⟩, hq⟩
 rw [iv_of_isInv hp h3 hI]
 exact ⟨rfl, hq⟩
theorem tmod_bd (a : Int) {p : Int} (hp : 0 < p) : -p < Int.tmod a p ∧ Int.tmod a p < p := ⟨Int.lt_tmod_of_pos a hp, Int.tmod_lt_of_pos a hp⟩
theorem tmod_dvd (p a : Int) : p ∣ Int.tmod a p - a := by
 have := Int.tmod_add_mul_tdiv a p
 exact ⟨-(Int.tdiv a p), by rw [Int.mul_neg]; omega⟩
theorem abs_mul {T v p : Int} (hp : p ≤ 2097152) (h0 : -p < T) (h1 : T < p) (v0 : -p < v) (v1 : v < p) : -4398046511104 ≤ T * v ∧ T * v ≤ 4398046511104 := by
 have e1 := mulBd (show 0 ≤ T + p by omega) (show T + p ≤ 4194304 by omega) (show 0 ≤ v + p by omega) (show v + p ≤ 4194304 by omega)
 have e2 := mulBd (show 0 ≤ p - T by omega) (show p - T ≤ 4194304 by omega) (show 0 ≤ v + p by omega) (show v + p ≤ 4194304 by omega)
 rcases Int.le_total 0 T with hT | hT
 ·rcases Int.le_total 0 v with hv | hv
  ·have := mulBd hT (show T ≤ 2097152 by omega) hv (show v ≤ 2097152 by omega); omega
  ·have := mulBd hT (show T ≤ 2097152 by omega) (show 0 ≤ -v by omega) (show -v ≤ 2097152 by omega)
   rw [Int.mul_neg] at this; omega
 ·rcases Int.le_total 0 v with hv | hv
  ·have := mulBd (show 0 ≤ -T by omega) (show -T ≤ 2097152 by omega) hv (show v ≤ 2097152 by omega)
   rw [Int.neg_mul] at this; omega
  ·have := mulBd (show 0 ≤ -T by omega) (show -T ≤ 2097152 by omega) (show 0 ≤ -v by omega) (show -v ≤ 2097152 by omega)
   rw [Int.neg_mul_neg] at this; omega
theorem sq_bd {T p : Int} (hp : p ≤ 2097152) (h0 : -p < T) (h1 : T < p) : 0 ≤ T * T ∧ T * T ≤ 4398046511104 := by
 refine ⟨?_, (abs_mul hp h0 h1 h0 h1).2⟩
 rcases Int.le_total 0 T with hT | hT
 ·exact Int.mul_nonneg hT hT
 ·have := Int.mul_nonneg (show 0 ≤ -T by omega) (show 0 ≤ -T by omega)
  rwa [Int.neg_mul_neg] at this
theorem third_of {p : Nat} {x1 y1 x2 S l : Int} (h : (p : Int) ∣ S - l) : third p x1 y1 x2 l = ⟨(S * S - x1 - x2) % p, (S * (x1 - (S * S - x1 - x2) % p) - y1) % p, false⟩ := by
 symm
 refine third_congr (y2 := 0) (comb1 h (S + l) (by grind)) ?_
 generalize (third p x1 y1 x2 S).x = z at *
 exact comb1 h (x1 - z) (by grind)
theorem slope_tan {p : Nat} {A x y y' : Int} {f f' : Bool} : (p : Int) ∣ Int.tmod (Int.tmod (3 * x % p * x + A) p * iv p (2 * y)) p - slopeF p A ⟨x, y, f⟩ ⟨x, y', f'⟩ := by
 unfold slopeF
 simp only [if_pos]
 generalize iv p (2 * y) = i
 have e1 := tmod_dvd (p : Int) (Int.tmod (3 * x % p * x + A) p * i)
 have e2 := tmod_dvd (p : Int) (3 * x % p * x + A)
 have e3 := mod_dvd (p : Int) (3 * x)
 have e4 := mod_dvd (p : Int) ((3 * x * x + A) * i)
 generalize Int.tmod (Int.tmod (3 * x % p * x + A) p * i) p = S at *
 generalize Int.tmod (3 * x % p * x + A) p = T at *
 generalize 3 * x % (p : Int) = u at *
 generalize (3 * x * x + A) * i % (p : Int) = l at *
 exact comb4 e1 e2 e3 e4 1 i (x * i) (-1) (by grind)
theorem slope_chord {p : Nat} {A x1 y1 x2 y2 : Int} {f f' : Bool} (h : x1 ≠ x2) : (p : Int) ∣ (y2 - y1) % p * iv p (x2 - x1) % p - slopeF p A ⟨x1, y1, f⟩ ⟨x2, y2, f'⟩ := by
 unfold slopeF
 simp only [if_neg h]
 generalize iv p (x2 - x1) = i
 have e1 := mod_dvd (p : Int) ((y2 - y1) % p * i)
 have e2 := mod_dvd (p : Int) (y2 - y1)
 have e4 := mod_dvd (p : Int) ((y2 - y1) * i)
 generalize (y2 - y1) % (p : Int) * i % p = S at *
 generalize (y2 - y1) % (p : Int) = T at *
 generalize (y2 - y1) * i % (p : Int) = l at *
 exact comb3 e1 e2 e4 1 i (-1) (by grind)
theorem addF_fin {p : Nat} {A x1 y1 x2 y2 : Int} (h : ¬ (x1 = x2 ∧ (y1 + y2) % p = 0)) : addF p A ⟨x1, y1, false⟩ ⟨x2, y2, false⟩ = third p x1 y1 x2 (slopeF p A ⟨x1, y1, false⟩ ⟨x2, y2, false⟩) := by
 unfold addF
 rw [if_neg (by simp), if_neg (by simp), if_neg h]
theorem addF_opp' {p : Nat} {A x1 y1 x2 y2 : Int} (h : x1 = x2 ∧ (y1 + y2) % p = 0) : addF p A ⟨x1, y1, false⟩ ⟨x2, y2, false⟩ = farP := by
 unfold addF
 rw [if_neg (by simp), if_neg (by simp), if_pos h]
structure InR (p : Nat) (a : Pt) : Prop where
 x0 : 0 ≤ a.x
 x1 : a.x < p
 y0 : 0 ≤ a.y
 y1 : a.y < p
theorem addF_inR {p : Nat} (hp : 0 < p) {A : Int} {a b : Pt} (ha : InR p a) (hb : InR p b) : InR p (addF p A a b) := by
 unfold addF
 split
 ·exact hb
 ·split
  ·exact ha
  ·split
   ·exact ⟨Int.le_refl _, by show (0 : Int) < p; omega, Int.le_refl _, by show (0 : Int) < p; omega⟩
   ·exact ⟨Int.emod_nonneg _ (by omega), Int.emod_lt_of_pos _ (by omega), Int.emod_nonneg _ (by omega), Int.emod_lt_of_pos _ (by omega)⟩
set_option maxHeartbeats 1600000 in
theorem l3Add_tan (p : Nat) (A B N gx gy x1 y1 x2 y2 : Int) (w : World) (hpr : Prime p) (h5 : 5 ≤ p) (hp : p ≤ 1048576) (hA0 : -1 ≤ A) (hA : A ≤ 2097152) (a0 : 0 ≤ x1) (a1 : x1 < p) (a2 : 0 ≤ y1) (a3 : y1 < p) (b0 : 0 ≤ x2) (b1 : x2 < p) (b2 : 0 ≤ y2) (b3 : y2 < p) (hno : ¬ (y1 + y2) % (p : Int) = 0) :
  Calls Tryz.prog 119 #[.agg #[.int .i64 p, .int .i64 A, .int .i64 B, .int .i64 N, .int .i64 gx, .int .i64 gy], .agg #[.int .i64 x1, .int .i64 y1, .bool false], .agg #[.int .i64 x1, .int .i64 y2, .bool false]] w fun r w' => r = .returned (ptV (addF p A ⟨x1, y1, false⟩ ⟨x1, y2, false⟩)) ∧ Below w.heap.size w w' := by
 have pp : (0 : Int) < p := by omega
 have hp2 : (p : Int) ≤ 2097152 := by omega
 have hb2 : ((y1 + y2) % (p : Int) == 0) = false := by simpa using hno
 have e3 := addF_fin (A := A) (x1 := x1) (x2 := x1) (y1 := y1) (y2 := y2) (p := p) (fun h => hno h.2)
 rw [third_of (slope_tan (A := A) (x := x1) (y := y1) (y' := y2) (f := false) (f' := false))] at e3
 have HV := hide e3
 clear e3 hno
 have hxx : (x1 == x1) = true := by simp
 have m0 := Int.emod_nonneg (3 * x1) (show (p : Int) ≠ 0 by omega)
 have m1 := Int.emod_lt_of_pos (3 * x1) pp
 obtain ⟨g0, g1⟩ := abs_mul (T := 3 * x1 % (p : Int)) (v := x1) hp2 (by omega) (by omega) (by omega) (by omega)
 obtain ⟨t0, t1⟩ := tmod_bd (3 * x1 % (p : Int) * x1 + A) pp
 obtain ⟨i0, i1⟩ := iv_range (show 0 < p by omega) (2 * y1)
 obtain ⟨k0, k1⟩ := abs_mul (T := Int.tmod (3 * x1 % (p : Int) * x1 + A) p) (v := iv p (2 * y1)) hp2 t0 t1 (by omega) i1
 obtain ⟨S0, S1⟩ := tmod_bd (Int.tmod (3 * x1 % (p : Int) * x1 + A) p * iv p (2 * y1)) pp
 go_enter Tryz.func119, Tryz.ntmps119
 go_wp2
 go_quiet ((go_at_call 142; exact Calls.quiet_of (l2Inv_iv _ p _ (by omega) (by omega) hpr (by omega) (by omega))))
 generalize Int.tmod (Int.tmod (3 * x1 % (p : Int) * x1 + A) p * iv p (2 * y1)) p = S at *
 obtain ⟨q0, q1⟩ := sq_bd hp2 S0 S1
 go_wp2_with fail
 refine (l2Left_any _ _ _ (by omega) (by omega) (by omega) (by omega)).mono ?_
 rintro r w' ⟨rfl, hw⟩
 subst hw
 have X0 := Int.emod_nonneg (S * S - x1 - x1) (show (p : Int) ≠ 0 by omega)
 have X1 := Int.emod_lt_of_pos (S * S - x1 - x1) pp
 generalize (S * S - x1 - x1) % (p : Int) = X at *
 obtain ⟨u0, u1⟩ := abs_mul (T := S) (v := x1 - X) hp2 S0 S1 (by omega) (by omega)
 go_wp2_with fail
 refine (l2Left_any _ _ _ (by omega) (by omega) (by omega) (by omega)).mono ?_
 rintro r w' ⟨rfl, hw⟩
 subst hw
 generalize (S * (x1 - X) - y1) % (p : Int) = Y at *
 go_wp2
 refine bodyPost_ret (v := .agg #[.int .i64 X, .int .i64 Y, .bool false]) (by simp [results, Tryz.results119, go_sem]) rfl ⟨?_, ?_⟩
 ·rw [HV.out]; rfl
 ·repeat (first | exact Below.refl _ _ | refine Below.setCell ?_ (by simp <;> omega) _ | refine Below.alloc ?_ (by simp <;> omega) _ | refine below_drewN ?_ _)
set_option maxHeartbeats 1600000 in
theorem l3Add_cho (p : Nat) (A B N gx gy x1 y1 x2 y2 : Int) (w : World) (hpr : Prime p) (h5 : 5 ≤ p) (hp : p ≤ 1048576) (hA0 : -1 ≤ A) (hA : A ≤ 2097152) (a0 : 0 ≤ x1) (a1 : x1 < p) (a2 : 0 ≤ y1) (a3 : y1 < p) (b0 : 0 ≤ x2) (b1 : x2 < p) (b2 : 0 ≤ y2) (b3 : y2 < p) (hne : x1 ≠ x2) :
  Calls Tryz.prog 119 #[.agg #[.int .i64 p, .int .i64 A, .int .i64 B, .int .i64 N, .int .i64 gx, .int .i64 gy], .agg #[.int .i64 x1, .int .i64 y1, .bool false], .agg #[.int .i64 x2, .int .i64 y2, .bool false]] w fun r w' => r = .returned (ptV (addF p A ⟨x1, y1, false⟩ ⟨x2, y2, false⟩)) ∧ Below w.heap.size w w' := by
 have pp : (0 : Int) < p := by omega
 have hp2 : (p : Int) ≤ 2097152 := by omega
 have hxx : (x1 == x2) = false := by simpa using hne
 have e3 := addF_fin (A := A) (x1 := x1) (x2 := x2) (y1 := y1) (y2 := y2) (p := p) (fun h => hne h.1)
 rw [third_of (slope_chord (A := A) (x1 := x1) (y1 := y1) (x2 := x2) (y2 := y2) (f := false) (f' := false) hne)] at e3
 have HV := hide e3
 clear e3 hne
 have m0 := Int.emod_nonneg (y2 - y1) (show (p : Int) ≠ 0 by omega)
 have m1 := Int.emod_lt_of_pos (y2 - y1) pp
 obtain ⟨i0, i1⟩ := iv_range (show 0 < p by omega) (x2 - x1)
 obtain ⟨k0, k1⟩ := mulBd (x := (y2 - y1) % (p : Int)) (y := iv p (x2 - x1)) (p := 2097152) (q := 2097152) m0 (by omega) i0 (by omega)
 have S0 : -(p : Int) < (y2 - y1) % (p : Int) * iv p (x2 - x1) % (p : Int) := by have := Int.emod_nonneg ((y2 - y1) % (p : Int) * iv p (x2 - x1)) (show (p : Int) ≠ 0 by omega); omega
 have S1 := Int.emod_lt_of_pos ((y2 - y1) % (p : Int) * iv p (x2 - x1)) pp
 go_enter Tryz.func119, Tryz.ntmps119
 go_wp2
 go_quiet (first | (go_at_call 142; exact Calls.quiet_of (l2Inv_iv _ p _ (by omega) (by omega) hpr (by omega) (by omega))) | (go_at_call 143; exact Calls.quiet_of_same (l2Left_any _ _ _ (by omega) (by omega) (by omega) (by omega))))
 generalize ((y2 - y1) % (p : Int) * iv p (x2 - x1) % (p : Int)) = S at *
 obtain ⟨q0, q1⟩ := sq_bd hp2 S0 S1
 go_wp2_with fail
 refine (l2Left_any _ _ _ (by omega) (by omega) (by omega) (by omega)).mono ?_
 rintro r w' ⟨rfl, hw⟩
 subst hw
 have X0 := Int.emod_nonneg (S * S - x1 - x2) (show (p : Int) ≠ 0 by omega)
 have X1 := Int.emod_lt_of_pos (S * S - x1 - x2) pp
 generalize (S * S - x1 - x2) % (p : Int) = X at *
 obtain ⟨u0, u1⟩ := abs_mul (T := S) (v := x1 - X) hp2 S0 S1 (by omega) (by omega)
 go_wp2_with fail
 refine (l2Left_any _ _ _ (by omega) (by omega) (by omega) (by omega)).mono ?_
 rintro r w' ⟨rfl, hw⟩
 subst hw
 generalize (S * (x1 - X) - y1) % (p : Int) = Y at *
 go_wp2
 refine bodyPost_ret (v := .agg #[.int .i64 X, .int .i64 Y, .bool false]) (by simp [results, Tryz.results119, go_sem]) rfl ⟨?_, ?_⟩
 ·rw [HV.out]; rfl
 ·repeat (first | exact Below.refl _ _ | refine Below.setCell ?_ (by simp <;> omega) _ | refine Below.alloc ?_ (by simp <;> omega) _ | refine below_drewN ?_ _)
end
end Go.Proofs.YtfhiiakoilkbkaaGreatDoor
