/- Plain numbers: points of a curve are a group; multiples. Nothing of the program. -/
import Derived.Test.YtdaneanloknkpacGreatDoorCurveM
namespace Go.Proofs.YtdaneanloknkpacGreatDoor
set_option linter.unusedVariables false

section
variable {p : Nat} {A B : Int}

theorem Slope.swap {x1 y1 x2 y2 l : Int} (h : Slope p A x1 y1 x2 y2 l) : Slope p A x2 y2 x1 y1 l :=
  ⟨comb1 h.s1 (-1) (by grind), comb1 h.s2 1 (by grind)⟩

theorem Opp.swap {x1 y1 x2 y2 : Int} (h : Opp p x1 y1 x2 y2) : Opp p x2 y2 x1 y1 := ⟨h.1.symm, by rw [Int.add_comm]; exact h.2⟩

/-- Sums may be turned about. -/
theorem addF_comm (h : Cv p A B) {a b : Pt} (ha : On p A B a) (hb : On p A B b) : addF p A a b = addF p A b a := by
  by_cases fa : a.far = true
  · rw [ha.far_eq fa, addF_far_right hb]; rfl
  · have fa' : a.far = false := by simpa using fa
    by_cases fb : b.far = true
    · rw [hb.far_eq fb, addF_far_right ha]; rfl
    · have fb' : b.far = false := by simpa using fb
      by_cases ho : Opp p a.x a.y b.x b.y
      · rw [addF_opp fa' fb' ho, addF_opp fb' fa' ho.swap]
      · have hs := slope_ok h (ha.aff fa') (hb.aff fb') ho
        rw [addF_third h fa' fb' (ha.aff fa') (hb.aff fb') ho hs, addF_third h fb' fa' (hb.aff fb') (ha.aff fa') (fun k => ho k.swap) hs.swap]
        have s1 := hs.s1
        generalize slopeF p A a b = l at *
        refine third_congr (y2 := 0) ⟨0, by grind⟩ ?_
        generalize (third p a.x a.y b.x l).x = z at *
        exact comb1 s1 (-1) (by grind)

/-- The other side. -/
def negF (p : Nat) (a : Pt) : Pt := if a.far = true then a else ⟨a.x, (-a.y) % p, false⟩

theorem neg_dvd (p : Nat) (y : Int) : (p : Int) ∣ (-y) % p + y := by
  have := mod_dvd (p : Int) (-y)
  rwa [show (-y) % (p : Int) - -y = (-y) % p + y by omega] at this

theorem negF_far : negF p farP = farP := rfl

theorem negF_fin {a : Pt} (f : a.far = false) : negF p a = ⟨a.x, (-a.y) % p, false⟩ := by
  unfold negF
  rw [if_neg (by rw [f]; simp)]

theorem neg_aff (h5 : 0 < p) {x y : Int} (h : Aff p A B x y) : Aff p A B x ((-y) % p) := by
  refine ⟨h.x0, h.x1, Int.emod_nonneg _ (by omega), Int.emod_lt_of_pos _ (by omega), ?_⟩
  have hd := neg_dvd p y
  generalize (-y) % (p : Int) = z at *
  exact comb2 h.on hd 1 (z - y) (by grind)

theorem negF_on (h5 : 0 < p) {a : Pt} (h : On p A B a) : On p A B (negF p a) := by
  by_cases f : a.far = true
  · rw [h.far_eq f]; exact on_far _ _ _
  · have f' : a.far = false := by simpa using f
    rw [negF_fin f']
    exact Or.inr ⟨rfl, neg_aff h5 (h.aff f')⟩

theorem add_negF (h : Cv p A B) {a : Pt} (ha : On p A B a) : addF p A a (negF p a) = farP := by
  by_cases f : a.far = true
  · rw [ha.far_eq f]; rfl
  · have f' : a.far = false := by simpa using f
    rw [negF_fin f']
    exact addF_opp f' rfl ⟨rfl, by rw [Int.add_comm]; exact neg_dvd p a.y⟩

theorem negF_add_self (h : Cv p A B) {a : Pt} (ha : On p A B a) : addF p A (negF p a) a = farP := by
  rw [addF_comm h (negF_on (by have := h.five; omega) ha) ha, add_negF h ha]

theorem negF_negF (h5 : 0 < p) {a : Pt} (ha : On p A B a) : negF p (negF p a) = a := by
  by_cases f : a.far = true
  · rw [ha.far_eq f]; rfl
  · have f' : a.far = false := by simpa using f
    rw [negF_fin f', negF_fin rfl]
    refine Pt.ext' rfl ?_ f'.symm
    have k := ha.aff f'
    have h1 := neg_dvd p a.y
    have h2 := neg_dvd p ((-a.y) % p)
    simp only
    refine eq_of_dvd (Int.emod_nonneg _ (by omega)) (Int.emod_lt_of_pos _ (by omega)) k.y0 k.y1 ?_
    generalize (-a.y) % (p : Int) = z at *
    generalize (-z) % (p : Int) = u at *
    exact comb2 h2 h1 1 (-1) (by grind)

/-- Two that are each other's other side. -/
theorem opp_eq (h5 : 0 < p) {a b : Pt} (fa : a.far = false) (fb : b.far = false) (ha : Aff p A B a.x a.y) (hb : Aff p A B b.x b.y) (h : Opp p a.x a.y b.x b.y) : b = negF p a := by
  rw [negF_fin fa]
  refine Pt.ext' h.1.symm ?_ fb
  simp only
  refine eq_of_dvd hb.y0 hb.y1 (Int.emod_nonneg _ (by omega)) (Int.emod_lt_of_pos _ (by omega)) ?_
  have h1 := neg_dvd p a.y
  have h2 := h.2
  generalize (-a.y) % (p : Int) = z at *
  exact comb2 h2 h1 1 (-1) (by grind)

/-- The slope of the other sides. -/
theorem Slope.neg {x1 y1 x2 y2 l z1 z2 : Int} (h : Slope p A x1 y1 x2 y2 l) (h1 : (p : Int) ∣ z1 + y1) (h2 : (p : Int) ∣ z2 + y2) : Slope p A x1 z1 x2 z2 (-l) :=
  ⟨comb3 h.s1 h1 h2 (-1) 1 (-1) (by grind), comb3 h.s2 h1 h2 1 (-l) (-l) (by grind)⟩

theorem Opp.neg {x1 y1 x2 y2 z1 z2 : Int} (h : Opp p x1 z1 x2 z2) (h1 : (p : Int) ∣ z1 + y1) (h2 : (p : Int) ∣ z2 + y2) : Opp p x1 y1 x2 y2 := by
  have h3 := h.2
  exact ⟨h.1, comb3 h3 h1 h2 (-1) 1 1 (by grind)⟩

/-- The other side of a sum. -/
theorem negF_addF (h : Cv p A B) {a b : Pt} (ha : On p A B a) (hb : On p A B b) : negF p (addF p A a b) = addF p A (negF p a) (negF p b) := by
  have h5 : 0 < p := by have := h.five; omega
  by_cases fa : a.far = true
  · rw [ha.far_eq fa]; rfl
  · have fa' : a.far = false := by simpa using fa
    by_cases fb : b.far = true
    · rw [hb.far_eq fb, addF_far_right ha, negF_far, addF_far_right (negF_on h5 ha)]
    · have fb' : b.far = false := by simpa using fb
      have ka := ha.aff fa'
      have kb := hb.aff fb'
      have d1 := neg_dvd p a.y
      have d2 := neg_dvd p b.y
      by_cases ho : Opp p a.x a.y b.x b.y
      · rw [addF_opp fa' fb' ho, negF_far, negF_fin fa', negF_fin fb', addF_opp rfl rfl ?_]
        have h3 := ho.2
        exact ⟨ho.1, comb3 h3 d1 d2 (-1) 1 1 (by grind)⟩
      · have hs := slope_ok h ka kb ho
        rw [addF_third h fa' fb' ka kb ho hs, negF_fin fa', negF_fin fb',
          addF_third h (a := ⟨a.x, (-a.y) % p, false⟩) (b := ⟨b.x, (-b.y) % p, false⟩) rfl rfl (neg_aff h5 ka) (neg_aff h5 kb) (fun k => ho (k.neg d1 d2)) (hs.neg d1 d2)]
        generalize slopeF p A a b = l at *
        rw [negF_fin rfl]
        simp only
        have ex : (third p a.x a.y b.x l).x = (third p a.x ((-a.y) % p) b.x (-l)).x := mod_eq ⟨0, by grind⟩
        refine Pt.ext' ex ?_ rfl
        simp only
        have e1 := third_y p a.x a.y b.x l
        have e2 := third_y p a.x ((-a.y) % p) b.x (-l)
        rw [← ex] at e2
        have e3 := neg_dvd p (third p a.x a.y b.x l).y
        refine eq_of_dvd (Int.emod_nonneg _ (by omega)) (Int.emod_lt_of_pos _ (by omega)) (Int.emod_nonneg _ (by omega)) (Int.emod_lt_of_pos _ (by omega)) ?_
        generalize (third p a.x ((-a.y) % p) b.x (-l)).y = u at *
        generalize (third p a.x a.y b.x l).y = v at *
        generalize (third p a.x a.y b.x l).x = z at *
        generalize (-v) % (p : Int) = v' at *
        generalize (-a.y) % (p : Int) = y' at *
        exact comb4 e1 e2 e3 d1 (-1) (-1) 1 1 (by grind)

/-- No sum with a point that is not far is what it was. -/
theorem no_fix (h : Cv p A B) {x1 y1 x2 y2 l : Int} (ha : Aff p A B x1 y1) (hb : Aff p A B x2 y2) (hs : Slope p A x1 y1 x2 y2 l) (hx : (p : Int) ∣ x1 - (l * l - x1 - x2)) (hy : (p : Int) ∣ y1 - (l * (x1 - x1) - y1)) : False := by
  have h1 : (p : Int) ∣ y1 := h.two (comb1 hy 1 (by grind))
  have h2 : (p : Int) ∣ 3 * x1 * x1 + A := comb4 h1 hs.s1 hs.s2 hx (2 * l) (-l) (-1) (x1 - x2) (by grind)
  exact h.disc (comb3 h1 ha.on h2 (-27 * y1 * (A * x1 - B + x1 * x1 * x1)) (27 * (A * x1 - B + x1 * x1 * x1)) (4 * A * A + 15 * A * x1 * x1 + 9 * x1 * x1 * x1 * x1) (by grind))

/-- The slope back. -/
theorem Slope.back {x1 y1 x2 y2 x3 y3 z1 l : Int} (h : Slope p A x1 y1 x2 y2 l) (hx : (p : Int) ∣ x3 - (l * l - x1 - x2)) (hy : (p : Int) ∣ y3 - (l * (x1 - x3) - y1)) (hz : (p : Int) ∣ z1 + y1) : Slope p A x1 z1 x3 y3 (-l) :=
  ⟨comb2 hz hy 1 (-1) (by grind), comb5 hz hy h.s2 h.s1 hx (-l) (-l) 1 l (x2 - x3) (by grind)⟩

/-- What is added is taken away by the other side. -/
theorem addF_cancel (h : Cv p A B) {a b : Pt} (ha : On p A B a) (hb : On p A B b) : addF p A (negF p a) (addF p A a b) = b := by
  have h5 : 0 < p := by have := h.five; omega
  by_cases fa : a.far = true
  · rw [ha.far_eq fa]; rfl
  · have fa' : a.far = false := by simpa using fa
    by_cases fb : b.far = true
    · rw [hb.far_eq fb, addF_far_right ha, negF_add_self h ha]
    · have fb' : b.far = false := by simpa using fb
      have ka := ha.aff fa'
      have kb := hb.aff fb'
      have d1 := neg_dvd p a.y
      by_cases ho : Opp p a.x a.y b.x b.y
      · rw [addF_opp fa' fb' ho, addF_far_right (negF_on h5 ha), opp_eq h5 fa' fb' ka kb ho]
      · have hs := slope_ok h ka kb ho
        have hc := third_on h5 ka hs
        rw [addF_third h fa' fb' ka kb ho hs, negF_fin fa']
        have hx := third_x p a.x a.y b.x (slopeF p A a b)
        have hy := third_y p a.x a.y b.x (slopeF p A a b)
        have hf : (third p a.x a.y b.x (slopeF p A a b)).far = false := rfl
        generalize slopeF p A a b = l at *
        generalize third p a.x a.y b.x l = c at *
        have hno : ¬ Opp p a.x ((-a.y) % p) c.x c.y := by
          intro k
          have kx := k.1
          have ky := k.2
          generalize (-a.y) % (p : Int) = z at *
          rw [← kx] at hx hy
          refine no_fix h ka kb hs hx ?_
          exact comb3 ky d1 hy (-1) 1 1 (by grind)
        rw [addF_third h (a := ⟨a.x, (-a.y) % p, false⟩) rfl hf (neg_aff h5 ka) hc hno (hs.back hx hy d1)]
        have s1 := hs.s1
        generalize (-a.y) % (p : Int) = z at *
        have ex : (third p a.x z c.x (-l)).x = b.x := by
          refine eq_of_dvd (Int.emod_nonneg _ (by omega)) (Int.emod_lt_of_pos _ (by omega)) kb.x0 kb.x1 ?_
          have := third_x p a.x z c.x (-l)
          generalize (third p a.x z c.x (-l)).x = u at *
          exact comb2 this hx 1 (-1) (by grind)
        refine Pt.ext' ex ?_ fb'.symm
        refine eq_of_dvd (Int.emod_nonneg _ (by omega)) (Int.emod_lt_of_pos _ (by omega)) kb.y0 kb.y1 ?_
        have := third_y p a.x z c.x (-l)
        rw [ex] at this
        generalize (third p a.x z c.x (-l)).y = v at *
        exact comb3 this d1 s1 1 (-1) 1 (by grind)

/-- Sums of three, no two of which nor of their sums are each other's other side. -/
theorem assoc_far_apart (h : Cv p A B) {a b c : Pt} (fa : a.far = false) (fb : b.far = false) (fc : c.far = false) (ka : Aff p A B a.x a.y) (kb : Aff p A B b.x b.y) (kc : Aff p A B c.x c.y)
    (hab : ¬ Opp p a.x a.y b.x b.y) (hbc : ¬ Opp p b.x b.y c.x c.y) (hne : a ≠ c) (h4 : addF p A a b ≠ negF p c) (h5 : addF p A b c ≠ negF p a) :
    addF p A (addF p A a b) c = addF p A a (addF p A b c) := by
  have hp : 0 < p := by have := h.five; omega
  have hs := slope_ok h ka kb hab
  have ht := slope_ok h kb kc hbc
  rw [addF_third h fa fb ka kb hab hs] at h4 ⊢
  rw [addF_third h fb fc kb kc hbc ht] at h5 ⊢
  have k4 := third_on hp ka hs
  have k5 := third_on hp kb ht
  have x4 := third_x p a.x a.y b.x (slopeF p A a b)
  have y4 := third_y p a.x a.y b.x (slopeF p A a b)
  have x5 := third_x p b.x b.y c.x (slopeF p A b c)
  have y5 := third_y p b.x b.y c.x (slopeF p A b c)
  have f4 : (third p a.x a.y b.x (slopeF p A a b)).far = false := rfl
  have f5 : (third p b.x b.y c.x (slopeF p A b c)).far = false := rfl
  generalize slopeF p A a b = l at *
  generalize slopeF p A b c = m at *
  generalize third p a.x a.y b.x l = d at *
  generalize third p b.x b.y c.x m = e at *
  have o4 : ¬ Opp p d.x d.y c.x c.y := fun k => h4 (opp_eq hp fc f4 kc k4 k.swap)
  have o5 : ¬ Opp p a.x a.y e.x e.y := fun k => h5 (opp_eq hp fa f5 ka k5 k)
  have s1 := hs.s1
  have s2 := hs.s2
  have t1 := ht.s1
  have t2 := ht.s2
  -- the two slopes part
  have hd : ¬ (p : Int) ∣ m - l := by
    intro hd
    have e1 : (p : Int) ∣ (c.x - a.x) * (a.x + b.x + c.x - l * l) := comb5 s2 t2 s1 t1 hd (1) (-1) (-l) (-m) (2 * b.y + (m + l) * (c.x - b.x)) (by grind)
    rcases h.prime.dvd_mul_int e1 with e2 | e2
    · have ex : c.x = a.x := eq_of_dvd kc.x0 kc.x1 ka.x0 ka.x1 e2
      apply hne
      refine Pt.ext' ex.symm ?_ (fa.trans fc.symm)
      rw [ex] at t1
      refine eq_of_dvd ka.y0 ka.y1 kc.y0 kc.y1 ?_
      exact comb3 s1 t1 hd 1 1 (b.x - a.x) (by grind)
    · have ex : d.x = c.x := eq_of_dvd k4.x0 k4.x1 kc.x0 kc.x1 (comb2 x4 e2 1 (-1) (by grind))
      refine o4 ⟨ex, ?_⟩
      rw [ex] at y4
      exact comb4 y4 s1 t1 hd 1 (-1) (-1) (c.x - b.x) (by grind)
  obtain ⟨t, ht⟩ : ∃ t, (p : Int) ∣ t * (m - l) - (c.x - a.x) := by
    refine ⟨(c.x - a.x) * iv p (m - l), ?_⟩
    have := iv_spec h.prime hd
    generalize iv p (m - l) = i at *
    exact comb1 this (c.x - a.x) (by grind)
  have hR : (p : Int) ∣ 2 * b.y - (t * (a.x + b.x + c.x) - (m + l) * (a.x - b.x) - m * m * t) := by
    have : (p : Int) ∣ (m - l) * (2 * b.y - (t * (a.x + b.x + c.x) - (m + l) * (a.x - b.x) - m * m * t)) :=
      comb5 t2 s2 t1 s1 ht 1 (-1) m l (m * m - a.x - b.x - c.x) (by grind)
    exact (h.prime.dvd_mul_int this).resolve_left hd
  have n1 : Slope p A d.x d.y c.x c.y (t - l) := by
    constructor
    · exact comb6 y4 x4 ht s1 t1 hR 1 (-t) (l + m) (-1) 1 (-1) (by grind)
    · have g := Int.dvd_add (comb6 y4 x4 ht s2 s1 t1 (-l + t) (-l * t + a.x + b.x - c.x - d.x) (l * l + l * m - b.x + c.x) 1 (-t) (l - t) rfl) (comb1 hR (-l) rfl)
      exact comb1 g 1 (by grind)
  have n2 : Slope p A a.x a.y e.x e.y (t - m) := by
    constructor
    · exact comb4 y5 x5 s1 hR (-1) t 1 1 (by grind)
    · exact comb6 y5 x5 ht s2 s1 hR (-m + t) (-m * t - a.x + b.x + c.x - e.x) (-(m * m) + 2 * b.x + c.x) 1 (-l - m + t) (-l) (by grind)
  rw [addF_third h f4 fc k4 kc o4 n1, addF_third h fa f5 ka k5 o5 n2]
  refine third_congr (y2 := 0) ?_ ?_
  · exact comb3 x4 x5 ht (-1) 1 2 (by grind)
  · have x6 := third_x p d.x d.y c.x (t - l)
    generalize (third p d.x d.y c.x (t - l)).x = z at *
    have g := Int.dvd_add (comb6 x6 y4 x4 ht s1 hR (l - m) (-1) (-l + m + t) (l - m - t) 2 1 rfl) (comb1 t1 0 rfl)
    exact comb1 g 1 (by grind)

/-- Sums may be put together otherwise. -/
theorem addF_assoc (h : Cv p A B) {a b c : Pt} (ha : On p A B a) (hb : On p A B b) (hc : On p A B c) : addF p A (addF p A a b) c = addF p A a (addF p A b c) := by
  have hp : 0 < p := by have := h.five; omega
  by_cases fa : a.far = true
  · rw [ha.far_eq fa]; rfl
  have fa' : a.far = false := by simpa using fa
  by_cases fb : b.far = true
  · rw [hb.far_eq fb, addF_far_right ha]; rfl
  have fb' : b.far = false := by simpa using fb
  by_cases fc : c.far = true
  · rw [hc.far_eq fc, addF_far_right (addF_on h ha hb), addF_far_right hb]
  have fc' : c.far = false := by simpa using fc
  have na := negF_on hp ha
  have nb := negF_on hp hb
  have nc := negF_on hp hc
  by_cases hab : Opp p a.x a.y b.x b.y
  · rw [addF_opp fa' fb' hab]
    have e := opp_eq hp fb' fa' (hb.aff fb') (ha.aff fa') hab.swap
    show c = _
    rw [e, addF_cancel h hb hc]
  by_cases hbc : Opp p b.x b.y c.x c.y
  · rw [addF_opp fb' fc' hbc, addF_far_right ha]
    have e := opp_eq hp fb' fc' (hb.aff fb') (hc.aff fc') hbc
    rw [e, addF_comm h (addF_on h ha hb) nb, addF_comm h ha hb, addF_cancel h hb ha]
  by_cases hac : a = c
  · subst hac
    rw [addF_comm h (addF_on h ha hb) ha, addF_comm h ha hb]
  by_cases h4 : addF p A a b = negF p c
  · have e : addF p A b c = negF p a := by
      have e1 : c = negF p (addF p A a b) := by rw [h4, negF_negF hp hc]
      rw [e1, addF_comm h ha hb, negF_addF h hb ha]
      have := addF_cancel h nb na
      rwa [negF_negF hp hb] at this
    rw [h4, e, negF_add_self h hc, add_negF h ha]
  by_cases h5 : addF p A b c = negF p a
  · have e : addF p A a b = negF p c := by
      have e1 : a = negF p (addF p A b c) := by rw [h5, negF_negF hp ha]
      rw [e1, negF_addF h hb hc, addF_comm h (addF_on h nb nc) hb]
      have := addF_cancel h nb nc
      rwa [negF_negF hp hb] at this
    exact absurd e h4
  exact assoc_far_apart h fa' fb' fc' (ha.aff fa') (hb.aff fb') (hc.aff fc') hab hbc hac h4 h5

/-- A point taken n times. -/
def nF (p : Nat) (A : Int) : Nat → Pt → Pt
  | 0, _ => farP
  | n + 1, a => addF p A (nF p A n a) a

theorem nF_on (h : Cv p A B) {a : Pt} (ha : On p A B a) (n : Nat) : On p A B (nF p A n a) := by
  induction n with
  | zero => exact on_far _ _ _
  | succ n ih => exact addF_on h ih ha

theorem nF_add (h : Cv p A B) {a : Pt} (ha : On p A B a) (m n : Nat) : nF p A (m + n) a = addF p A (nF p A m a) (nF p A n a) := by
  induction n with
  | zero => exact (addF_far_right (nF_on h ha m)).symm
  | succ n ih =>
    show addF p A (nF p A (m + n) a) a = addF p A (nF p A m a) (addF p A (nF p A n a) a)
    rw [ih, addF_assoc h (nF_on h ha m) (nF_on h ha n) ha]

theorem nF_mul (h : Cv p A B) {a : Pt} (ha : On p A B a) (m n : Nat) : nF p A m (nF p A n a) = nF p A (m * n) a := by
  induction m with
  | zero => rw [Nat.zero_mul]; rfl
  | succ m ih => rw [Nat.succ_mul, nF_add h ha, ← ih]; rfl

theorem nF_far (n : Nat) : nF p A n farP = farP := by
  induction n with
  | zero => rfl
  | succ n ih => show addF p A (nF p A n farP) farP = farP; rw [ih]; rfl

/-- A multiple by doubling, as the model and the program reckon it. -/
def mulAcc (p : Nat) (A : Int) : Nat → Nat → Pt → Pt → Pt
  | 0, _, o, _ => o
  | f + 1, n, o, a => mulAcc p A f (n / 2) (if n % 2 = 1 then addF p A o a else o) (addF p A a a)

def mulF (p : Nat) (A : Int) (n : Nat) (a : Pt) : Pt := mulAcc p A 64 n farP a

theorem mulAcc_eq (h : Cv p A B) : ∀ (f n : Nat) (o a : Pt), On p A B o → On p A B a → n < 2 ^ f → mulAcc p A f n o a = addF p A o (nF p A n a) := by
  intro f
  induction f with
  | zero =>
    intro n o a ho ha hn
    obtain rfl : n = 0 := by simpa using hn
    exact (addF_far_right ho).symm
  | succ f ih =>
    intro n o a ho ha hn
    have h2 : n / 2 < 2 ^ f := by rw [Nat.pow_succ] at hn; omega
    have haa := addF_on h ha ha
    have e2 : nF p A (n / 2) (addF p A a a) = nF p A (n / 2 * 2) a := by
      have := nF_mul h ha (n / 2) 2
      rwa [show nF p A 2 a = addF p A a a from rfl] at this
    rw [mulAcc]
    by_cases hodd : n % 2 = 1
    · rw [if_pos hodd, ih _ _ _ (addF_on h ho ha) haa h2, e2, addF_assoc h ho ha (nF_on h ha _)]
      congr 1
      rw [addF_comm h ha (nF_on h ha _)]
      show nF p A (n / 2 * 2 + 1) a = _
      rw [show n / 2 * 2 + 1 = n by omega]
    · rw [if_neg hodd, ih _ _ _ ho haa h2, e2, show n / 2 * 2 = n by omega]

theorem mulF_eq (h : Cv p A B) {n : Nat} (hn : n < 2 ^ 64) {a : Pt} (ha : On p A B a) : mulF p A n a = nF p A n a := by
  unfold mulF
  rw [mulAcc_eq h 64 n farP a (on_far _ _ _) ha hn]
  rfl

theorem mulF_on (h : Cv p A B) {n : Nat} (hn : n < 2 ^ 64) {a : Pt} (ha : On p A B a) : On p A B (mulF p A n a) := by
  rw [mulF_eq h hn ha]; exact nF_on h ha n

end

end Go.Proofs.YtdaneanloknkpacGreatDoor
