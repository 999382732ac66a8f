/- Walks: curves of the model: l3On, l3Add, l3Mul, CurveOk, PointOk. Walks: sums and multiples of points in the model: l3Add, l3Mul. -/
import Derived.Test.YtollgoadgjlccaaGreatDoorChecked
import Derived.Lib.QuietBelow
import Derived.Test.YtollgoadgjlccaaGreatDoorCz01
import Derived.Test.YtollgoadgjlccaaGreatDoorCz04
import Derived.Test.YtollgoadgjlccaaGreatDoorCz05
import Derived.Test.YtollgoadgjlccaaGreatDoorCz06
namespace Go.Proofs.YtollgoadgjlccaaGreatDoor

section
set_option linter.unusedVariables false

open Go.RowKit

/-- A call's answer is whether a is a point of the curve. -/
def GivesOn (p : Int) (A B : Int) (a : Pt) (r : Ending) : Prop := ∃ ok : Bool, r = .returned (.bool ok) ∧ (0 ≤ A → (ok = true ↔ On p.toNat A B a)) ∧ (ok = true → a.far = false → 0 ≤ a.x ∧ a.x < p ∧ 0 ≤ a.y ∧ a.y < p)

theorem mulBd {x y p q : Int} (hx0 : 0 ≤ x) (hx : x ≤ p) (hy0 : 0 ≤ y) (hy : y ≤ q) : 0 ≤ x * y ∧ x * y ≤ p * q :=
  ⟨Int.mul_nonneg hx0 hy0, Int.mul_le_mul hx hy hy0 (by omega)⟩

theorem givesOn_no {p A B x y : Int} (h : ¬ (0 ≤ x ∧ x ≤ p - 1 ∧ 0 ≤ y ∧ y ≤ p - 1)) (hp : 0 ≤ p) : GivesOn p A B ⟨x, y, false⟩ (.returned (.bool false)) := by
  refine ⟨false, rfl, fun _ => ⟨fun k => by simp at k, fun k => ?_⟩, fun k => by simp at k⟩
  have k1 := k.aff rfl
  have a1 := k1.x0; have a2 := k1.x1; have a3 := k1.y0; have a4 := k1.y1
  simp only at a1 a2 a3 a4
  exact absurd ⟨a1, by omega, a3, by omega⟩ h

theorem givesOn_far {p A B x y : Int} {ok : Bool} (h : ok = true ↔ x = 0 ∧ y = 0) : GivesOn p A B ⟨x, y, true⟩ (.returned (.bool ok)) := by
  refine ⟨ok, rfl, fun _ => ?_, fun _ k => by simp at k⟩
  rw [h]
  constructor
  · rintro ⟨rfl, rfl⟩; exact Or.inl ⟨rfl, rfl, rfl⟩
  · rintro (⟨_, h1, h2⟩ | ⟨h, _⟩)
    · exact ⟨h1, h2⟩
    · simp at h

/-- The curve's equation, as the model reckons it. -/
theorem on_model {p A B x y : Int} (hp : 0 < p) : y * y % p = ((x * x % p + A) * x + B) % p ↔ p ∣ y * y - (x * x * x + A * x + B) := by
  have h1 := mod_dvd p (x * x)
  constructor
  · intro h
    have h2 := Int.dvd_of_emod_eq_zero (Int.emod_eq_emod_iff_emod_sub_eq_zero.1 h)
    generalize x * x % p = q at *
    exact comb2 h2 h1 1 x (by grind)
  · intro h
    apply mod_eq
    generalize x * x % p = q at *
    exact comb2 h h1 1 (-x) (by grind)

theorem givesOn_eq {p A B x y : Int} (hx0 : 0 ≤ x) (hx : x ≤ p - 1) (hy0 : 0 ≤ y) (hy : y ≤ p - 1) (hB : 0 ≤ B) {ok : Bool} (h : ok = (y * y % p == Int.tmod ((x * x % p + A) * x + B) p)) : GivesOn p A B ⟨x, y, false⟩ (.returned (.bool ok)) := by
  refine ⟨ok, rfl, fun hA => ?_, fun _ _ => ⟨hx0, by simp only; omega, hy0, by simp only; omega⟩⟩
  have hm := Int.emod_nonneg (x * x) (show p ≠ 0 by omega)
  have hn : 0 ≤ (x * x % p + A) * x + B := Int.add_nonneg (Int.mul_nonneg (by omega) hx0) hB
  rw [Int.tmod_eq_emod_of_nonneg hn] at h
  rw [h, beq_iff_eq, on_model (by omega)]
  have e : ((p.toNat : Nat) : Int) = p := by omega
  constructor
  · intro hd
    exact Or.inr ⟨rfl, ⟨hx0, by simp only; omega, hy0, by simp only; omega, by rw [e]; exact hd⟩⟩
  · intro hd
    have := (hd.aff rfl).on
    rwa [e] at this

set_option maxHeartbeats 800000 in
theorem l3On_any (p A B N gx gy x y : Int) (f : Bool) (w : World) (hp0 : 0 ≤ p) (hp : p ≤ 2097152) (hA0 : -1 ≤ A) (hA : A ≤ 2097152) (hB0 : 0 ≤ B) (hB : B ≤ 2097152) :
    Calls Tryz.prog 134 #[.agg #[.int .i64 p, .int .i64 A, .int .i64 B, .int .i64 N, .int .i64 gx, .int .i64 gy], .agg #[.int .i64 x, .int .i64 y, .bool f]] w fun r w' => GivesOn p A B ⟨x, y, f⟩ r ∧ Below w.heap.size w w' := by
  cases f
  · by_cases c1 : 0 ≤ x ∧ x ≤ p - 1
    · have hin : (decide ((0 : Int) ≤ x) && decide (x ≤ p - 1)) = true := by simp; omega
      by_cases c2 : 0 ≤ y ∧ y ≤ p - 1
      · have hin2 : (decide ((0 : Int) ≤ y) && decide (y ≤ p - 1)) = true := by simp; omega
        obtain ⟨x0, x1⟩ := c1
        obtain ⟨y0, y1⟩ := c2
        have Hy : Hid (∀ ok : Bool, ok = (y * y % p == Int.tmod ((x * x % p + A) * x + B) p) → GivesOn p A B ⟨x, y, false⟩ (.returned (.bool ok))) := fun ok h => givesOn_eq x0 x1 y0 y1 hB0 h
        have pp : 0 < p := by omega
        obtain ⟨a0, a1⟩ := mulBd y0 (show y ≤ 2097152 by omega) y0 (show y ≤ 2097152 by omega)
        obtain ⟨b0, b1⟩ := mulBd x0 (show x ≤ 2097152 by omega) x0 (show x ≤ 2097152 by omega)
        have m0 := Int.emod_nonneg (x * x) (show p ≠ 0 by omega)
        have m1 := Int.emod_lt_of_pos (x * x) pp
        have z : -2097152 ≤ (x * x % p + A) * x ∧ (x * x % p + A) * x ≤ 8796093022208 := by
          generalize x * x % p = q at *
          have h1 := mulBd (show 0 ≤ q + A + 1 by omega) (show q + A + 1 ≤ 4194304 by omega) x0 (show x ≤ 2097152 by omega)
          rw [Int.add_mul, Int.one_mul] at h1
          omega
        obtain ⟨z0, z1⟩ := z
        go_enter Tryz.func134, Tryz.ntmps134
        go_wp2_with fail
        refine (l1In_int _ _ _ _).mono ?_
        rintro r w' ⟨rfl, hw⟩
        subst hw
        rw [hin]
        go_wp2_with fail
        refine (l1In_int _ _ _ _).mono ?_
        rintro r w' ⟨rfl, hw⟩
        subst hw
        rw [hin2]
        clear hin hin2
        go_wp2
        go_quiet (fail)
        go_wp2
        go_ret
        exact ⟨Hy.out _ rfl, below_drewN (((Below.refl _ _).alloc (Nat.le_refl _) _).alloc (by simp) _) _⟩
      · have hin2 : (decide ((0 : Int) ≤ y) && decide (y ≤ p - 1)) = false := by simp; omega
        have Hno : Hid (GivesOn p A B ⟨x, y, false⟩ (.returned (.bool false))) := givesOn_no (fun h => c2 ⟨h.2.2.1, h.2.2.2⟩) hp0
        go_enter Tryz.func134, Tryz.ntmps134
        go_wp2_with fail
        refine (l1In_int _ _ _ _).mono ?_
        rintro r w' ⟨rfl, hw⟩
        subst hw
        rw [hin]
        go_wp2_with fail
        refine (l1In_int _ _ _ _).mono ?_
        rintro r w' ⟨rfl, hw⟩
        subst hw
        rw [hin2]
        clear hin hin2
        go_wp2
        go_ret
        exact ⟨Hno.out, ((Below.refl _ _).alloc (Nat.le_refl _) _).alloc (by simp) _⟩
    · have hin : (decide ((0 : Int) ≤ x) && decide (x ≤ p - 1)) = false := by simp; omega
      have Hno : Hid (GivesOn p A B ⟨x, y, false⟩ (.returned (.bool false))) := givesOn_no (fun h => c1 ⟨h.1, h.2.1⟩) hp0
      go_enter Tryz.func134, Tryz.ntmps134
      go_wp2_with fail
      refine (l1In_int _ _ _ _).mono ?_
      rintro r w' ⟨rfl, hw⟩
      subst hw
      rw [hin]
      clear hin
      go_wp2
      go_ret
      exact ⟨Hno.out, ((Below.refl _ _).alloc (Nat.le_refl _) _).alloc (by simp) _⟩
  · by_cases cx : x = 0
    · by_cases cy : y = 0
      · subst cx cy
        go_enter Tryz.func134, Tryz.ntmps134
        go_wp2
        go_ret
        exact ⟨givesOn_far (by simp), ((Below.refl _ _).alloc (Nat.le_refl _) _).alloc (by simp) _⟩
      · have hb : (y == 0) = false := by simpa using cy
        have Hno : Hid (GivesOn p A B ⟨0, y, true⟩ (.returned (.bool false))) := givesOn_far (by simp [cy])
        subst cx
        go_enter Tryz.func134, Tryz.ntmps134
        go_wp2
        go_ret
        exact ⟨Hno.out, ((Below.refl _ _).alloc (Nat.le_refl _) _).alloc (by simp) _⟩
    · have hb : (x == 0) = false := by simpa using cx
      have Hno : Hid (GivesOn p A B ⟨x, y, true⟩ (.returned (.bool false))) := givesOn_far (by simp [cx])
      go_enter Tryz.func134, Tryz.ntmps134
      go_wp2
      go_ret
      exact ⟨Hno.out, ((Below.refl _ _).alloc (Nat.le_refl _) _).alloc (by simp) _⟩
end

section
set_option linter.unusedVariables false

open Go.RowKit

/-- A point as the program has it. -/
def ptV (a : Pt) : Value := .agg #[.int .i64 a.x, .int .i64 a.y, .bool a.far]

theorem iv_of_isInv {p : Nat} (hp : Prime p) (h3 : 3 ≤ p) {a v : Int} {ok : Bool} (h : IsInv p (invR a p) v ok) : v = iv p a := by
  have hr := invR_lt (a := a) (m := (p : Int)) (by omega)
  rw [Int.toNat_natCast] at hr
  obtain ⟨h1, h2⟩ := hr
  have hi := iv_range (show 0 < p by omega) a
  by_cases hd : (p : Int) ∣ a
  · rw [iv_zero h3 hd]
    have e0 : invR a p = 0 := by
      have := Int.emod_eq_zero_of_dvd hd
      rw [h2] at this
      omega
    apply h.no
    have k := h.dec
    simp only [e0, Nat.gcd_zero_right] at k
    rw [k]
    simp; omega
  · have hs := iv_spec hp hd
    have e1 : ¬ p ∣ invR a p := by
      intro k
      apply hd
      have k2 : (p : Int) ∣ a % p := by rw [h2]; exact Int.ofNat_dvd.2 k
      have k3 := Int.dvd_sub k2 (mod_dvd (p : Int) a)
      rwa [show a % (p : Int) - (a % p - a) = a by omega] at k3
    have hg : ok = true := by rw [h.dec]; simpa using hp.coprime e1
    obtain ⟨v0, v1, v2⟩ := h.yes hg
    rw [← h2] at v2
    have d1 : (p : Int) ∣ v * (a % p) - 1 := by
      have := mod_dvd (p : Int) (v * (a % p))
      rw [v2] at this
      have := Int.dvd_neg.2 this
      rwa [show -(1 - v * (a % (p : Int))) = v * (a % p) - 1 by omega] at this
    have d2 := mod_dvd (p : Int) a
    refine eq_of_dvd v0 v1 hi.1 hi.2 ?_
    have d3 : (p : Int) ∣ a * (v - iv p a) := by
      generalize iv p a = i at *
      generalize a % (p : Int) = r at *
      exact comb3 d1 hs d2 1 (-1) (-v) (by grind)
    exact (hp.dvd_mul_int d3).resolve_left hd

theorem l2Inv_iv (a : Int) (p : Nat) (w : World) (h0 : -9223372036854775808 ≤ a) (h1 : a ≤ 9223372036854775807) (hp : Prime p) (h3 : 3 ≤ p) (hm : p ≤ 1073741824) :
    Calls Tryz.prog 193 #[.int .i64 a, .int .i64 (p : Int)] w fun r w' => r = .returned (.int .i64 (iv p a)) ∧ ∃ q, w' = w.drewN q := by
  refine (l2Inv_any a p w h0 h1 (by omega) hm).mono ?_
  rintro r w' ⟨⟨v, rfl, hI, _⟩, hq⟩
  rw [iv_of_isInv hp h3 hI]
  exact ⟨rfl, hq⟩

theorem tmod_bd (a : Int) {p : Int} (hp : 0 < p) : -p < Int.tmod a p ∧ Int.tmod a p < p := ⟨Int.lt_tmod_of_pos a hp, Int.tmod_lt_of_pos a hp⟩

theorem tmod_dvd (p a : Int) : p ∣ Int.tmod a p - a := by
  have := Int.tmod_add_mul_tdiv a p
  exact ⟨-(Int.tdiv a p), by rw [Int.mul_neg]; omega⟩

theorem abs_mul {T v p : Int} (hp : p ≤ 2097152) (h0 : -p < T) (h1 : T < p) (v0 : -p < v) (v1 : v < p) : -4398046511104 ≤ T * v ∧ T * v ≤ 4398046511104 := by
  have e1 := mulBd (show 0 ≤ T + p by omega) (show T + p ≤ 4194304 by omega) (show 0 ≤ v + p by omega) (show v + p ≤ 4194304 by omega)
  have e2 := mulBd (show 0 ≤ p - T by omega) (show p - T ≤ 4194304 by omega) (show 0 ≤ v + p by omega) (show v + p ≤ 4194304 by omega)
  rcases Int.le_total 0 T with hT | hT
  · rcases Int.le_total 0 v with hv | hv
    · have := mulBd hT (show T ≤ 2097152 by omega) hv (show v ≤ 2097152 by omega); omega
    · have := mulBd hT (show T ≤ 2097152 by omega) (show 0 ≤ -v by omega) (show -v ≤ 2097152 by omega)
      rw [Int.mul_neg] at this; omega
  · rcases Int.le_total 0 v with hv | hv
    · have := mulBd (show 0 ≤ -T by omega) (show -T ≤ 2097152 by omega) hv (show v ≤ 2097152 by omega)
      rw [Int.neg_mul] at this; omega
    · have := mulBd (show 0 ≤ -T by omega) (show -T ≤ 2097152 by omega) (show 0 ≤ -v by omega) (show -v ≤ 2097152 by omega)
      rw [Int.neg_mul_neg] at this; omega

theorem sq_bd {T p : Int} (hp : p ≤ 2097152) (h0 : -p < T) (h1 : T < p) : 0 ≤ T * T ∧ T * T ≤ 4398046511104 := by
  refine ⟨?_, (abs_mul hp h0 h1 h0 h1).2⟩
  rcases Int.le_total 0 T with hT | hT
  · exact Int.mul_nonneg hT hT
  · have := Int.mul_nonneg (show 0 ≤ -T by omega) (show 0 ≤ -T by omega)
    rwa [Int.neg_mul_neg] at this

/-- The third point by whatever number that leaves the slope. -/
theorem third_of {p : Nat} {x1 y1 x2 S l : Int} (h : (p : Int) ∣ S - l) : third p x1 y1 x2 l = ⟨(S * S - x1 - x2) % p, (S * (x1 - (S * S - x1 - x2) % p) - y1) % p, false⟩ := by
  symm
  refine third_congr (y2 := 0) (comb1 h (S + l) (by grind)) ?_
  generalize (third p x1 y1 x2 S).x = z at *
  exact comb1 h (x1 - z) (by grind)

theorem slope_tan {p : Nat} {A x y y' : Int} {f f' : Bool} : (p : Int) ∣ Int.tmod (Int.tmod (3 * x % p * x + A) p * iv p (2 * y)) p - slopeF p A ⟨x, y, f⟩ ⟨x, y', f'⟩ := by
  unfold slopeF
  simp only [if_pos]
  generalize iv p (2 * y) = i
  have e1 := tmod_dvd (p : Int) (Int.tmod (3 * x % p * x + A) p * i)
  have e2 := tmod_dvd (p : Int) (3 * x % p * x + A)
  have e3 := mod_dvd (p : Int) (3 * x)
  have e4 := mod_dvd (p : Int) ((3 * x * x + A) * i)
  generalize Int.tmod (Int.tmod (3 * x % p * x + A) p * i) p = S at *
  generalize Int.tmod (3 * x % p * x + A) p = T at *
  generalize 3 * x % (p : Int) = u at *
  generalize (3 * x * x + A) * i % (p : Int) = l at *
  exact comb4 e1 e2 e3 e4 1 i (x * i) (-1) (by grind)

theorem slope_chord {p : Nat} {A x1 y1 x2 y2 : Int} {f f' : Bool} (h : x1 ≠ x2) : (p : Int) ∣ (y2 - y1) % p * iv p (x2 - x1) % p - slopeF p A ⟨x1, y1, f⟩ ⟨x2, y2, f'⟩ := by
  unfold slopeF
  simp only [if_neg h]
  generalize iv p (x2 - x1) = i
  have e1 := mod_dvd (p : Int) ((y2 - y1) % p * i)
  have e2 := mod_dvd (p : Int) (y2 - y1)
  have e4 := mod_dvd (p : Int) ((y2 - y1) * i)
  generalize (y2 - y1) % (p : Int) * i % p = S at *
  generalize (y2 - y1) % (p : Int) = T at *
  generalize (y2 - y1) * i % (p : Int) = l at *
  exact comb3 e1 e2 e4 1 i (-1) (by grind)

theorem addF_fin {p : Nat} {A x1 y1 x2 y2 : Int} (h : ¬ (x1 = x2 ∧ (y1 + y2) % p = 0)) : addF p A ⟨x1, y1, false⟩ ⟨x2, y2, false⟩ = third p x1 y1 x2 (slopeF p A ⟨x1, y1, false⟩ ⟨x2, y2, false⟩) := by
  unfold addF
  rw [if_neg (by simp), if_neg (by simp), if_neg h]

theorem addF_opp' {p : Nat} {A x1 y1 x2 y2 : Int} (h : x1 = x2 ∧ (y1 + y2) % p = 0) : addF p A ⟨x1, y1, false⟩ ⟨x2, y2, false⟩ = farP := by
  unfold addF
  rw [if_neg (by simp), if_neg (by simp), if_pos h]

/-- The numbers of a point are below p. -/
structure InR (p : Nat) (a : Pt) : Prop where
  x0 : 0 ≤ a.x
  x1 : a.x < p
  y0 : 0 ≤ a.y
  y1 : a.y < p

theorem addF_inR {p : Nat} (hp : 0 < p) {A : Int} {a b : Pt} (ha : InR p a) (hb : InR p b) : InR p (addF p A a b) := by
  unfold addF
  split
  · exact hb
  · split
    · exact ha
    · split
      · exact ⟨Int.le_refl _, by show (0 : Int) < p; omega, Int.le_refl _, by show (0 : Int) < p; omega⟩
      · exact ⟨Int.emod_nonneg _ (by omega), Int.emod_lt_of_pos _ (by omega), Int.emod_nonneg _ (by omega), Int.emod_lt_of_pos _ (by omega)⟩

set_option maxHeartbeats 1600000 in
theorem l3Add_tan (p : Nat) (A B N gx gy x1 y1 x2 y2 : Int) (w : World) (hpr : Prime p) (h5 : 5 ≤ p) (hp : p ≤ 1048576) (hA0 : -1 ≤ A) (hA : A ≤ 2097152) (a0 : 0 ≤ x1) (a1 : x1 < p) (a2 : 0 ≤ y1) (a3 : y1 < p) (b0 : 0 ≤ x2) (b1 : x2 < p) (b2 : 0 ≤ y2) (b3 : y2 < p) (hno : ¬ (y1 + y2) % (p : Int) = 0) :
    Calls Tryz.prog 135 #[.agg #[.int .i64 p, .int .i64 A, .int .i64 B, .int .i64 N, .int .i64 gx, .int .i64 gy], .agg #[.int .i64 x1, .int .i64 y1, .bool false], .agg #[.int .i64 x1, .int .i64 y2, .bool false]] w fun r w' => r = .returned (ptV (addF p A ⟨x1, y1, false⟩ ⟨x1, y2, false⟩)) ∧ Below w.heap.size w w' := by
  have pp : (0 : Int) < p := by omega
  have hp2 : (p : Int) ≤ 2097152 := by omega
  have hb2 : ((y1 + y2) % (p : Int) == 0) = false := by simpa using hno
  have e3 := addF_fin (A := A) (x1 := x1) (x2 := x1) (y1 := y1) (y2 := y2) (p := p) (fun h => hno h.2)
  rw [third_of (slope_tan (A := A) (x := x1) (y := y1) (y' := y2) (f := false) (f' := false))] at e3
  have HV := hide e3
  clear e3 hno
  have hxx : (x1 == x1) = true := by simp
  have m0 := Int.emod_nonneg (3 * x1) (show (p : Int) ≠ 0 by omega)
  have m1 := Int.emod_lt_of_pos (3 * x1) pp
  obtain ⟨g0, g1⟩ := abs_mul (T := 3 * x1 % (p : Int)) (v := x1) hp2 (by omega) (by omega) (by omega) (by omega)
  obtain ⟨t0, t1⟩ := tmod_bd (3 * x1 % (p : Int) * x1 + A) pp
  obtain ⟨i0, i1⟩ := iv_range (show 0 < p by omega) (2 * y1)
  obtain ⟨k0, k1⟩ := abs_mul (T := Int.tmod (3 * x1 % (p : Int) * x1 + A) p) (v := iv p (2 * y1)) hp2 t0 t1 (by omega) i1
  obtain ⟨S0, S1⟩ := tmod_bd (Int.tmod (3 * x1 % (p : Int) * x1 + A) p * iv p (2 * y1)) pp
  go_enter Tryz.func135, Tryz.ntmps135
  go_wp2
  go_quiet ((go_at_call 193; exact Calls.quiet_of (l2Inv_iv _ p _ (by omega) (by omega) hpr (by omega) (by omega))))
  generalize Int.tmod (Int.tmod (3 * x1 % (p : Int) * x1 + A) p * iv p (2 * y1)) p = S at *
  obtain ⟨q0, q1⟩ := sq_bd hp2 S0 S1
  go_wp2_with fail
  refine (l2Left_any _ _ _ (by omega) (by omega) (by omega) (by omega)).mono ?_
  rintro r w' ⟨rfl, hw⟩
  subst hw
  have X0 := Int.emod_nonneg (S * S - x1 - x1) (show (p : Int) ≠ 0 by omega)
  have X1 := Int.emod_lt_of_pos (S * S - x1 - x1) pp
  generalize (S * S - x1 - x1) % (p : Int) = X at *
  obtain ⟨u0, u1⟩ := abs_mul (T := S) (v := x1 - X) hp2 S0 S1 (by omega) (by omega)
  go_wp2_with fail
  refine (l2Left_any _ _ _ (by omega) (by omega) (by omega) (by omega)).mono ?_
  rintro r w' ⟨rfl, hw⟩
  subst hw
  generalize (S * (x1 - X) - y1) % (p : Int) = Y at *
  go_wp2
  refine bodyPost_ret (v := .agg #[.int .i64 X, .int .i64 Y, .bool false]) (by simp [results, Tryz.results135, go_sem]) rfl ⟨?_, ?_⟩
  · rw [HV.out]; rfl
  · repeat (first | exact Below.refl _ _ | refine Below.setCell ?_ (by simp <;> omega) _ | refine Below.alloc ?_ (by simp <;> omega) _ | refine below_drewN ?_ _)

set_option maxHeartbeats 1600000 in
theorem l3Add_cho (p : Nat) (A B N gx gy x1 y1 x2 y2 : Int) (w : World) (hpr : Prime p) (h5 : 5 ≤ p) (hp : p ≤ 1048576) (hA0 : -1 ≤ A) (hA : A ≤ 2097152) (a0 : 0 ≤ x1) (a1 : x1 < p) (a2 : 0 ≤ y1) (a3 : y1 < p) (b0 : 0 ≤ x2) (b1 : x2 < p) (b2 : 0 ≤ y2) (b3 : y2 < p) (hne : x1 ≠ x2) :
    Calls Tryz.prog 135 #[.agg #[.int .i64 p, .int .i64 A, .int .i64 B, .int .i64 N, .int .i64 gx, .int .i64 gy], .agg #[.int .i64 x1, .int .i64 y1, .bool false], .agg #[.int .i64 x2, .int .i64 y2, .bool false]] w fun r w' => r = .returned (ptV (addF p A ⟨x1, y1, false⟩ ⟨x2, y2, false⟩)) ∧ Below w.heap.size w w' := by
  have pp : (0 : Int) < p := by omega
  have hp2 : (p : Int) ≤ 2097152 := by omega
  have hxx : (x1 == x2) = false := by simpa using hne
  have e3 := addF_fin (A := A) (x1 := x1) (x2 := x2) (y1 := y1) (y2 := y2) (p := p) (fun h => hne h.1)
  rw [third_of (slope_chord (A := A) (x1 := x1) (y1 := y1) (x2 := x2) (y2 := y2) (f := false) (f' := false) hne)] at e3
  have HV := hide e3
  clear e3 hne
  have m0 := Int.emod_nonneg (y2 - y1) (show (p : Int) ≠ 0 by omega)
  have m1 := Int.emod_lt_of_pos (y2 - y1) pp
  obtain ⟨i0, i1⟩ := iv_range (show 0 < p by omega) (x2 - x1)
  obtain ⟨k0, k1⟩ := mulBd (x := (y2 - y1) % (p : Int)) (y := iv p (x2 - x1)) (p := 2097152) (q := 2097152) m0 (by omega) i0 (by omega)
  have S0 : -(p : Int) < (y2 - y1) % (p : Int) * iv p (x2 - x1) % (p : Int) := by have := Int.emod_nonneg ((y2 - y1) % (p : Int) * iv p (x2 - x1)) (show (p : Int) ≠ 0 by omega); omega
  have S1 := Int.emod_lt_of_pos ((y2 - y1) % (p : Int) * iv p (x2 - x1)) pp
  go_enter Tryz.func135, Tryz.ntmps135
  go_wp2
  go_quiet (first | (go_at_call 193; exact Calls.quiet_of (l2Inv_iv _ p _ (by omega) (by omega) hpr (by omega) (by omega))) | (go_at_call 194; exact Calls.quiet_of_same (l2Left_any _ _ _ (by omega) (by omega) (by omega) (by omega))))
  generalize ((y2 - y1) % (p : Int) * iv p (x2 - x1) % (p : Int)) = S at *
  obtain ⟨q0, q1⟩ := sq_bd hp2 S0 S1
  go_wp2_with fail
  refine (l2Left_any _ _ _ (by omega) (by omega) (by omega) (by omega)).mono ?_
  rintro r w' ⟨rfl, hw⟩
  subst hw
  have X0 := Int.emod_nonneg (S * S - x1 - x2) (show (p : Int) ≠ 0 by omega)
  have X1 := Int.emod_lt_of_pos (S * S - x1 - x2) pp
  generalize (S * S - x1 - x2) % (p : Int) = X at *
  obtain ⟨u0, u1⟩ := abs_mul (T := S) (v := x1 - X) hp2 S0 S1 (by omega) (by omega)
  go_wp2_with fail
  refine (l2Left_any _ _ _ (by omega) (by omega) (by omega) (by omega)).mono ?_
  rintro r w' ⟨rfl, hw⟩
  subst hw
  generalize (S * (x1 - X) - y1) % (p : Int) = Y at *
  go_wp2
  refine bodyPost_ret (v := .agg #[.int .i64 X, .int .i64 Y, .bool false]) (by simp [results, Tryz.results135, go_sem]) rfl ⟨?_, ?_⟩
  · rw [HV.out]; rfl
  · repeat (first | exact Below.refl _ _ | refine Below.setCell ?_ (by simp <;> omega) _ | refine Below.alloc ?_ (by simp <;> omega) _ | refine below_drewN ?_ _)
end

end Go.Proofs.YtollgoadgjlccaaGreatDoor
