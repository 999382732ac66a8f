/- Points told by bytes: what is read of them. Nothing of the program. Walks: three bytes read, by the model and by the program. Walks: a point read of bytes by the model. Walks: a point read of four bytes by the model. Walks: PointRead of the model. -/
import Derived.Test.YtcfpmillbdkpcaaDoorCurveK
import Derived.Test.YtcfpmillbdkpcaaDoorCurQ
import Derived.Test.YtcfpmillbdkpcaaDoorSteps
import Derived.Test.YtcfpmillbdkpcaaDoorBLAll
import Derived.Test.YtcfpmillbdkpcaaDoorBits
import Derived.Test.YtcfpmillbdkpcaaDoorCurveP
import Derived.Test.YtcfpmillbdkpcaaDoorCurveY
import Derived.Test.YtcfpmillbdkpcaaDoorPowInt
namespace Go.Proofs.YtcfpmillbdkpcaaDoor
set_option linter.unusedVariables false

/-- Three bytes, the highest first. -/
def rd3 (f : Nat → Int) (o : Nat) : Int := f o * 65536 + f (o + 1) * 256 + f (o + 2)

/-- The point that these bytes tell. -/
def Reads (p : Nat) (A B : Int) (n : Nat) (f : Nat → Int) (c : Pt) : Prop :=
  (n = 1 ∧ f 0 = 0 ∧ c = farP) ∨ (n = 7 ∧ f 0 = 4 ∧ c = ⟨rd3 f 1, rd3 f 4, false⟩ ∧ On p A B c) ∨
  (n = 4 ∧ (f 0 = 2 ∨ f 0 = 3) ∧ c.far = false ∧ c.x = rd3 f 1 ∧ c.y % 2 = f 0 - 2 ∧ On p A B c)

theorem Aff.sq {P A B x y : Int} (hp : 0 < P) (h : Aff P.toNat A B x y) : y * y % P = (x * x * x + A * x + B) % P := by
  have e := h.on
  have : ((P.toNat : Nat) : Int) = P := by omega
  rw [this] at e
  exact mod_eq e

theorem Aff.of_sq {P A B x y : Int} (hp : 0 < P) (x0 : 0 ≤ x) (x1 : x < P) (y0 : 0 ≤ y) (y1 : y < P) (e : y * y % P = (x * x * x + A * x + B) % P) : Aff P.toNat A B x y := by
  refine ⟨x0, by omega, y0, by omega, ?_⟩
  have h : ((P.toNat : Nat) : Int) = P := by omega
  rw [h]
  exact Int.dvd_of_emod_eq_zero (Int.emod_eq_emod_iff_emod_sub_eq_zero.1 e)

/-- Two roots by an odd prime number. -/
theorem two_roots_int {P y z : Int} (hp : Prime P.toNat) (hP : 0 < P) (y0 : 0 ≤ y) (y1 : y < P) (z0 : 0 ≤ z) (z1 : z < P) (e : y * y % P = z * z % P) : y = z ∨ y + z = P ∨ (y = 0 ∧ z = 0) := by
  obtain ⟨p, rfl⟩ := Int.eq_ofNat_of_zero_le (show 0 ≤ P by omega)
  obtain ⟨a, rfl⟩ := Int.eq_ofNat_of_zero_le y0
  obtain ⟨b, rfl⟩ := Int.eq_ofNat_of_zero_le z0
  rw [Int.toNat_natCast] at hp
  have := hp.two_roots (x := a) (y := b) (by omega) (by omega) (by exact_mod_cast e)
  omega

theorem same_y {P A B x y z : Int} (hp : Prime P.toNat) (h4 : P % 4 = 3) (hP : 5 ≤ P) (h : Aff P.toNat A B x y) (k : Aff P.toNat A B x z) (e : y % 2 = z % 2) : y = z := by
  have hh := h.y1; have hk := k.y1; have h0 := h.y0; have k0 := k.y0
  rcases two_roots_int hp (by omega) h.y0 (by omega) k.y0 (by omega) ((h.sq (by omega)).trans (k.sq (by omega)).symm) with h | h | h <;> omega

theorem Reads.unique {P A B : Int} {n : Nat} {f : Nat → Int} {c d : Pt} (hp : Prime P.toNat) (h4 : P % 4 = 3) (hP : 5 ≤ P) (h : Reads P.toNat A B n f c) (k : Reads P.toNat A B n f d) : c = d := by
  rcases h with ⟨n1, f1, rfl⟩ | ⟨n1, f1, rfl, o1⟩ | ⟨n1, f1, c1, x1, y1, o1⟩ <;> rcases k with ⟨n2, f2, rfl⟩ | ⟨n2, f2, rfl, o2⟩ | ⟨n2, f2, c2, x2, y2, o2⟩
  any_goals rfl
  any_goals omega
  have a1 := o1.aff c1
  have a2 := o2.aff c2
  rw [x1] at a1
  rw [x2] at a2
  exact Pt.ext' (x1.trans x2.symm) (same_y hp h4 hP a1 a2 (y1.trans y2.symm)) (c1.trans c2.symm)

/-- What a reading call answers. -/
def OptRd (P A B N gx gy : Int) (n : Nat) (f : Nat → Int) (c : Pt) (ok : Bool) : Prop :=
  (ok = true ∧ CvOk P A B N gx gy ∧ Reads P.toNat A B n f c) ∨ (ok = false ∧ (∀ c, CvOk P A B N gx gy → ¬ Reads P.toNat A B n f c) ∧ c = zeroP)

theorem OptRd.unique {P A B N gx gy : Int} {n : Nat} {f : Nat → Int} {c d : Pt} {ok ok' : Bool} (h : OptRd P A B N gx gy n f c ok) (k : OptRd P A B N gx gy n f d ok') : c = d ∧ ok = ok' := by
  rcases h with ⟨rfl, v, h⟩ | ⟨rfl, h, rfl⟩ <;> rcases k with ⟨rfl, v', k⟩ | ⟨rfl, k, rfl⟩
  · exact ⟨Reads.unique v.pp v.p4 v.p5 h k, rfl⟩
  · exact absurd h (k _ v)
  · exact absurd k (h _ v')
  · exact ⟨rfl, rfl⟩

theorem optRd_some (P A B N gx gy : Int) (n : Nat) (f : Nat → Int) : ∃ c ok, OptRd P A B N gx gy n f c ok := by
  by_cases h : CvOk P A B N gx gy ∧ ∃ c, Reads P.toNat A B n f c
  · obtain ⟨v, c, hc⟩ := h
    exact ⟨c, true, Or.inl ⟨rfl, v, hc⟩⟩
  · exact ⟨zeroP, false, Or.inr ⟨rfl, fun c v hc => h ⟨v, c, hc⟩, rfl⟩⟩

def GivesRd (P A B N gx gy : Int) (n : Nat) (f : Nat → Int) (r : Ending) : Prop := ∃ c ok, r = .returned (.tuple #[.agg #[.int .i64 c.x, .int .i64 c.y, .bool c.far], .bool ok]) ∧ OptRd P A B N gx gy n f c ok

/-- The power that is a root. -/
theorem root_pow {p s z : Nat} (hp : Prime p) (h4 : p % 4 = 3) (h5 : 5 ≤ p) (e : z * z % p = s % p) : (s ^ ((p + 1) / 4) % p) * (s ^ ((p + 1) / 4) % p) % p = s % p := by
  rw [← Nat.mul_mod, ← Nat.pow_add]
  have hk : (p + 1) / 4 + (p + 1) / 4 = (p - 1) / 2 + 1 := by omega
  rw [hk]
  by_cases hd : p ∣ s
  · obtain ⟨t, rfl⟩ := hd
    rw [Nat.pow_succ, Nat.mul_mod, Nat.mul_mod_right, Nat.mul_zero]
    simp
  · rw [Nat.pow_succ, Nat.mul_mod, hp.euler_square (by omega) hd e, Nat.one_mul, Nat.mod_mod]

theorem rd3_range {f : Nat → Int} {o : Nat} (h0 : 0 ≤ f o ∧ f o ≤ 255) (h1 : 0 ≤ f (o + 1) ∧ f (o + 1) ≤ 255) (h2 : 0 ≤ f (o + 2) ∧ f (o + 2) ≤ 255) : 0 ≤ rd3 f o ∧ rd3 f o ≤ 16777215 := by
  unfold rd3; omega

/-- The model's way: the power, or what is left of P. -/
theorem model_root {P A B x t y : Int} (hp : Prime P.toNat) (h4 : P % 4 = 3) (h5 : 5 ≤ P) (x0 : 0 ≤ x) (x1 : x < P) (ht : t = 0 ∨ t = 1) {s : Nat} (hs : (s : Int) = (x * x * x + A * x + B) % P)
    (hy : y = if ((s ^ ((P.toNat + 1) / 4) % P.toNat : Nat) : Int) % 2 = t then ((s ^ ((P.toNat + 1) / 4) % P.toNat : Nat) : Int) else P - ((s ^ ((P.toNat + 1) / 4) % P.toNat : Nat) : Int)) :
    (Aff P.toNat A B x y ∧ y % 2 = t) ∨ ∀ z, z % 2 = t → ¬ Aff P.toNat A B x z := by
  by_cases hz : ∃ z, z % 2 = t ∧ Aff P.toNat A B x z
  · left
    obtain ⟨z, ze, ha⟩ := hz
    obtain ⟨p, hpp⟩ := Int.eq_ofNat_of_zero_le (show 0 ≤ P by omega)
    obtain ⟨zn, hzn⟩ := Int.eq_ofNat_of_zero_le ha.y0
    have hsq := ha.sq (by omega)
    have e1 : zn * zn % P.toNat = s % P.toNat := by
      have : ((zn * zn % P.toNat : Nat) : Int) = ((s % P.toNat : Nat) : Int) := by
        rw [Int.natCast_emod, Int.natCast_mul, Int.natCast_emod, ← hzn, show ((P.toNat : Nat) : Int) = P by omega, hsq, hs, Int.emod_emod]
      exact_mod_cast this
    have e2 := root_pow hp (by omega) (by omega) e1
    generalize hr : s ^ ((P.toNat + 1) / 4) % P.toNat = r at e2 hy
    have hrl : r < P.toNat := by rw [← hr]; exact Nat.mod_lt _ (by omega)
    have e3 : (r : Int) * r % P = z * z % P := by
      have : ((r * r % P.toNat : Nat) : Int) = ((s % P.toNat : Nat) : Int) := by rw [e2]
      rw [Int.natCast_emod, Int.natCast_mul, Int.natCast_emod, show ((P.toNat : Nat) : Int) = P by omega] at this
      rw [this, hsq, hs, Int.emod_emod]
    have hz1 := ha.y1
    have hz0 := ha.y0
    have := two_roots_int hp (by omega) (show 0 ≤ (r : Int) by omega) (by omega) ha.y0 (by omega) e3
    have hyz : y = z := by
      by_cases c : (r : Int) % 2 = t
      · rw [if_pos c] at hy; omega
      · rw [if_neg c] at hy; omega
    rw [hyz]
    exact ⟨ha, ze⟩
  · right
    intro z ze ha
    exact hz ⟨z, ze, ha⟩

open Go.RowKit Go.Sort

theorem wrap_small {x : Int} (h0 : 0 ≤ x) (h1 : x ≤ 9223372036854775807) : IntKind.i64.wrap x = x := by
  rw [IntKind.wrap_i64]; omega

/-- 'a<<8 | b' with b a byte. -/
theorem or_byte (a b : Int) (ha : 0 ≤ a) (ha' : a ≤ 70368744177664) (hb : 0 ≤ b) (hb' : b ≤ 255) : bits .or .i64 (a * 256) b = a * 256 + b := by
  show IntKind.i64.wrap ((BitVec.ofInt 64 (a * 256) ||| BitVec.ofInt 64 b).toNat : Int) = _
  obtain ⟨A, rfl⟩ := Int.eq_ofNat_of_zero_le ha
  obtain ⟨B, rfl⟩ := Int.eq_ofNat_of_zero_le hb
  have e1 : ((A : Int) * 256 % 18446744073709551616).toNat = 2 ^ 8 * A := by omega
  have e2 : ((B : Int) % 18446744073709551616).toNat = B := by omega
  rw [BitVec.toNat_or, ofInt64, ofInt64, e1, e2, ← Nat.two_pow_add_eq_or_of_lt (by omega), IntKind.wrap_i64]
  omega

set_option maxHeartbeats 800000 in
theorem l3Read_any (b off cap : Nat) (f : Nat → Int) (w : World) (hs : BSeg w (some ⟨b, off, none⟩) b off 3 f) (hr : ∀ i, i < 3 → 0 ≤ f i ∧ f i ≤ 255) :
    Calls Tryd.prog 112 #[.slice (some ⟨b, off, none⟩) 3 cap] w fun r w' => r = .returned (.int .i64 (rd3 f 0)) ∧ Below w.heap.size w w' := by
  have e0 := cell_regrown (hs.cell 0 (by omega))
  have e1 := cell_regrown (hs.cell 1 (by omega))
  have e2 := cell_regrown (hs.cell 2 (by omega))
  rw [Nat.add_zero] at e0
  obtain ⟨r0, s0⟩ := hr 0 (by omega)
  obtain ⟨r1, s1⟩ := hr 1 (by omega)
  obtain ⟨r2, s2⟩ := hr 2 (by omega)
  have HV : Hid (f 0 * 65536 + f 1 * 256 + f 2 = rd3 f 0) := rfl
  generalize rd3 f 0 = V at *
  generalize f 0 = x at *
  generalize f 1 = y at *
  generalize f 2 = z at *
  clear hs hr
  have q0 : IntKind.i64.wrap x = x := wrap_small r0 (by omega)
  have q1 : IntKind.i64.wrap y = y := wrap_small r1 (by omega)
  have q2 : IntKind.i64.wrap z = z := wrap_small r2 (by omega)
  have q3 : IntKind.i64.wrap (x * 65536) = x * 65536 := wrap_small (by omega) (by omega)
  have q4 : IntKind.i64.wrap (y * 256) = y * 256 := wrap_small (by omega) (by omega)
  have q5 : IntKind.i64.wrap (x * 65536 + y * 256) = x * 65536 + y * 256 := wrap_small (by omega) (by omega)
  have q6 : IntKind.i64.wrap (x * 65536 + y * 256 + z) = x * 65536 + y * 256 + z := wrap_small (by omega) (by omega)
  go_enter Tryd.func112, Tryd.ntmps112
  go_wp2
  refine anyW_begin 17 rfl (by kernel_rfl) ?_
  refine anyW_take 0 17 0 rfl (by decide) (by kernel_rfl) (fun _ _ d _ _ h => by cases d <;> exact h) ?_
  repeat (refine headS_step (fun K hK => ?_); go_simp; first | (refine hK _ ?_; clear hK K) | (apply Exists.intro; refine ⟨fun _ => ?_, hK _ ?_⟩; (fail); clear hK K))
  refine headS_nil ?_
  refine anyW_done (by kernel_rfl) ?_ 0
  intro wq hwq
  go_wp2
  go_ret
  exact ⟨by rw [← HV.out]; rfl, hwq⟩

set_option maxHeartbeats 800000 in
theorem readHigh_any (b off cap : Nat) (f : Nat → Int) (w : World) (hs : BSeg w (some ⟨b, off, none⟩) b off 3 f) (hr : ∀ i, i < 3 → 0 ≤ f i ∧ f i ≤ 255) :
    Calls Tryd.prog 94 #[.slice (some ⟨b, off, none⟩) 3 cap] w fun r w' => r = .returned (.int .i64 (rd3 f 0)) ∧ Below w.heap.size w w' := by
  have e0 := cell_regrown (hs.cell 0 (by omega))
  have e1 := cell_regrown (hs.cell 1 (by omega))
  have e2 := cell_regrown (hs.cell 2 (by omega))
  rw [Nat.add_zero] at e0
  obtain ⟨r0, s0⟩ := hr 0 (by omega)
  obtain ⟨r1, s1⟩ := hr 1 (by omega)
  obtain ⟨r2, s2⟩ := hr 2 (by omega)
  have HV : Hid (f 0 * 65536 + f 1 * 256 + f 2 = rd3 f 0) := rfl
  generalize rd3 f 0 = V at *
  generalize f 0 = x at *
  generalize f 1 = y at *
  generalize f 2 = z at *
  clear hs hr
  have q0 : IntKind.i64.wrap x = x := wrap_small r0 (by omega)
  have q1 : IntKind.i64.wrap y = y := wrap_small r1 (by omega)
  have q2 : IntKind.i64.wrap z = z := wrap_small r2 (by omega)
  have q3 : IntKind.i64.wrap (x * 65536) = x * 65536 := wrap_small (by omega) (by omega)
  have q4 : IntKind.i64.wrap (y * 256) = y * 256 := wrap_small (by omega) (by omega)
  have q5 : bits .or .i64 (x * 65536) (y * 256) = x * 65536 + y * 256 := or_low _ _ r0 (by omega) (by omega) (by omega)
  have q6 : bits .or .i64 (x * 65536 + y * 256) z = x * 65536 + y * 256 + z := by
    have := or_byte (x * 256 + y) z (by omega) (by omega) r2 s2
    rw [show (x * 256 + y) * 256 = x * 65536 + y * 256 by omega] at this
    exact this
  go_enter Tryd.func94, Tryd.ntmps94
  go_wp2
  refine anyW_begin 17 rfl (by kernel_rfl) ?_
  refine anyW_take 0 17 0 rfl (by decide) (by kernel_rfl) (fun _ _ d _ _ h => by cases d <;> exact h) ?_
  repeat (refine headS_step (fun K hK => ?_); go_simp; first | (refine hK _ ?_; clear hK K) | (apply Exists.intro; refine ⟨fun _ => ?_, hK _ ?_⟩; (fail); clear hK K))
  refine headS_nil ?_
  refine anyW_done (by kernel_rfl) ?_ 0
  intro wq hwq
  go_wp2
  go_ret
  exact ⟨by rw [← HV.out]; rfl, hwq⟩

set_option linter.unusedSimpArgs false
open Go.RowKit Go.Sort

theorem givesRd_no {P A B N gx gy : Int} {n : Nat} {f : Nat → Int} (h : ∀ c, CvOk P A B N gx gy → ¬ Reads P.toNat A B n f c) : GivesRd P A B N gx gy n f (.returned (.tuple #[.agg #[.int .i64 0, .int .i64 0, .bool false], .bool false])) := ⟨zeroP, false, rfl, Or.inr ⟨rfl, h, rfl⟩⟩
theorem givesRd_yes {P A B N gx gy : Int} {n : Nat} {f : Nat → Int} {c : Pt} (v : CvOk P A B N gx gy) (h : Reads P.toNat A B n f c) : GivesRd P A B N gx gy n f (.returned (.tuple #[.agg #[.int .i64 c.x, .int .i64 c.y, .bool c.far], .bool true])) := ⟨c, true, rfl, Or.inl ⟨rfl, v, h⟩⟩

theorem BSeg.drop {w : World} {a : Option Addr} {b off n : Nat} {f : Nat → Int} (h : BSeg w a b off n f) (k m : Nat) (hk : k + m ≤ n) : BSeg w (some ⟨b, off + k, none⟩) b (off + k) m (fun i => f (k + i)) :=
  ⟨fun _ => rfl, fun i hi => by rw [Nat.add_assoc]; exact h.cell (k + i) (by omega)⟩

theorem below_drawn' {w w' : World} (h : Drawn w w') : Below w.heap.size w w' := by
  obtain ⟨q, rfl⟩ := h
  exact below_drewN (Below.refl _ _) q

theorem l2Pow_at (S E P : Int) (w : World) (s0 : 0 ≤ S) (s1 : S ≤ 9223372036854775807) (e0 : 0 ≤ E) (e1 : E ≤ 9223372036854775807) (p0 : 0 < P) (p1 : P ≤ 1073741824) :
    Calls Tryd.prog 113 #[.int .i64 S, .int .i64 E, .int .i64 P] w fun r w' => r = .returned (.int .i64 ((S.toNat ^ E.toNat % P.toNat : Nat) : Int)) ∧ Below w.heap.size w w' := by
  have := l2Pow_any S.toNat E.toNat P.toNat w (by omega) (by omega) (by omega) (by omega)
  rw [show ((S.toNat : Nat) : Int) = S by omega, show ((E.toNat : Nat) : Int) = E by omega, show ((P.toNat : Nat) : Int) = P by omega] at this
  exact this.mono fun e w' h => ⟨h.1, below_drawn' h.2⟩

set_option maxHeartbeats 1600000 in
set_option maxRecDepth 100000 in
theorem l3Point_none (P A B N gx gy : Int) (a : Option Addr) (b off n cap : Nat) (f : Nat → Int) (w : World) (hs : BSeg w a b off n f) (h1 : n = 1 → f 0 ≠ 0) (h7 : n = 7 → f 0 ≠ 4) (h4 : n = 4 → f 0 ≠ 2 ∧ f 0 ≠ 3) :
    Calls Tryd.prog 75 #[.agg #[.int .i64 P, .int .i64 A, .int .i64 B, .int .i64 N, .int .i64 gx, .int .i64 gy], .slice a n cap] w fun r w' => GivesRd P A B N gx gy n f r ∧ Below w.heap.size w w' := by
  have Hn : Hid (GivesRd P A B N gx gy n f (.returned (.tuple #[.agg #[.int .i64 0, .int .i64 0, .bool false], .bool false]))) := givesRd_no (fun c v h => by
    rcases h with ⟨e, e', _⟩ | ⟨e, e', _⟩ | ⟨e, e', _⟩
    · exact h1 e e'
    · exact h7 e e'
    · have := h4 e; omega)
  have F0 : Fr2 w (((w.alloc (.cells #[.int .i64 P, .int .i64 A, .int .i64 B, .int .i64 N, .int .i64 gx, .int .i64 gy] 25)).alloc (.cells #[.int .i64 0, .int .i64 0, .bool false] 27)).alloc (.cells #[.int .i64 0, .int .i64 0, .bool false] 27)) P A B N gx gy zeroP zeroP := Fr2.box w P A B N gx gy zeroP zeroP 25 27 27
  have HF := hide F0
  obtain ⟨⟨k0, k1, k2, k3, k4, k5⟩, ⟨a0, a1, a2, b0, b1, b2⟩, ⟨r0, r1, r2, q0, q1, q2⟩, -, -⟩ := F0
  simp only [zeroP] at a0 a1 a2 r0 r1 r2
  clear k0 k1 k2 k3 k4 k5
  by_cases c1 : n = 1
  · subst c1
    have hx : (f 0 == 0) = false := by simpa using h1 rfl
    clear h1 h7 h4
    have hb := hs.lt (by omega)
    have hc := (hs.of_all HF.out.below).cell 0 (by omega)
    obtain rfl := hs.at' (by omega)
    rw [Nat.add_zero] at hc
    clear hs
    generalize f 0 = x at *
    go_enter Tryd.func75, Tryd.ntmps75
    go_wp2
    refine bodyPost_ret (v := .tuple #[.agg #[.int .i64 0, .int .i64 0, .bool false], .bool false]) (by simp [results, Tryd.results75, go_sem, a0, a1, a2, r0, r1, r2]) rfl ⟨Hn.out, HF.out.below⟩
  by_cases c7 : n = 7
  · subst c7
    have hx : (f 0 == 4) = false := by simpa using h7 rfl
    clear h1 h7 h4 c1
    have hb := hs.lt (by omega)
    have hc := (hs.of_all HF.out.below).cell 0 (by omega)
    obtain rfl := hs.at' (by omega)
    rw [Nat.add_zero] at hc
    clear hs
    generalize f 0 = x at *
    go_enter Tryd.func75, Tryd.ntmps75
    go_wp2
    refine bodyPost_ret (v := .tuple #[.agg #[.int .i64 0, .int .i64 0, .bool false], .bool false]) (by simp [results, Tryd.results75, go_sem, a0, a1, a2, r0, r1, r2]) rfl ⟨Hn.out, HF.out.below⟩
  by_cases c4 : n = 4
  · subst c4
    have hx : (f 0 == 2) = false := by simpa using (h4 rfl).1
    have hx3 : (f 0 == 3) = false := by simpa using (h4 rfl).2
    clear h1 h7 h4 c1 c7
    have hb := hs.lt (by omega)
    have hc := (hs.of_all HF.out.below).cell 0 (by omega)
    obtain rfl := hs.at' (by omega)
    rw [Nat.add_zero] at hc
    clear hs
    generalize f 0 = x at *
    go_enter Tryd.func75, Tryd.ntmps75
    go_wp2
    refine bodyPost_ret (v := .tuple #[.agg #[.int .i64 0, .int .i64 0, .bool false], .bool false]) (by simp [results, Tryd.results75, go_sem, a0, a1, a2, r0, r1, r2]) rfl ⟨Hn.out, HF.out.below⟩
  have n1 : ((n : Int) == 1) = false := by simp; omega
  have n7 : ((n : Int) == 7) = false := by simp; omega
  have n4 : ((n : Int) == 4) = false := by simp; omega
  clear c1 c7 c4 h1 h7 h4 hs
  go_enter Tryd.func75, Tryd.ntmps75
  go_wp2
  refine bodyPost_ret (v := .tuple #[.agg #[.int .i64 0, .int .i64 0, .bool false], .bool false]) (by simp [results, Tryd.results75, go_sem, a0, a1, a2, r0, r1, r2]) rfl ⟨Hn.out, HF.out.below⟩

set_option maxHeartbeats 1600000 in
set_option maxRecDepth 100000 in
theorem l3Point_far (P A B N gx gy : Int) (a : Option Addr) (b off n cap : Nat) (f : Nat → Int) (w : World) (hc : CvOk P A B N gx gy) (hs : BSeg w a b off n f) (hn : n = 1) (h0 : f 0 = 0) :
    Calls Tryd.prog 75 #[.agg #[.int .i64 P, .int .i64 A, .int .i64 B, .int .i64 N, .int .i64 gx, .int .i64 gy], .slice a n cap] w fun r w' => GivesRd P A B N gx gy n f r ∧ Below w.heap.size w w' := by
  have HY : Hid (GivesRd P A B N gx gy n f (.returned (.tuple #[.agg #[.int .i64 farP.x, .int .i64 farP.y, .bool farP.far], .bool true]))) := givesRd_yes hc (Or.inl ⟨hn, h0, rfl⟩)
  have F0 : Fr2 w (((w.alloc (.cells #[.int .i64 P, .int .i64 A, .int .i64 B, .int .i64 N, .int .i64 gx, .int .i64 gy] 25)).alloc (.cells #[.int .i64 0, .int .i64 0, .bool false] 27)).alloc (.cells #[.int .i64 0, .int .i64 0, .bool false] 27)) P A B N gx gy zeroP zeroP := Fr2.box w P A B N gx gy zeroP zeroP 25 27 27
  have HF := hide F0
  obtain ⟨⟨k0, k1, k2, k3, k4, k5⟩, ⟨a0, a1, a2, b0, b1, b2⟩, ⟨r0, r1, r2, q0, q1, q2⟩, -, -⟩ := F0
  simp only [zeroP] at a0 a1 a2 r0 r1 r2
  clear k0 k1 k2 k3 k4 k5
  have hb := hs.lt (by omega)
  have hx := (hs.of_all HF.out.below).cell 0 (by omega)
  obtain rfl := hs.at' (by omega)
  rw [Nat.add_zero, h0] at hx
  subst hn
  clear hs h0 hc
  go_enter Tryd.func75, Tryd.ntmps75
  go_wp2
  refine bodyPost_ret (v := .tuple #[.agg #[.int .i64 0, .int .i64 0, .bool true], .bool true]) (by simp [results, Tryd.results75, go_sem]) rfl ⟨HY.out, ?_⟩
  repeat (first | exact Below.refl _ _ | refine Below.setCell ?_ (by simp <;> omega) _ | refine Below.alloc ?_ (by simp <;> omega) _)

set_option maxHeartbeats 1600000 in
set_option maxRecDepth 100000 in
theorem l3Point_long (P A B N gx gy : Int) (a : Option Addr) (b off n cap : Nat) (f : Nat → Int) (w : World) (hc : CvOk P A B N gx gy) (hs : BSeg w a b off n f) (hr : ∀ i, i < n → 0 ≤ f i ∧ f i ≤ 255) (hcap : n ≤ cap) (hn : n = 7) (h0 : f 0 = 4) :
    Calls Tryd.prog 75 #[.agg #[.int .i64 P, .int .i64 A, .int .i64 B, .int .i64 N, .int .i64 gx, .int .i64 gy], .slice a n cap] w fun r w' => GivesRd P A B N gx gy n f r ∧ Below w.heap.size w w' := by
  subst hn
  obtain ⟨x, hx⟩ : ∃ x, rd3 f 1 = x := ⟨_, rfl⟩
  obtain ⟨y, hy⟩ : ∃ y, rd3 f 4 = y := ⟨_, rfl⟩
  have F0 : Fr2 w (((w.alloc (.cells #[.int .i64 P, .int .i64 A, .int .i64 B, .int .i64 N, .int .i64 gx, .int .i64 gy] 25)).alloc (.cells #[.int .i64 0, .int .i64 0, .bool false] 27)).alloc (.cells #[.int .i64 0, .int .i64 0, .bool false] 27)) P A B N gx gy zeroP zeroP := Fr2.box w P A B N gx gy zeroP zeroP 25 27 27
  have HF := hide F0
  obtain ⟨⟨k0, k1, k2, k3, k4, k5⟩, ⟨a0, a1, a2, b0, b1, b2⟩, ⟨r0, r1, r2, q0, q1, q2⟩, -, -⟩ := F0
  simp only [zeroP] at a0 a1 a2 r0 r1 r2
  have hb := hs.lt (by omega)
  have hs0 := hs.of_all HF.out.below
  have hcl := hs0.cell 0 (by omega)
  obtain rfl := hs.at' (by omega)
  rw [Nat.add_zero, h0] at hcl
  have HX : Hid (∀ W, BSeg W (some ⟨b, off, none⟩) b off 7 f → Calls Tryd.prog 112 #[.slice (some ⟨b, off + 1, none⟩) 3 (cap - 1)] W fun r w' => r = .returned (.int .i64 x) ∧ Below W.heap.size W w') := fun W h => by
    have := l3Read_any b (off + 1) (cap - 1) (fun i => f (1 + i)) W (h.drop 1 3 (by omega)) (fun i hi => hr _ (by omega))
    rwa [show rd3 (fun i => f (1 + i)) 0 = x from hx] at this
  have HY : Hid (∀ W, BSeg W (some ⟨b, off, none⟩) b off 7 f → Calls Tryd.prog 112 #[.slice (some ⟨b, off + 4, none⟩) 3 (cap - 4)] W fun r w' => r = .returned (.int .i64 y) ∧ Below W.heap.size W w') := fun W h => by
    have := l3Read_any b (off + 4) (cap - 4) (fun i => f (4 + i)) W (h.drop 4 3 (by omega)) (fun i hi => hr _ (by omega))
    rwa [show rd3 (fun i => f (4 + i)) 0 = y from hy] at this
  have HR : Hid (Reads P.toNat A B 7 f ⟨x, y, false⟩ ↔ On P.toNat A B ⟨x, y, false⟩) := by
    constructor
    · rintro (⟨e, _⟩ | ⟨_, _, _, h⟩ | ⟨e, _⟩)
      · omega
      · exact h
      · omega
    · intro h
      exact Or.inr (Or.inl ⟨rfl, h0, by rw [hx, hy], h⟩)
  have HU : Hid (∀ c, Reads P.toNat A B 7 f c → c = ⟨x, y, false⟩) := by
    rintro c (⟨e, _⟩ | ⟨_, _, rfl, _⟩ | ⟨e, _⟩)
    · omega
    · rw [hx, hy]
    · omega
  have HS := hide hs0
  have Hc := hide hc
  clear hs hs0 hr h0 hx hy hc
  obtain ⟨o1, eo1⟩ : ∃ o, off + 1 = o := ⟨_, rfl⟩
  obtain ⟨o4, eo4⟩ : ∃ o, off + 4 = o := ⟨_, rfl⟩
  obtain ⟨p1, ep1⟩ : ∃ o, cap - 1 = o := ⟨_, rfl⟩
  obtain ⟨p4, ep4⟩ : ∃ o, cap - 4 = o := ⟨_, rfl⟩
  rw [eo1, ep1] at HX
  rw [eo4, ep4] at HY
  go_enter Tryd.func75, Tryd.ntmps75
  go_wp2
  have h4c : (4 : Int) ≤ (cap : Int) := by omega
  have h7c : (7 : Int) ≤ (cap : Int) := by omega
  have hc1 : ¬ cap = 1 := by omega
  have hc4 : ¬ cap = 4 := by omega
  refine anyW_begin 9 rfl (by kernel_rfl) ?_
  refine anyW_take 0 7 2 rfl (by decide) (by kernel_rfl) (fun _ _ d _ _ h => by cases d <;> exact h) ?_
  repeat (refine headS_step (fun K hK => ?_); go_simp; first | (refine hK _ ?_; clear hK K) | (apply Exists.intro; refine ⟨fun _ => ?_, hK _ ?_⟩; (first | (go_at_call_of 112 (p1); exact calls_head (HX.out _ (HS.out.of_all (below_regrown _ _ _)))) | (go_at_call_of 112 (p4); exact calls_head (HY.out _ (HS.out.of_all (below_regrown _ _ _))))); clear hK K))
  refine headS_nil ?_
  clear h4c h7c hc1 hc4 HX HY hcl eo1 eo4 ep1 ep4
  refine anyW_one 7 (by kernel_rfl) ?_
  refine stepW_run rfl ?_
  intro w2 hw2 K hK
  go_simp
  refine hK _ _ (Below.alloc hw2 (Below.size hw2) _) ?_
  clear hK K
  refine anyW_one 8 (by kernel_rfl) ?_
  refine stepW_run rfl ?_
  intro w3 hw3 K hK
  have T3 := PtAt.below (PtAt.alloc w2 zeroP 27) hw3 (by simp)
  obtain ⟨t0, t1, t2, v0, v1, v2⟩ := T3
  simp only [zeroP] at t0 t1 t2
  go_simp
  refine hK _ (putPt w3 w2.heap.size ⟨x, y, false⟩) (below_put (C := w2.heap.size) (Ext.trans (Below.alloc hw2 (Below.size hw2) _) hw3) (Below.size hw2) ⟨x, y, false⟩) ?_
  clear hK K t0 t1 t2 v0 v1 v2
  refine anyW_done (by kernel_rfl) ?_ 0
  intro w5 hw5
  have E := tail_pt (c := ⟨x, y, false⟩) hw2 hw3 hw5 (Ext.refl w5)
  obtain ⟨X5, T5, s5, s6⟩ := E
  clear hw2 hw3 hw5
  generalize w2.heap.size = S at *
  clear w2 w3 k0 k1 k2 k3 k4 k5 a0 a1 a2 b0 b1 b2 r0 r1 r2 q0 q1 q2
  have F5 := HF.out.call X5
  have HF5 := hide F5
  have HZ : Hid (w.heap.size + 3 ≤ S) := Nat.le_trans HF.out.big s5
  have HT := hide T5
  clear HF s5 X5
  obtain ⟨⟨k0, k1, k2, k3, k4, k5⟩, -, -, -, -⟩ := F5
  obtain ⟨t0, t1, t2, -, -, -⟩ := T5
  go_wp2_with fail
  refine (l3On_ok Hc.out ⟨x, y, false⟩ _).mono ?_
  rintro r w6 ⟨⟨ok, rfl, ho⟩, hw6⟩
  have F6 := HF5.out.call hw6
  have T6 := HT.out.below hw6 (by omega)
  have HF6 := hide F6
  clear k0 k1 k2 k3 k4 k5 t0 t1 t2 HF5 HT hw6
  obtain ⟨-, ⟨a0, a1, a2, b0, b1, b2⟩, ⟨r0, r1, r2, -, -, -⟩, -, -⟩ := F6
  obtain ⟨t0, t1, t2, -, -, -⟩ := T6
  simp only [zeroP] at a0 a1 a2 r0 r1 r2 t0 t1 t2
  cases ok
  · have Hn : Hid (GivesRd P A B N gx gy 7 f (.returned (.tuple #[.agg #[.int .i64 0, .int .i64 0, .bool false], .bool false]))) := givesRd_no (fun c v h => by
      have e := HU.out c h
      subst e
      have := ho.2 (HR.out.1 h)
      simp at this)
    clear ho HU HR
    go_wp2
    refine bodyPost_ret (v := .tuple #[.agg #[.int .i64 0, .int .i64 0, .bool false], .bool false]) (by simp [results, Tryd.results75, go_sem, a0, a1, a2, r0, r1, r2]) rfl ⟨Hn.out, ?_⟩
    exact below_put HF6.out.below (C := w.heap.size + 1) (by omega) zeroP
  · have HY : Hid (GivesRd P A B N gx gy 7 f (.returned (.tuple #[.agg #[.int .i64 x, .int .i64 y, .bool false], .bool true]))) := givesRd_yes (c := ⟨x, y, false⟩) Hc.out (HR.out.2 (ho.1 rfl))
    clear ho HU HR
    go_wp2
    refine bodyPost_ret (v := .tuple #[.agg #[.int .i64 x, .int .i64 y, .bool false], .bool true]) (by simp [results, Tryd.results75, go_sem, a0, a1, a2]) rfl ⟨HY.out, ?_⟩
    exact below_put HF6.out.below (C := w.heap.size + 1) (by omega) ⟨x, y, false⟩

set_option linter.unusedSimpArgs false
open Go.RowKit Go.Sort

set_option maxHeartbeats 1600000 in
set_option maxRecDepth 100000 in
theorem l3Point_two (P A B N gx gy : Int) (a : Option Addr) (b off n cap : Nat) (f : Nat → Int) (w : World) (hc : CvOk P A B N gx gy) (hs : BSeg w a b off n f) (hr : ∀ i, i < n → 0 ≤ f i ∧ f i ≤ 255) (hcap : n ≤ cap) (hn : n = 4) (h0 : f 0 = 2) :
    Calls Tryd.prog 75 #[.agg #[.int .i64 P, .int .i64 A, .int .i64 B, .int .i64 N, .int .i64 gx, .int .i64 gy], .slice a n cap] w fun r w' => GivesRd P A B N gx gy n f r ∧ Below w.heap.size w w' := by
  subst hn
  obtain ⟨x, hx⟩ : ∃ x, rd3 f 1 = x := ⟨_, rfl⟩
  have F0 : Fr2 w (((w.alloc (.cells #[.int .i64 P, .int .i64 A, .int .i64 B, .int .i64 N, .int .i64 gx, .int .i64 gy] 25)).alloc (.cells #[.int .i64 0, .int .i64 0, .bool false] 27)).alloc (.cells #[.int .i64 0, .int .i64 0, .bool false] 27)) P A B N gx gy zeroP zeroP := Fr2.box w P A B N gx gy zeroP zeroP 25 27 27
  have HF := hide F0
  obtain ⟨⟨k0, k1, k2, k3, k4, k5⟩, ⟨a0, a1, a2, b0, b1, b2⟩, ⟨r0, r1, r2, q0, q1, q2⟩, -, -⟩ := F0
  simp only [zeroP] at a0 a1 a2 r0 r1 r2
  have hb := hs.lt (by omega)
  have hs0 := hs.of_all HF.out.below
  have hcl := hs0.cell 0 (by omega)
  obtain rfl := hs.at' (by omega)
  rw [Nat.add_zero, h0] at hcl
  have HX : Hid (∀ W, BSeg W (some ⟨b, off, none⟩) b off 4 f → Calls Tryd.prog 112 #[.slice (some ⟨b, off + 1, none⟩) 3 (cap - 1)] W fun r w' => r = .returned (.int .i64 x) ∧ Below W.heap.size W w') := fun W h => by
    have := l3Read_any b (off + 1) (cap - 1) (fun i => f (1 + i)) W (h.drop 1 3 (by omega)) (fun i hi => hr _ (by omega))
    rwa [show rd3 (fun i => f (1 + i)) 0 = x from hx] at this
  have HY : Hid (∀ y, On P.toNat A B ⟨x, y, false⟩ → y % 2 = 0 → GivesRd P A B N gx gy 4 f (.returned (.tuple #[.agg #[.int .i64 x, .int .i64 y, .bool false], .bool true]))) := fun y h k =>
    givesRd_yes (c := ⟨x, y, false⟩) hc (Or.inr (Or.inr ⟨rfl, by omega, rfl, hx.symm, by rw [k, h0]; rfl, h⟩))
  have HN : Hid ((∀ z, z % 2 = 0 → ¬ Aff P.toNat A B x z) → GivesRd P A B N gx gy 4 f (.returned (.tuple #[.agg #[.int .i64 0, .int .i64 0, .bool false], .bool false]))) := fun h => givesRd_no (fun c v k => by
    rcases k with ⟨e, _⟩ | ⟨e, _⟩ | ⟨_, _, k1, k2, k3, k4⟩
    · omega
    · omega
    · have := k4.aff k1
      rw [k2, hx] at this
      exact h c.y (by omega) this)
  obtain ⟨x0, x1⟩ : 0 ≤ x ∧ x ≤ 16777215 := by rw [← hx]; exact rd3_range (hr 1 (by omega)) (hr 2 (by omega)) (hr 3 (by omega))
  have HS := hide hs0
  have Hc := hide hc
  have H0 := hide h0
  clear hs hs0 hr h0 hx hc
  have h4c : (4 : Int) ≤ (cap : Int) := by omega
  have hc1 : ¬ cap = 1 := by omega
  go_enter Tryd.func75, Tryd.ntmps75
  go_wp2_with fail
  refine (HX.out _ HS.out).mono ?_
  rintro r w2 ⟨rfl, hw2⟩
  have F2 := HF.out.call hw2
  have HF2 := hide F2
  have S2 := HS.out.of_all hw2
  have HS2 := hide S2
  clear HX HF HS h4c hc1 hw2 k0 k1 k2 k3 k4 k5 a0 a1 a2 b0 b1 b2 r0 r1 r2 q0 q1 q2 hcl
  obtain ⟨⟨k0, k1, k2, k3, k4, k5⟩, ⟨a0, a1, a2, b0, b1, b2⟩, ⟨r0, r1, r2, q0, q1, q2⟩, -, -⟩ := F2
  simp only [zeroP] at a0 a1 a2 r0 r1 r2
  by_cases hxP : x < P
  rotate_left
  · have Hn := hide (HN.out (fun z _ h => by have := h.x1; have := Hc.out.p5; omega))
    have hxP' : P ≤ x := by omega
    go_wp2
    refine bodyPost_ret (v := .tuple #[.agg #[.int .i64 0, .int .i64 0, .bool false], .bool false]) (by simp [results, Tryd.results75, go_sem, a0, a1, a2, r0, r1, r2]) rfl ⟨Hn.out, ?_⟩
    exact below_put HF2.out.below (C := w.heap.size + 1) (by omega) zeroP
  have hP5 := Hc.out.p5
  have hPM := Hc.out.pM
  have hA0 := Hc.out.a0
  have hA1 := Hc.out.a1
  have hB0 := Hc.out.b0
  have hB1 := Hc.out.b1
  obtain ⟨m, hm⟩ : ∃ m, x * x % P = m := ⟨_, rfl⟩
  have m0 : 0 ≤ m := by rw [← hm]; exact Int.emod_nonneg _ (by omega)
  have m1 : m < P := by rw [← hm]; exact Int.emod_lt_of_pos _ (by omega)
  obtain ⟨u0, u1⟩ := mulBd x0 (show x ≤ 1048576 by omega) x0 (show x ≤ 1048576 by omega)
  obtain ⟨v0, v1⟩ := mulBd (x := m + A) (y := x) (p := 2097152) (q := 1048576) (by omega) (by omega) x0 (by omega)
  obtain ⟨S, hS⟩ : ∃ S, ((m + A) * x + B) % P = S := ⟨_, rfl⟩
  obtain ⟨E, hE⟩ : ∃ E, (P + 1) / 4 = E := ⟨_, rfl⟩
  have S0 : 0 ≤ S := by rw [← hS]; exact Int.emod_nonneg _ (by omega)
  have S1 : S < P := by rw [← hS]; exact Int.emod_lt_of_pos _ (by omega)
  have c1 : IntKind.i64.wrap (x * x) = x * x := wrap_small (by omega) (by omega)
  have c2 : (x * x).tmod P = m := by rw [Int.tmod_eq_emod_of_nonneg (by omega), hm]
  have c3 : IntKind.i64.wrap (m + A) = m + A := wrap_small (by omega) (by omega)
  have c4 : IntKind.i64.wrap ((m + A) * x) = (m + A) * x := wrap_small (by omega) (by omega)
  have c5 : IntKind.i64.wrap ((m + A) * x + B) = (m + A) * x + B := wrap_small (by omega) (by omega)
  have c6 : ((m + A) * x + B).tmod P = S := by rw [Int.tmod_eq_emod_of_nonneg (by omega), hS]
  have c7 : IntKind.i64.wrap (P + 1) = P + 1 := wrap_small (by omega) (by omega)
  have c8 : (P + 1).tdiv 4 = E := by rw [Int.tdiv_eq_ediv_of_nonneg (by omega), hE]
  have c9 : IntKind.i64.wrap E = E := wrap_small (by omega) (by omega)
  have hP0 : ¬ P = 0 := by omega
  have hP0' : (P == 0) = false := by simpa using hP0
  have HSq : Hid (((S.toNat : Nat) : Int) = (x * x * x + A * x + B) % P) := by
    show _ = _
    rw [Int.toNat_of_nonneg S0, ← hS, ← hm]
    refine mod_eq ?_
    obtain ⟨k, hk⟩ : P ∣ x * x % P - x * x := ⟨-(x * x / P), by have := Int.emod_add_mul_ediv (x * x) P; grind⟩
    exact ⟨k * x, by grind⟩
  obtain ⟨R, hR⟩ : ∃ R : Int, ((S.toNat ^ E.toNat % P.toNat : Nat) : Int) = R := ⟨_, rfl⟩
  have HE : Hid (E.toNat = (P.toNat + 1) / 4) := by show _ = _; omega
  have R0 : 0 ≤ R := by omega
  have R1 : R < P := by rw [← hR]; have := Nat.mod_lt (S.toNat ^ E.toNat) (show 0 < P.toNat by omega); omega
  have HP : Hid (∀ W, Calls Tryd.prog 113 #[.int .i64 S, .int .i64 E, .int .i64 P] W fun r w' => r = .returned (.int .i64 R) ∧ Below W.heap.size W w') := fun W => by
    have := l2Pow_at S E P W S0 (by omega) (by omega) (by omega) (by omega) (by omega)
    rwa [hR] at this
  have HM : Hid (∀ y, y = (if R % 2 = 0 then R else P - R) → (Aff P.toNat A B x y ∧ y % 2 = 0) ∨ ∀ z, z % 2 = 0 → ¬ Aff P.toNat A B x z) := fun y hy => by
    refine model_root Hc.out.pp Hc.out.p4 hP5 x0 hxP (by omega) HSq.out ?_
    rw [← HE.out, hR]
    exact hy
  have HP4 := hide Hc.out.p4
  have e0 := cell_regrown k0
  have e1 := cell_regrown k1
  have e2 := cell_regrown k2
  have g0 := cell_regrown a0
  clear hm hS hE hR HE HSq u0 u1 v0 v1
  go_wp2
  refine anyW_begin 25 rfl (by kernel_rfl) ?_
  refine anyW_take 0 25 0 rfl (by decide) (by kernel_rfl) (fun _ _ d _ _ h => by cases d <;> exact h) ?_
  repeat (refine headS_step (fun K hK => ?_); go_simp; first | (refine hK _ ?_; clear hK K) | (apply Exists.intro; refine ⟨fun _ => ?_, hK _ ?_⟩; ((go_at_call 113; exact calls_head (HP.out _))); clear hK K))
  refine headS_nil ?_
  refine anyW_done (by kernel_rfl) ?_ 0
  intro w3 hw3
  clear e0 e1 e2 g0 c1 c2 c3 c4 c5 c6 c7 c8 c9
  have F3 := HF2.out.call hw3
  have HF3 := hide F3
  have S3 := HS2.out.of_all hw3
  have HS3 := hide S3
  clear k0 k1 k2 k3 k4 k5 a0 a1 a2 b0 b1 b2 r0 r1 r2 q0 q1 q2 HF2 HS2 hw3 S2
  obtain ⟨⟨k0, k1, k2, k3, k4, k5⟩, ⟨a0, a1, a2, b0, b1, b2⟩, ⟨r0, r1, r2, q0, q1, q2⟩, -, -⟩ := F3
  simp only [zeroP] at a0 a1 a2 r0 r1 r2
  have hcl := S3.cell 0 (by omega)
  rw [Nat.add_zero, H0.out] at hcl
  clear S3
  by_cases hR2 : R % 2 = 0
  · skip
    have HM := HM.out R (by rw [if_pos hR2])
    have HM := hide HM
    have l := HF3.out.cv.below ((Below.refl _ _).alloc (Nat.le_refl _) (.cells #[.int .i64 x, .int .i64 R, .bool false] 27)) (by have := HF3.out.big; omega)
    obtain ⟨l0, l1, l2, l3, l4, l5⟩ := l
    go_wp2_with fail
    refine (l3On_ok Hc.out ⟨x, R, false⟩ _).mono ?_
    rintro r w6 ⟨⟨ok, rfl, ho⟩, hw6⟩
    have F6 := (HF3.out.call ((Below.refl _ _).alloc (Nat.le_refl _) (.cells #[.int .i64 x, .int .i64 R, .bool false] 27))).call hw6
    have T6 := (PtAt.alloc w3 ⟨x, R, false⟩ 27).below hw6 (by simp)
    have hcl := (HS3.out.of_all (((Below.refl _ _).alloc (Nat.le_refl _) _).trans (hw6.mono (by simp)))).cell 0 (by omega)
    rw [Nat.add_zero, H0.out] at hcl
    have HZ : Hid (w.heap.size + 3 ≤ w3.heap.size) := HF3.out.big
    have HF6 := hide F6
    clear k0 k1 k2 k3 k4 k5 l0 l1 l2 l3 l4 l5 a0 a1 a2 b0 b1 b2 r0 r1 r2 q0 q1 q2 HF3 HS3 hw6
    obtain ⟨-, ⟨a0, a1, a2, b0, b1, b2⟩, ⟨r0, r1, r2, -, -, -⟩, -, -⟩ := F6
    obtain ⟨t0, t1, t2, -, -, -⟩ := T6
    simp only [zeroP] at a0 a1 a2 r0 r1 r2 t0 t1 t2
    cases ok
    · have Hn := hide (HN.out (HM.out.resolve_left fun h => by
        have := ho.2 (Or.inr ⟨rfl, h.1⟩)
        simp at this))
      clear ho HM
      go_wp2
      refine bodyPost_ret (v := .tuple #[.agg #[.int .i64 0, .int .i64 0, .bool false], .bool false]) (by simp [results, Tryd.results75, go_sem, a0, a1, a2, r0, r1, r2]) rfl ⟨Hn.out, ?_⟩
      exact below_put HF6.out.below (C := w.heap.size + 1) (by omega) zeroP
    · have HY := hide (HY.out (R) (ho.1 rfl) (by omega))
      clear ho HM
      go_wp2
      refine bodyPost_ret (v := .tuple #[.agg #[.int .i64 x, .int .i64 R, .bool false], .bool true]) (by simp [results, Tryd.results75, go_sem, a0, a1, a2]) rfl ⟨HY.out, ?_⟩
      exact below_put HF6.out.below (C := w.heap.size + 1) (by omega) ⟨x, R, false⟩
  · have hR3 : R % 2 = 1 - 0 := by omega
    have hR4 : (P - R) % 2 = 0 := by have := HP4.out; omega
    have hR5 : 0 ≤ P - R := by omega
    have HM := HM.out (P - R) (by rw [if_neg hR2])
    have HM := hide HM
    clear hR2
    have l := HF3.out.cv.below ((Below.refl _ _).alloc (Nat.le_refl _) (.cells #[.int .i64 x, .int .i64 (P - R), .bool false] 27)) (by have := HF3.out.big; omega)
    obtain ⟨l0, l1, l2, l3, l4, l5⟩ := l
    go_wp2_with fail
    refine (l3On_ok Hc.out ⟨x, (P - R), false⟩ _).mono ?_
    rintro r w6 ⟨⟨ok, rfl, ho⟩, hw6⟩
    have F6 := (HF3.out.call ((Below.refl _ _).alloc (Nat.le_refl _) (.cells #[.int .i64 x, .int .i64 (P - R), .bool false] 27))).call hw6
    have T6 := (PtAt.alloc w3 ⟨x, (P - R), false⟩ 27).below hw6 (by simp)
    have hcl := (HS3.out.of_all (((Below.refl _ _).alloc (Nat.le_refl _) _).trans (hw6.mono (by simp)))).cell 0 (by omega)
    rw [Nat.add_zero, H0.out] at hcl
    have HZ : Hid (w.heap.size + 3 ≤ w3.heap.size) := HF3.out.big
    have HF6 := hide F6
    clear k0 k1 k2 k3 k4 k5 l0 l1 l2 l3 l4 l5 a0 a1 a2 b0 b1 b2 r0 r1 r2 q0 q1 q2 HF3 HS3 hw6
    obtain ⟨-, ⟨a0, a1, a2, b0, b1, b2⟩, ⟨r0, r1, r2, -, -, -⟩, -, -⟩ := F6
    obtain ⟨t0, t1, t2, -, -, -⟩ := T6
    simp only [zeroP] at a0 a1 a2 r0 r1 r2 t0 t1 t2
    cases ok
    · have Hn := hide (HN.out (HM.out.resolve_left fun h => by
        have := ho.2 (Or.inr ⟨rfl, h.1⟩)
        simp at this))
      clear ho HM
      go_wp2
      refine bodyPost_ret (v := .tuple #[.agg #[.int .i64 0, .int .i64 0, .bool false], .bool false]) (by simp [results, Tryd.results75, go_sem, a0, a1, a2, r0, r1, r2]) rfl ⟨Hn.out, ?_⟩
      exact below_put HF6.out.below (C := w.heap.size + 1) (by omega) zeroP
    · have HY := hide (HY.out (P - R) (ho.1 rfl) (by omega))
      clear ho HM
      go_wp2
      refine bodyPost_ret (v := .tuple #[.agg #[.int .i64 x, .int .i64 (P - R), .bool false], .bool true]) (by simp [results, Tryd.results75, go_sem, a0, a1, a2]) rfl ⟨HY.out, ?_⟩
      exact below_put HF6.out.below (C := w.heap.size + 1) (by omega) ⟨x, (P - R), false⟩

set_option maxHeartbeats 1600000 in
set_option maxRecDepth 100000 in
theorem l3Point_three (P A B N gx gy : Int) (a : Option Addr) (b off n cap : Nat) (f : Nat → Int) (w : World) (hc : CvOk P A B N gx gy) (hs : BSeg w a b off n f) (hr : ∀ i, i < n → 0 ≤ f i ∧ f i ≤ 255) (hcap : n ≤ cap) (hn : n = 4) (h0 : f 0 = 3) :
    Calls Tryd.prog 75 #[.agg #[.int .i64 P, .int .i64 A, .int .i64 B, .int .i64 N, .int .i64 gx, .int .i64 gy], .slice a n cap] w fun r w' => GivesRd P A B N gx gy n f r ∧ Below w.heap.size w w' := by
  subst hn
  obtain ⟨x, hx⟩ : ∃ x, rd3 f 1 = x := ⟨_, rfl⟩
  have F0 : Fr2 w (((w.alloc (.cells #[.int .i64 P, .int .i64 A, .int .i64 B, .int .i64 N, .int .i64 gx, .int .i64 gy] 25)).alloc (.cells #[.int .i64 0, .int .i64 0, .bool false] 27)).alloc (.cells #[.int .i64 0, .int .i64 0, .bool false] 27)) P A B N gx gy zeroP zeroP := Fr2.box w P A B N gx gy zeroP zeroP 25 27 27
  have HF := hide F0
  obtain ⟨⟨k0, k1, k2, k3, k4, k5⟩, ⟨a0, a1, a2, b0, b1, b2⟩, ⟨r0, r1, r2, q0, q1, q2⟩, -, -⟩ := F0
  simp only [zeroP] at a0 a1 a2 r0 r1 r2
  have hb := hs.lt (by omega)
  have hs0 := hs.of_all HF.out.below
  have hcl := hs0.cell 0 (by omega)
  obtain rfl := hs.at' (by omega)
  rw [Nat.add_zero, h0] at hcl
  have HX : Hid (∀ W, BSeg W (some ⟨b, off, none⟩) b off 4 f → Calls Tryd.prog 112 #[.slice (some ⟨b, off + 1, none⟩) 3 (cap - 1)] W fun r w' => r = .returned (.int .i64 x) ∧ Below W.heap.size W w') := fun W h => by
    have := l3Read_any b (off + 1) (cap - 1) (fun i => f (1 + i)) W (h.drop 1 3 (by omega)) (fun i hi => hr _ (by omega))
    rwa [show rd3 (fun i => f (1 + i)) 0 = x from hx] at this
  have HY : Hid (∀ y, On P.toNat A B ⟨x, y, false⟩ → y % 2 = 1 → GivesRd P A B N gx gy 4 f (.returned (.tuple #[.agg #[.int .i64 x, .int .i64 y, .bool false], .bool true]))) := fun y h k =>
    givesRd_yes (c := ⟨x, y, false⟩) hc (Or.inr (Or.inr ⟨rfl, by omega, rfl, hx.symm, by rw [k, h0]; rfl, h⟩))
  have HN : Hid ((∀ z, z % 2 = 1 → ¬ Aff P.toNat A B x z) → GivesRd P A B N gx gy 4 f (.returned (.tuple #[.agg #[.int .i64 0, .int .i64 0, .bool false], .bool false]))) := fun h => givesRd_no (fun c v k => by
    rcases k with ⟨e, _⟩ | ⟨e, _⟩ | ⟨_, _, k1, k2, k3, k4⟩
    · omega
    · omega
    · have := k4.aff k1
      rw [k2, hx] at this
      exact h c.y (by omega) this)
  obtain ⟨x0, x1⟩ : 0 ≤ x ∧ x ≤ 16777215 := by rw [← hx]; exact rd3_range (hr 1 (by omega)) (hr 2 (by omega)) (hr 3 (by omega))
  have HS := hide hs0
  have Hc := hide hc
  have H0 := hide h0
  clear hs hs0 hr h0 hx hc
  have h4c : (4 : Int) ≤ (cap : Int) := by omega
  have hc1 : ¬ cap = 1 := by omega
  go_enter Tryd.func75, Tryd.ntmps75
  go_wp2_with fail
  refine (HX.out _ HS.out).mono ?_
  rintro r w2 ⟨rfl, hw2⟩
  have F2 := HF.out.call hw2
  have HF2 := hide F2
  have S2 := HS.out.of_all hw2
  have HS2 := hide S2
  clear HX HF HS h4c hc1 hw2 k0 k1 k2 k3 k4 k5 a0 a1 a2 b0 b1 b2 r0 r1 r2 q0 q1 q2 hcl
  obtain ⟨⟨k0, k1, k2, k3, k4, k5⟩, ⟨a0, a1, a2, b0, b1, b2⟩, ⟨r0, r1, r2, q0, q1, q2⟩, -, -⟩ := F2
  simp only [zeroP] at a0 a1 a2 r0 r1 r2
  by_cases hxP : x < P
  rotate_left
  · have Hn := hide (HN.out (fun z _ h => by have := h.x1; have := Hc.out.p5; omega))
    have hxP' : P ≤ x := by omega
    go_wp2
    refine bodyPost_ret (v := .tuple #[.agg #[.int .i64 0, .int .i64 0, .bool false], .bool false]) (by simp [results, Tryd.results75, go_sem, a0, a1, a2, r0, r1, r2]) rfl ⟨Hn.out, ?_⟩
    exact below_put HF2.out.below (C := w.heap.size + 1) (by omega) zeroP
  have hP5 := Hc.out.p5
  have hPM := Hc.out.pM
  have hA0 := Hc.out.a0
  have hA1 := Hc.out.a1
  have hB0 := Hc.out.b0
  have hB1 := Hc.out.b1
  obtain ⟨m, hm⟩ : ∃ m, x * x % P = m := ⟨_, rfl⟩
  have m0 : 0 ≤ m := by rw [← hm]; exact Int.emod_nonneg _ (by omega)
  have m1 : m < P := by rw [← hm]; exact Int.emod_lt_of_pos _ (by omega)
  obtain ⟨u0, u1⟩ := mulBd x0 (show x ≤ 1048576 by omega) x0 (show x ≤ 1048576 by omega)
  obtain ⟨v0, v1⟩ := mulBd (x := m + A) (y := x) (p := 2097152) (q := 1048576) (by omega) (by omega) x0 (by omega)
  obtain ⟨S, hS⟩ : ∃ S, ((m + A) * x + B) % P = S := ⟨_, rfl⟩
  obtain ⟨E, hE⟩ : ∃ E, (P + 1) / 4 = E := ⟨_, rfl⟩
  have S0 : 0 ≤ S := by rw [← hS]; exact Int.emod_nonneg _ (by omega)
  have S1 : S < P := by rw [← hS]; exact Int.emod_lt_of_pos _ (by omega)
  have c1 : IntKind.i64.wrap (x * x) = x * x := wrap_small (by omega) (by omega)
  have c2 : (x * x).tmod P = m := by rw [Int.tmod_eq_emod_of_nonneg (by omega), hm]
  have c3 : IntKind.i64.wrap (m + A) = m + A := wrap_small (by omega) (by omega)
  have c4 : IntKind.i64.wrap ((m + A) * x) = (m + A) * x := wrap_small (by omega) (by omega)
  have c5 : IntKind.i64.wrap ((m + A) * x + B) = (m + A) * x + B := wrap_small (by omega) (by omega)
  have c6 : ((m + A) * x + B).tmod P = S := by rw [Int.tmod_eq_emod_of_nonneg (by omega), hS]
  have c7 : IntKind.i64.wrap (P + 1) = P + 1 := wrap_small (by omega) (by omega)
  have c8 : (P + 1).tdiv 4 = E := by rw [Int.tdiv_eq_ediv_of_nonneg (by omega), hE]
  have c9 : IntKind.i64.wrap E = E := wrap_small (by omega) (by omega)
  have hP0 : ¬ P = 0 := by omega
  have hP0' : (P == 0) = false := by simpa using hP0
  have HSq : Hid (((S.toNat : Nat) : Int) = (x * x * x + A * x + B) % P) := by
    show _ = _
    rw [Int.toNat_of_nonneg S0, ← hS, ← hm]
    refine mod_eq ?_
    obtain ⟨k, hk⟩ : P ∣ x * x % P - x * x := ⟨-(x * x / P), by have := Int.emod_add_mul_ediv (x * x) P; grind⟩
    exact ⟨k * x, by grind⟩
  obtain ⟨R, hR⟩ : ∃ R : Int, ((S.toNat ^ E.toNat % P.toNat : Nat) : Int) = R := ⟨_, rfl⟩
  have HE : Hid (E.toNat = (P.toNat + 1) / 4) := by show _ = _; omega
  have R0 : 0 ≤ R := by omega
  have R1 : R < P := by rw [← hR]; have := Nat.mod_lt (S.toNat ^ E.toNat) (show 0 < P.toNat by omega); omega
  have HP : Hid (∀ W, Calls Tryd.prog 113 #[.int .i64 S, .int .i64 E, .int .i64 P] W fun r w' => r = .returned (.int .i64 R) ∧ Below W.heap.size W w') := fun W => by
    have := l2Pow_at S E P W S0 (by omega) (by omega) (by omega) (by omega) (by omega)
    rwa [hR] at this
  have HM : Hid (∀ y, y = (if R % 2 = 1 then R else P - R) → (Aff P.toNat A B x y ∧ y % 2 = 1) ∨ ∀ z, z % 2 = 1 → ¬ Aff P.toNat A B x z) := fun y hy => by
    refine model_root Hc.out.pp Hc.out.p4 hP5 x0 hxP (by omega) HSq.out ?_
    rw [← HE.out, hR]
    exact hy
  have HP4 := hide Hc.out.p4
  have e0 := cell_regrown k0
  have e1 := cell_regrown k1
  have e2 := cell_regrown k2
  have g0 := cell_regrown a0
  clear hm hS hE hR HE HSq u0 u1 v0 v1
  go_wp2
  refine anyW_begin 25 rfl (by kernel_rfl) ?_
  refine anyW_take 0 25 0 rfl (by decide) (by kernel_rfl) (fun _ _ d _ _ h => by cases d <;> exact h) ?_
  repeat (refine headS_step (fun K hK => ?_); go_simp; first | (refine hK _ ?_; clear hK K) | (apply Exists.intro; refine ⟨fun _ => ?_, hK _ ?_⟩; ((go_at_call 113; exact calls_head (HP.out _))); clear hK K))
  refine headS_nil ?_
  refine anyW_done (by kernel_rfl) ?_ 0
  intro w3 hw3
  clear e0 e1 e2 g0 c1 c2 c3 c4 c5 c6 c7 c8 c9
  have F3 := HF2.out.call hw3
  have HF3 := hide F3
  have S3 := HS2.out.of_all hw3
  have HS3 := hide S3
  clear k0 k1 k2 k3 k4 k5 a0 a1 a2 b0 b1 b2 r0 r1 r2 q0 q1 q2 HF2 HS2 hw3 S2
  obtain ⟨⟨k0, k1, k2, k3, k4, k5⟩, ⟨a0, a1, a2, b0, b1, b2⟩, ⟨r0, r1, r2, q0, q1, q2⟩, -, -⟩ := F3
  simp only [zeroP] at a0 a1 a2 r0 r1 r2
  have hcl := S3.cell 0 (by omega)
  rw [Nat.add_zero, H0.out] at hcl
  clear S3
  by_cases hR2 : R % 2 = 1
  · skip
    have HM := HM.out R (by rw [if_pos hR2])
    have HM := hide HM
    have l := HF3.out.cv.below ((Below.refl _ _).alloc (Nat.le_refl _) (.cells #[.int .i64 x, .int .i64 R, .bool false] 27)) (by have := HF3.out.big; omega)
    obtain ⟨l0, l1, l2, l3, l4, l5⟩ := l
    go_wp2_with fail
    refine (l3On_ok Hc.out ⟨x, R, false⟩ _).mono ?_
    rintro r w6 ⟨⟨ok, rfl, ho⟩, hw6⟩
    have F6 := (HF3.out.call ((Below.refl _ _).alloc (Nat.le_refl _) (.cells #[.int .i64 x, .int .i64 R, .bool false] 27))).call hw6
    have T6 := (PtAt.alloc w3 ⟨x, R, false⟩ 27).below hw6 (by simp)
    have hcl := (HS3.out.of_all (((Below.refl _ _).alloc (Nat.le_refl _) _).trans (hw6.mono (by simp)))).cell 0 (by omega)
    rw [Nat.add_zero, H0.out] at hcl
    have HZ : Hid (w.heap.size + 3 ≤ w3.heap.size) := HF3.out.big
    have HF6 := hide F6
    clear k0 k1 k2 k3 k4 k5 l0 l1 l2 l3 l4 l5 a0 a1 a2 b0 b1 b2 r0 r1 r2 q0 q1 q2 HF3 HS3 hw6
    obtain ⟨-, ⟨a0, a1, a2, b0, b1, b2⟩, ⟨r0, r1, r2, -, -, -⟩, -, -⟩ := F6
    obtain ⟨t0, t1, t2, -, -, -⟩ := T6
    simp only [zeroP] at a0 a1 a2 r0 r1 r2 t0 t1 t2
    cases ok
    · have Hn := hide (HN.out (HM.out.resolve_left fun h => by
        have := ho.2 (Or.inr ⟨rfl, h.1⟩)
        simp at this))
      clear ho HM
      go_wp2
      refine bodyPost_ret (v := .tuple #[.agg #[.int .i64 0, .int .i64 0, .bool false], .bool false]) (by simp [results, Tryd.results75, go_sem, a0, a1, a2, r0, r1, r2]) rfl ⟨Hn.out, ?_⟩
      exact below_put HF6.out.below (C := w.heap.size + 1) (by omega) zeroP
    · have HY := hide (HY.out (R) (ho.1 rfl) (by omega))
      clear ho HM
      go_wp2
      refine bodyPost_ret (v := .tuple #[.agg #[.int .i64 x, .int .i64 R, .bool false], .bool true]) (by simp [results, Tryd.results75, go_sem, a0, a1, a2]) rfl ⟨HY.out, ?_⟩
      exact below_put HF6.out.below (C := w.heap.size + 1) (by omega) ⟨x, R, false⟩
  · have hR3 : R % 2 = 1 - 1 := by omega
    have hR4 : (P - R) % 2 = 1 := by have := HP4.out; omega
    have hR5 : 0 ≤ P - R := by omega
    have HM := HM.out (P - R) (by rw [if_neg hR2])
    have HM := hide HM
    clear hR2
    have l := HF3.out.cv.below ((Below.refl _ _).alloc (Nat.le_refl _) (.cells #[.int .i64 x, .int .i64 (P - R), .bool false] 27)) (by have := HF3.out.big; omega)
    obtain ⟨l0, l1, l2, l3, l4, l5⟩ := l
    go_wp2_with fail
    refine (l3On_ok Hc.out ⟨x, (P - R), false⟩ _).mono ?_
    rintro r w6 ⟨⟨ok, rfl, ho⟩, hw6⟩
    have F6 := (HF3.out.call ((Below.refl _ _).alloc (Nat.le_refl _) (.cells #[.int .i64 x, .int .i64 (P - R), .bool false] 27))).call hw6
    have T6 := (PtAt.alloc w3 ⟨x, (P - R), false⟩ 27).below hw6 (by simp)
    have hcl := (HS3.out.of_all (((Below.refl _ _).alloc (Nat.le_refl _) _).trans (hw6.mono (by simp)))).cell 0 (by omega)
    rw [Nat.add_zero, H0.out] at hcl
    have HZ : Hid (w.heap.size + 3 ≤ w3.heap.size) := HF3.out.big
    have HF6 := hide F6
    clear k0 k1 k2 k3 k4 k5 l0 l1 l2 l3 l4 l5 a0 a1 a2 b0 b1 b2 r0 r1 r2 q0 q1 q2 HF3 HS3 hw6
    obtain ⟨-, ⟨a0, a1, a2, b0, b1, b2⟩, ⟨r0, r1, r2, -, -, -⟩, -, -⟩ := F6
    obtain ⟨t0, t1, t2, -, -, -⟩ := T6
    simp only [zeroP] at a0 a1 a2 r0 r1 r2 t0 t1 t2
    cases ok
    · have Hn := hide (HN.out (HM.out.resolve_left fun h => by
        have := ho.2 (Or.inr ⟨rfl, h.1⟩)
        simp at this))
      clear ho HM
      go_wp2
      refine bodyPost_ret (v := .tuple #[.agg #[.int .i64 0, .int .i64 0, .bool false], .bool false]) (by simp [results, Tryd.results75, go_sem, a0, a1, a2, r0, r1, r2]) rfl ⟨Hn.out, ?_⟩
      exact below_put HF6.out.below (C := w.heap.size + 1) (by omega) zeroP
    · have HY := hide (HY.out (P - R) (ho.1 rfl) (by omega))
      clear ho HM
      go_wp2
      refine bodyPost_ret (v := .tuple #[.agg #[.int .i64 x, .int .i64 (P - R), .bool false], .bool true]) (by simp [results, Tryd.results75, go_sem, a0, a1, a2]) rfl ⟨HY.out, ?_⟩
      exact below_put HF6.out.below (C := w.heap.size + 1) (by omega) ⟨x, (P - R), false⟩

set_option linter.unusedSimpArgs false
open Go.RowKit Go.Sort

theorem l3Point_any (P A B N gx gy : Int) (a : Option Addr) (b off n cap : Nat) (f : Nat → Int) (w : World) (hc : CvOk P A B N gx gy) (hs : BSeg w a b off n f) (hr : ∀ i, i < n → 0 ≤ f i ∧ f i ≤ 255) (hcap : n ≤ cap) :
    Calls Tryd.prog 75 #[.agg #[.int .i64 P, .int .i64 A, .int .i64 B, .int .i64 N, .int .i64 gx, .int .i64 gy], .slice a n cap] w fun r w' => GivesRd P A B N gx gy n f r ∧ Below w.heap.size w w' := by
  by_cases c1 : n = 1 ∧ f 0 = 0
  · exact l3Point_far P A B N gx gy a b off n cap f w hc hs c1.1 c1.2
  by_cases c7 : n = 7 ∧ f 0 = 4
  · exact l3Point_long P A B N gx gy a b off n cap f w hc hs hr hcap c7.1 c7.2
  by_cases c4 : n = 4 ∧ f 0 = 2
  · exact l3Point_two P A B N gx gy a b off n cap f w hc hs hr hcap c4.1 c4.2
  by_cases c5 : n = 4 ∧ f 0 = 3
  · exact l3Point_three P A B N gx gy a b off n cap f w hc hs hr hcap c5.1 c5.2
  exact l3Point_none P A B N gx gy a b off n cap f w hs (fun h k => c1 ⟨h, k⟩) (fun h k => c7 ⟨h, k⟩) (fun h => ⟨fun k => c4 ⟨h, k⟩, fun k => c5 ⟨h, k⟩⟩)

/-- A call's boxes: a curve and the answer's block. -/
structure Fr1 (w wr : World) (P A B N gx gy : Int) (z : Pt) : Prop where
  cv : CvAt wr w.heap.size P A B N gx gy
  rs : PtAt wr (w.heap.size + 1) z
  below : Below w.heap.size w wr
  big : w.heap.size + 2 ≤ wr.heap.size

theorem Fr1.box (w : World) (P A B N gx gy : Int) (z : Pt) (t1 t2 : TypeId) :
    Fr1 w ((w.alloc (.cells #[.int .i64 P, .int .i64 A, .int .i64 B, .int .i64 N, .int .i64 gx, .int .i64 gy] t1)).alloc (.cells #[.int .i64 z.x, .int .i64 z.y, .bool z.far] t2)) P A B N gx gy z := by
  refine ⟨⟨?_, ?_, ?_, ?_, ?_, ?_⟩, ⟨?_, ?_, ?_, ?_, ?_, ?_⟩, ?_, ?_⟩
  all_goals first | (simp [go_sem]; done) | skip
  repeat (first | exact Below.refl _ _ | refine Below.alloc ?_ (by simp <;> omega) _)

theorem Fr1.call {w wr w1 : World} {P A B N gx gy : Int} {z : Pt} (h : Fr1 w wr P A B N gx gy z) (hb : Below wr.heap.size wr w1) : Fr1 w w1 P A B N gx gy z :=
  ⟨h.cv.below hb (by have := h.big; omega), h.rs.below hb (by have := h.big; omega), h.below.trans (hb.mono (by have := h.big; omega)), Nat.le_trans h.big hb.size⟩

set_option maxHeartbeats 800000 in
set_option maxRecDepth 100000 in
theorem specPointRead_any (P A B N gx gy : Int) (a : Option Addr) (b off n cap : Nat) (f : Nat → Int) (w : World) (hP1 : P ≤ 9223372036854775807) (hN1 : N ≤ 9223372036854775807) (hs : BSeg w a b off n f) (hr : ∀ i, i < n → 0 ≤ f i ∧ f i ≤ 255) (hcap : n ≤ cap) :
    Calls Tryd.prog 30 #[.agg #[.int .i64 P, .int .i64 A, .int .i64 B, .int .i64 N, .int .i64 gx, .int .i64 gy], .slice a n cap] w fun r w' => GivesRd P A B N gx gy n f r ∧ Below w.heap.size w w' := by
  have F0 : Fr1 w ((w.alloc (.cells #[.int .i64 P, .int .i64 A, .int .i64 B, .int .i64 N, .int .i64 gx, .int .i64 gy] 25)).alloc (.cells #[.int .i64 0, .int .i64 0, .bool false] 27)) P A B N gx gy zeroP := Fr1.box w P A B N gx gy zeroP 25 27
  have HF := hide F0
  obtain ⟨⟨k0, k1, k2, k3, k4, k5⟩, -, -, -⟩ := F0
  go_enter Tryd.func30, Tryd.ntmps30
  go_wp2_with fail
  refine (specCurveOk_any P A B N gx gy _ hP1 hN1).mono ?_
  rintro r w1 ⟨⟨ok, rfl, h1⟩, hw1⟩
  have F1 := HF.out.call hw1
  have HF1 := hide F1
  clear k0 k1 k2 k3 k4 k5 HF hw1
  obtain ⟨⟨k0, k1, k2, k3, k4, k5⟩, ⟨a0, a1, a2, b0, b1, b2⟩, -, -⟩ := F1
  simp only [zeroP] at a0 a1 a2
  cases ok
  · have Hn : Hid (GivesRd P A B N gx gy n f (.returned (.tuple #[.agg #[.int .i64 0, .int .i64 0, .bool false], .bool false]))) := givesRd_no (fun c v h => by simpa using h1.2 v)
    clear h1
    go_wp2
    refine bodyPost_ret (v := .tuple #[.agg #[.int .i64 0, .int .i64 0, .bool false], .bool false]) (by simp [results, Tryd.results30, go_sem, a0, a1, a2]) rfl ⟨Hn.out, ?_⟩
    first | exact below_put HF1.out.below (C := w.heap.size + 1) (by omega) zeroP | exact HF1.out.below
  have Hc := hide (h1.1 rfl)
  clear h1
  go_wp2_with fail
  refine (l3Point_any P A B N gx gy a b off n cap f _ Hc.out (hs.of_all HF1.out.below) hr hcap).mono ?_
  rintro r w2 ⟨⟨c, ok, rfl, h2⟩, hw2⟩
  have HG : Hid (GivesRd P A B N gx gy n f (.returned (.tuple #[.agg #[.int .i64 c.x, .int .i64 c.y, .bool c.far], .bool ok]))) := ⟨c, ok, rfl, h2⟩
  have F2 := HF1.out.call hw2
  have HF2 := hide F2
  clear k0 k1 k2 k3 k4 k5 a0 a1 a2 b0 b1 b2 HF1 hw2 h2
  obtain ⟨-, ⟨a0, a1, a2, b0, b1, b2⟩, -, -⟩ := F2
  simp only [zeroP] at a0 a1 a2
  go_wp2
  refine bodyPost_ret (v := .tuple #[.agg #[.int .i64 c.x, .int .i64 c.y, .bool c.far], .bool ok]) (by simp [results, Tryd.results30, go_sem, a0, a1, a2]) rfl ⟨HG.out, ?_⟩
  exact below_put HF2.out.below (C := w.heap.size + 1) (by omega) c

end Go.Proofs.YtcfpmillbdkpcaaDoor
