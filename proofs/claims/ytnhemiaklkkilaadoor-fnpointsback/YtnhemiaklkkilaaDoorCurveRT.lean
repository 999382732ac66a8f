/- Points told by bytes: what is read of them. Nothing of the program. Walks: three bytes read, by the model and by the program. Walks: a point read of bytes by the model. Walks: a point read of four bytes by the model. Walks: PointRead of the model. -/
import Derived.Test.YtnhemiaklkkilaaDoorCurveK
import Derived.Test.YtnhemiaklkkilaaDoorCurveQ
import Derived.Test.YtnhemiaklkkilaaDoorSteps
import Derived.Test.YtnhemiaklkkilaaDoorBBase
import Derived.Test.YtnhemiaklkkilaaDoorBits
import Derived.Test.YtnhemiaklkkilaaDoorCurveP
import Derived.Test.YtnhemiaklkkilaaDoorCurveY
import Derived.Test.YtnhemiaklkkilaaDoorPowInt
namespace Go.Proofs.YtnhemiaklkkilaaDoor
set_option linter.unusedVariables false

/-- Three bytes, the highest first. -/
def rd3 (f : Nat → Int) (o : Nat) : Int := f o * 65536 + f (o + 1) * 256 + f (o + 2)

/-- The point that these bytes tell. -/
def Reads (p : Nat) (A B : Int) (n : Nat) (f : Nat → Int) (c : Pt) : Prop :=
  (n = 1 ∧ f 0 = 0 ∧ c = farP) ∨ (n = 7 ∧ f 0 = 4 ∧ c = ⟨rd3 f 1, rd3 f 4, false⟩ ∧ On p A B c) ∨
  (n = 4 ∧ (f 0 = 2 ∨ f 0 = 3) ∧ c.far = false ∧ c.x = rd3 f 1 ∧ c.y % 2 = f 0 - 2 ∧ On p A B c)

theorem Aff.sq {P A B x y : Int} (hp : 0 < P) (h : Aff P.toNat A B x y) : y * y % P = (x * x * x + A * x + B) % P := by
  have e := h.on
  have : ((P.toNat : Nat) : Int) = P := by omega
  rw [this] at e
  exact mod_eq e

theorem Aff.of_sq {P A B x y : Int} (hp : 0 < P) (x0 : 0 ≤ x) (x1 : x < P) (y0 : 0 ≤ y) (y1 : y < P) (e : y * y % P = (x * x * x + A * x + B) % P) : Aff P.toNat A B x y := by
  refine ⟨x0, by omega, y0, by omega, ?_⟩
  have h : ((P.toNat : Nat) : Int) = P := by omega
  rw [h]
  exact Int.dvd_of_emod_eq_zero (Int.emod_eq_emod_iff_emod_sub_eq_zero.1 e)

/-- Two roots by an odd prime number. -/
theorem two_roots_int {P y z : Int} (hp : Prime P.toNat) (hP : 0 < P) (y0 : 0 ≤ y) (y1 : y < P) (z0 : 0 ≤ z) (z1 : z < P) (e : y * y % P = z * z % P) : y = z ∨ y + z = P ∨ (y = 0 ∧ z = 0) := by
  obtain ⟨p, rfl⟩ := Int.eq_ofNat_of_zero_le (show 0 ≤ P by omega)
  obtain ⟨a, rfl⟩ := Int.eq_ofNat_of_zero_le y0
  obtain ⟨b, rfl⟩ := Int.eq_ofNat_of_zero_le z0
  rw [Int.toNat_natCast] at hp
  have := hp.two_roots (x := a) (y := b) (by omega) (by omega) (by exact_mod_cast e)
  omega

theorem same_y {P A B x y z : Int} (hp : Prime P.toNat) (h4 : P % 4 = 3) (hP : 5 ≤ P) (h : Aff P.toNat A B x y) (k : Aff P.toNat A B x z) (e : y % 2 = z % 2) : y = z := by
  have hh := h.y1; have hk := k.y1; have h0 := h.y0; have k0 := k.y0
  rcases two_roots_int hp (by omega) h.y0 (by omega) k.y0 (by omega) ((h.sq (by omega)).trans (k.sq (by omega)).symm) with h | h | h <;> omega

theorem Reads.unique {P A B : Int} {n : Nat} {f : Nat → Int} {c d : Pt} (hp : Prime P.toNat) (h4 : P % 4 = 3) (hP : 5 ≤ P) (h : Reads P.toNat A B n f c) (k : Reads P.toNat A B n f d) : c = d := by
  rcases h with ⟨n1, f1, rfl⟩ | ⟨n1, f1, rfl, o1⟩ | ⟨n1, f1, c1, x1, y1, o1⟩ <;> rcases k with ⟨n2, f2, rfl⟩ | ⟨n2, f2, rfl, o2⟩ | ⟨n2, f2, c2, x2, y2, o2⟩
  any_goals rfl
  any_goals omega
  have a1 := o1.aff c1
  have a2 := o2.aff c2
  rw [x1] at a1
  rw [x2] at a2
  exact Pt.ext' (x1.trans x2.symm) (same_y hp h4 hP a1 a2 (y1.trans y2.symm)) (c1.trans c2.symm)

/-- What a reading call answers. -/
def OptRd (P A B N gx gy : Int) (n : Nat) (f : Nat → Int) (c : Pt) (ok : Bool) : Prop :=
  (ok = true ∧ CvOk P A B N gx gy ∧ Reads P.toNat A B n f c) ∨ (ok = false ∧ (∀ c, CvOk P A B N gx gy → ¬ Reads P.toNat A B n f c) ∧ c = zeroP)

theorem OptRd.unique {P A B N gx gy : Int} {n : Nat} {f : Nat → Int} {c d : Pt} {ok ok' : Bool} (h : OptRd P A B N gx gy n f c ok) (k : OptRd P A B N gx gy n f d ok') : c = d ∧ ok = ok' := by
  rcases h with ⟨rfl, v, h⟩ | ⟨rfl, h, rfl⟩ <;> rcases k with ⟨rfl, v', k⟩ | ⟨rfl, k, rfl⟩
  · exact ⟨Reads.unique v.pp v.p4 v.p5 h k, rfl⟩
  · exact absurd h (k _ v)
  · exact absurd k (h _ v')
  · exact ⟨rfl, rfl⟩

theorem optRd_some (P A B N gx gy : Int) (n : Nat) (f : Nat → Int) : ∃ c ok, OptRd P A B N gx gy n f c ok := by
  by_cases h : CvOk P A B N gx gy ∧ ∃ c, Reads P.toNat A B n f c
  · obtain ⟨v, c, hc⟩ := h
    exact ⟨c, true, Or.inl ⟨rfl, v, hc⟩⟩
  · exact ⟨zeroP, false, Or.inr ⟨rfl, fun c v hc => h ⟨v, c, hc⟩, rfl⟩⟩

def GivesRd (P A B N gx gy : Int) (n : Nat) (f : Nat → Int) (r : Ending) : Prop := ∃ c ok, r = .returned (.tuple #[.agg #[.int .i64 c.x, .int .i64 c.y, .bool c.far], .bool ok]) ∧ OptRd P A B N gx gy n f c ok

/-- The power that is a root. -/
theorem root_pow {p s z : Nat} (hp : Prime p) (h4 : p % 4 = 3) (h5 : 5 ≤ p) (e : z * z % p = s % p) : (s ^ ((p + 1) / 4) % p) * (s ^ ((p + 1) / 4) % p) % p = s % p := by
  rw [← Nat.mul_mod, ← Nat.pow_add]
  have hk : (p + 1) / 4 + (p + 1) / 4 = (p - 1) / 2 + 1 := by omega
  rw [hk]
  by_cases hd : p ∣ s
  · obtain ⟨t, rfl⟩ := hd
    rw [Nat.pow_succ, Nat.mul_mod, Nat.mul_mod_right, Nat.mul_zero]
    simp
  · rw [Nat.pow_succ, Nat.mul_mod, hp.euler_square (by omega) hd e, Nat.one_mul, Nat.mod_mod]

theorem rd3_range {f : Nat → Int} {o : Nat} (h0 : 0 ≤ f o ∧ f o ≤ 255) (h1 : 0 ≤ f (o + 1) ∧ f (o + 1) ≤ 255) (h2 : 0 ≤ f (o + 2) ∧ f (o + 2) ≤ 255) : 0 ≤ rd3 f o ∧ rd3 f o ≤ 16777215 := by
  unfold rd3; omega

/-- The model's way: the power, or what is left of P. -/
theorem model_root {P A B x t y : Int} (hp : Prime P.toNat) (h4 : P % 4 = 3) (h5 : 5 ≤ P) (x0 : 0 ≤ x) (x1 : x < P) (ht : t = 0 ∨ t = 1) {s : Nat} (hs : (s : Int) = (x * x * x + A * x + B) % P)
    (hy : y = if ((s ^ ((P.toNat + 1) / 4) % P.toNat : Nat) : Int) % 2 = t then ((s ^ ((P.toNat + 1) / 4) % P.toNat : Nat) : Int) else P - ((s ^ ((P.toNat + 1) / 4) % P.toNat : Nat) : Int)) :
    (Aff P.toNat A B x y ∧ y % 2 = t) ∨ ∀ z, z % 2 = t → ¬ Aff P.toNat A B x z := by
  by_cases hz : ∃ z, z % 2 = t ∧ Aff P.toNat A B x z
  · left
    obtain ⟨z, ze, ha⟩ := hz
    obtain ⟨p, hpp⟩ := Int.eq_ofNat_of_zero_le (show 0 ≤ P by omega)
    obtain ⟨zn, hzn⟩ := Int.eq_ofNat_of_zero_le ha.y0
    have hsq := ha.sq (by omega)
    have e1 : zn * zn % P.toNat = s % P.toNat := by
      have : ((zn * zn % P.toNat : Nat) : Int) = ((s % P.toNat : Nat) : Int) := by
        rw [Int.natCast_emod, Int.natCast_mul, Int.natCast_emod, ← hzn, show ((P.toNat : Nat) : Int) = P by omega, hsq, hs, Int.emod_emod]
      exact_mod_cast this
    have e2 := root_pow hp (by omega) (by omega) e1
    generalize hr : s ^ ((P.toNat + 1) / 4) % P.toNat = r at e2 hy
    have hrl : r < P.toNat := by rw [← hr]; exact Nat.mod_lt _ (by omega)
    have e3 : (r : Int) * r % P = z * z % P := by
      have : ((r * r % P.toNat : Nat) : Int) = ((s % P.toNat : Nat) : Int) := by rw [e2]
      rw [Int.natCast_emod, Int.natCast_mul, Int.natCast_emod, show ((P.toNat : Nat) : Int) = P by omega] at this
      rw [this, hsq, hs, Int.emod_emod]
    have hz1 := ha.y1
    have hz0 := ha.y0
    have := two_roots_int hp (by omega) (show 0 ≤ (r : Int) by omega) (by omega) ha.y0 (by omega) e3
    have hyz : y = z := by
      by_cases c : (r : Int) % 2 = t
      · rw [if_pos c] at hy; omega
      · rw [if_neg c] at hy; omega
    rw [hyz]
    exact ⟨ha, ze⟩
  · right
    intro z ze ha
    exact hz ⟨z, ze, ha⟩

open Go.RowKit Go.Sort

theorem wrap_small {x : Int} (h0 : 0 ≤ x) (h1 : x ≤ 9223372036854775807) : IntKind.i64.wrap x = x := by
  rw [IntKind.wrap_i64]; omega

/-- 'a<<8 | b' with b a byte. -/
theorem or_byte (a b : Int) (ha : 0 ≤ a) (ha' : a ≤ 70368744177664) (hb : 0 ≤ b) (hb' : b ≤ 255) : bits .or .i64 (a * 256) b = a * 256 + b := by
  show IntKind.i64.wrap ((BitVec.ofInt 64 (a * 256) ||| BitVec.ofInt 64 b).toNat : Int) = _
  obtain ⟨A, rfl⟩ := Int.eq_ofNat_of_zero_le ha
  obtain ⟨B, rfl⟩ := Int.eq_ofNat_of_zero_le hb
  have e1 : ((A : Int) * 256 % 18446744073709551616).toNat = 2 ^ 8 * A := by omega
  have e2 : ((B : Int) % 18446744073709551616).toNat = B := by omega
  rw [BitVec.toNat_or, ofInt64, ofInt64, e1, e2, ← Nat.two_pow_add_eq_or_of_lt (by omega), IntKind.wrap_i64]
  omega

set_option maxHeartbeats 800000 in
theorem readHigh_any (b off cap : Nat) (f : Nat → Int) (w : World) (hs : BSeg w (some ⟨b, off, none⟩) b off 3 f) (hr : ∀ i, i < 3 → 0 ≤ f i ∧ f i ≤ 255) :
    Calls Tryd.prog 39 #[.slice (some ⟨b, off, none⟩) 3 cap] w fun r w' => r = .returned (.int .i64 (rd3 f 0)) ∧ Below w.heap.size w w' := by
  have e0 := cell_regrown (hs.cell 0 (by omega))
  have e1 := cell_regrown (hs.cell 1 (by omega))
  have e2 := cell_regrown (hs.cell 2 (by omega))
  rw [Nat.add_zero] at e0
  obtain ⟨r0, s0⟩ := hr 0 (by omega)
  obtain ⟨r1, s1⟩ := hr 1 (by omega)
  obtain ⟨r2, s2⟩ := hr 2 (by omega)
  have HV : Hid (f 0 * 65536 + f 1 * 256 + f 2 = rd3 f 0) := rfl
  generalize rd3 f 0 = V at *
  generalize f 0 = x at *
  generalize f 1 = y at *
  generalize f 2 = z at *
  clear hs hr
  have q0 : IntKind.i64.wrap x = x := wrap_small r0 (by omega)
  have q1 : IntKind.i64.wrap y = y := wrap_small r1 (by omega)
  have q2 : IntKind.i64.wrap z = z := wrap_small r2 (by omega)
  have q3 : IntKind.i64.wrap (x * 65536) = x * 65536 := wrap_small (by omega) (by omega)
  have q4 : IntKind.i64.wrap (y * 256) = y * 256 := wrap_small (by omega) (by omega)
  have q5 : bits .or .i64 (x * 65536) (y * 256) = x * 65536 + y * 256 := or_low _ _ r0 (by omega) (by omega) (by omega)
  have q6 : bits .or .i64 (x * 65536 + y * 256) z = x * 65536 + y * 256 + z := by
    have := or_byte (x * 256 + y) z (by omega) (by omega) r2 s2
    rw [show (x * 256 + y) * 256 = x * 65536 + y * 256 by omega] at this
    exact this
  go_enter Tryd.func39, Tryd.ntmps39
  go_wp2
  refine anyW_begin 17 rfl (by kernel_rfl) ?_
  refine anyW_take 0 17 0 rfl (by decide) (by kernel_rfl) (fun _ _ d _ _ h => by cases d <;> exact h) ?_
  repeat (refine headS_step (fun K hK => ?_); go_simp; first | (refine hK _ ?_; clear hK K) | (apply Exists.intro; refine ⟨fun _ => ?_, hK _ ?_⟩; (fail); clear hK K))
  refine headS_nil ?_
  refine anyW_done (by kernel_rfl) ?_ 0
  intro wq hwq
  go_wp2
  go_ret
  exact ⟨by rw [← HV.out]; rfl, hwq⟩

set_option linter.unusedSimpArgs false
open Go.RowKit Go.Sort

theorem givesRd_no {P A B N gx gy : Int} {n : Nat} {f : Nat → Int} (h : ∀ c, CvOk P A B N gx gy → ¬ Reads P.toNat A B n f c) : GivesRd P A B N gx gy n f (.returned (.tuple #[.agg #[.int .i64 0, .int .i64 0, .bool false], .bool false])) := ⟨zeroP, false, rfl, Or.inr ⟨rfl, h, rfl⟩⟩
theorem givesRd_yes {P A B N gx gy : Int} {n : Nat} {f : Nat → Int} {c : Pt} (v : CvOk P A B N gx gy) (h : Reads P.toNat A B n f c) : GivesRd P A B N gx gy n f (.returned (.tuple #[.agg #[.int .i64 c.x, .int .i64 c.y, .bool c.far], .bool true])) := ⟨c, true, rfl, Or.inl ⟨rfl, v, h⟩⟩

theorem BSeg.drop {w : World} {a : Option Addr} {b off n : Nat} {f : Nat → Int} (h : BSeg w a b off n f) (k m : Nat) (hk : k + m ≤ n) : BSeg w (some ⟨b, off + k, none⟩) b (off + k) m (fun i => f (k + i)) :=
  ⟨fun _ => rfl, fun i hi => by rw [Nat.add_assoc]; exact h.cell (k + i) (by omega)⟩

theorem below_drawn' {w w' : World} (h : Drawn w w') : Below w.heap.size w w' := by
  obtain ⟨q, rfl⟩ := h
  exact below_drewN (Below.refl _ _) q

set_option linter.unusedSimpArgs false
open Go.RowKit Go.Sort

set_option linter.unusedSimpArgs false
open Go.RowKit Go.Sort

/-- A call's boxes: a curve and the answer's block. -/
structure Fr1 (w wr : World) (P A B N gx gy : Int) (z : Pt) : Prop where
  cv : CvAt wr w.heap.size P A B N gx gy
  rs : PtAt wr (w.heap.size + 1) z
  below : Below w.heap.size w wr
  big : w.heap.size + 2 ≤ wr.heap.size

theorem Fr1.box (w : World) (P A B N gx gy : Int) (z : Pt) (t1 t2 : TypeId) :
    Fr1 w ((w.alloc (.cells #[.int .i64 P, .int .i64 A, .int .i64 B, .int .i64 N, .int .i64 gx, .int .i64 gy] t1)).alloc (.cells #[.int .i64 z.x, .int .i64 z.y, .bool z.far] t2)) P A B N gx gy z := by
  refine ⟨⟨?_, ?_, ?_, ?_, ?_, ?_⟩, ⟨?_, ?_, ?_, ?_, ?_, ?_⟩, ?_, ?_⟩
  all_goals first | (simp [go_sem]; done) | skip
  repeat (first | exact Below.refl _ _ | refine Below.alloc ?_ (by simp <;> omega) _)

theorem Fr1.call {w wr w1 : World} {P A B N gx gy : Int} {z : Pt} (h : Fr1 w wr P A B N gx gy z) (hb : Below wr.heap.size wr w1) : Fr1 w w1 P A B N gx gy z :=
  ⟨h.cv.below hb (by have := h.big; omega), h.rs.below hb (by have := h.big; omega), h.below.trans (hb.mono (by have := h.big; omega)), Nat.le_trans h.big hb.size⟩

end Go.Proofs.YtnhemiaklkkilaaDoor
