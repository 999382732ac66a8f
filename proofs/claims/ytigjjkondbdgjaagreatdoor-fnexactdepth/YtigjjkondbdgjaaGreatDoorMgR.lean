/- Walks: bits.TrailingZeros of a number that is not 0: how often 2 divides it. The library's table lies in its variable (Tab). Walks: RootInt, of the model and of the program: the least root by a prime number. Walks: RootInt of the program: isSquare, leastNoSquare, someRoot (the rule of Tonelli and Shanks), RootInt. -/
import Derived.Test.YtigjjkondbdgjaaGreatDoorChecked
import Derived.Test.YtigjjkondbdgjaaGreatDoorMgA
import Derived.Shelf.Spec.TrailingZeros
import Derived.Test.YtigjjkondbdgjaaGreatDoorMgN
namespace Go.Proofs.YtigjjkondbdgjaaGreatDoor

section
set_option linter.unusedVariables false
open Go.RowKit

/-- The library's table of 64 numbers lies in its variable. -/
def Tab (w : World) : Prop := ∀ j, j < 64 → w.cell? ⟨1, j, none⟩ = some (.int .u8 (Lib.deBruijn64tab.getD j 0))

theorem Tab.of_cells {w w' : World} (h : Tab w) (e : ∀ j, w'.cell? ⟨1, j, none⟩ = w.cell? ⟨1, j, none⟩) : Tab w' := fun j hj => (e j).trans (h j hj)

theorem Tab.drawn {w w' : World} (h : Tab w) (hq : Drawn w w') : Tab w' := by
  obtain ⟨q, rfl⟩ := hq
  exact h

set_option maxHeartbeats 1000000 in
theorem tz64_at (x k idx : Nat) (w : World) (hx0 : ((x : Int) == 0) = false)
    (key : IntKind.u64.wrap (bits .and .u64 (x : Int) (IntKind.u64.wrap (-(x : Int))) * 285870213051353865) / 288230376151711744 = (idx : Int))
    (hi : idx < 64) (hk : k < 64) (hcell : w.cell? ⟨1, idx, none⟩ = some (.int .u8 k)) :
    Calls Tryz.prog 203 #[.int .u64 (x : Int)] w fun e w' => e = .returned (.int .i64 (k : Int)) ∧ w' = w := by
  go_enter Tryz.func203, Tryz.ntmps203
  go_wp2_with (simp only [key])
  go_ret
  exact ⟨rfl, rfl⟩

theorem tz64_any (x : Nat) (w : World) (h0 : x ≠ 0) (hx : x < 18446744073709551616) (hT : Tab w) :
    Calls Tryz.prog 203 #[.int .u64 (x : Int)] w fun e w' => e = .returned (.int .i64 ((Lib.ctz 64 x : Nat) : Int)) ∧ w' = w := by
  obtain ⟨hlow, hk⟩ := Lib.lowest_bit 64 x h0 hx
  obtain ⟨hi, htab⟩ := Lib.deBruijn64_at _ hk
  have hcell := hT _ hi
  rw [htab] at hcell
  exact tz64_at x _ _ w (by simp; omega) (tz64_key x _ hx h0 hlow) hi hk hcell

set_option maxHeartbeats 400000 in
theorem tz_any (x : Nat) (w : World) (h0 : x ≠ 0) (hx : x < 18446744073709551616) (hT : Tab w) :
    Calls Tryz.prog 196 #[.int .u64 (x : Int)] w fun e w' => e = .returned (.int .i64 ((Lib.ctz 64 x : Nat) : Int)) ∧ w' = w := by
  have Hc := hide (tz64_any x w h0 hx hT)
  generalize Lib.ctz 64 x = k at *
  go_enter Tryz.func196, Tryz.ntmps196
  go_wp2_with fail
  refine Hc.out.mono ?_
  rintro e w' ⟨rfl, hw⟩
  obtain rfl := hw.symm
  clear Hc
  go_wp2
  go_ret
  exact ⟨rfl, rfl⟩

/-- How often 2 divides a number. -/
theorem ctz_spec (x : Nat) (h0 : x ≠ 0) (hx : x < 18446744073709551616) : ∃ m, x = 2 ^ Lib.ctz 64 x * (2 * m + 1) := by
  obtain ⟨m, hm, _⟩ := Lib.ctzFrom_spec 64 x (by omega) hx
  refine ⟨m, ?_⟩
  rw [Lib.ctz, if_neg h0]
  exact hm
end

section
set_option linter.unusedVariables false
open Go.RowKit

/-- The arguments are as RootInt wants them. -/
def RootOk (a p : Int) : Prop := 3 ≤ p ∧ p ≤ 1048576 ∧ Prime p.toNat ∧ 0 ≤ a ∧ a < p

/-- RootInt's answer. -/
def RootAns (a p v : Int) (ok : Bool) : Prop :=
  (ok = true → RootOk a p ∧ 0 ≤ v ∧ v * v % p = a ∧ ∀ x : Int, 0 ≤ x → x < v → x * x % p ≠ a) ∧ (ok = false → v = 0 ∧ ¬ (RootOk a p ∧ ∃ x : Int, 0 ≤ x ∧ x * x % p = a))

def GivesRoot (a p : Int) (r : Ending) : Prop := ∃ v ok, r = .returned (.tuple #[.int .i64 v, .bool ok]) ∧ RootAns a p v ok

theorem RootAns.unique {a p v v' : Int} {ok ok' : Bool} (h : RootAns a p v ok) (h' : RootAns a p v' ok') : v = v' ∧ ok = ok' := by
  cases ok <;> cases ok'
  · exact ⟨(h.2 rfl).1.trans (h'.2 rfl).1.symm, rfl⟩
  · obtain ⟨r, k0, k1, k2⟩ := h'.1 rfl
    exact absurd ⟨r, v', k0, k1⟩ (h.2 rfl).2
  · obtain ⟨r, k0, k1, k2⟩ := h.1 rfl
    exact absurd ⟨r, v, k0, k1⟩ (h'.2 rfl).2
  · obtain ⟨r, k0, k1, k2⟩ := h.1 rfl
    obtain ⟨r', l0, l1, l2⟩ := h'.1 rfl
    refine ⟨?_, rfl⟩
    rcases Int.lt_trichotomy v v' with hlt | rfl | hlt
    · exact absurd k1 (l2 v k0 hlt)
    · rfl
    · exact absurd l1 (k2 v' l0 hlt)

theorem root_no {a p : Int} (h : ¬ RootOk a p) : RootAns a p 0 false := ⟨fun h => by simp at h, fun _ => ⟨rfl, fun k => h k.1⟩⟩

/-- From natural numbers. -/
theorem root_yes {A P V : Nat} (h3 : 3 ≤ P) (hm : P ≤ 1048576) (hp : Prime P) (ha : A < P) (e : V * V % P = A) (hl : ∀ x, x < V → x * x % P ≠ A) : RootAns (A : Int) (P : Int) (V : Int) true := by
  refine ⟨fun _ => ⟨⟨by omega, by omega, by rw [Int.toNat_natCast]; exact hp, by omega, by omega⟩, by omega, by rw [cast_mulmod, e], ?_⟩, fun h => by simp at h⟩
  intro x h0 hx hxx
  obtain ⟨y, rfl⟩ := Int.eq_ofNat_of_zero_le h0
  rw [cast_mulmod] at hxx
  exact hl y (by omega) (by omega)

theorem root_none {A P : Nat} (hno : ∀ x : Nat, x * x % P ≠ A) : RootAns (A : Int) (P : Int) 0 false := by
  refine ⟨fun h => by simp at h, fun _ => ⟨rfl, ?_⟩⟩
  rintro ⟨_, x, h0, hx⟩
  obtain ⟨y, rfl⟩ := Int.eq_ofNat_of_zero_le h0
  rw [cast_mulmod] at hx
  exact hno y (by omega)

/-- The other root. -/
theorem other_root {P r : Nat} (hr : r ≤ P) : (P - r) * (P - r) % P = r * r % P := by
  by_cases h : P = 0
  · subst h; obtain rfl : r = 0 := by omega
    rfl
  · obtain ⟨s, rfl⟩ : ∃ s, P = r + s := ⟨P - r, by omega⟩
    rw [Nat.add_sub_cancel_left]
    have e : s * s + (r + s) * r = r * r + (r + s) * s := by grind
    have h1 : (s * s + (r + s) * r) % (r + s) = s * s % (r + s) := Nat.add_mul_mod_self_left ..
    have h2 : (r * r + (r + s) * s) % (r + s) = r * r % (r + s) := Nat.add_mul_mod_self_left ..
    rw [← h1, ← h2, e]

/-- If no number up to the half is a root, none is. -/
theorem half_enough {A P : Nat} (hP : 0 < P) (h : ∀ y, y ≤ P / 2 → y * y % P ≠ A) : ∀ x : Nat, x * x % P ≠ A := by
  intro x hx
  have hl := Nat.mod_lt x hP
  have e : x % P * (x % P) % P = A := by rw [← Nat.mul_mod]; exact hx
  by_cases c : x % P ≤ P / 2
  · exact h _ c e
  · exact h (P - x % P) (by omega) (by rw [other_root (by omega)]; exact e)

theorem sq_small {X : Nat} (h : X ≤ 1048577) : (X : Int) * (X : Int) ≤ 1099513724929 := by
  have := Nat.mul_le_mul h h
  rw [← Int.natCast_mul]
  omega
end

section
set_option linter.unusedVariables false
open Go.RowKit

set_option maxHeartbeats 400000 in
theorem isSquare_any (a p : Nat) (w : World) (ha : a < p) (hp : 3 ≤ p) (hm : p ≤ 1048576) :
    Calls Tryz.prog 170 #[.int .i64 (a : Int), .int .i64 (p : Int)] w fun r w' => r = .returned (.bool (decide (a ^ ((p - 1) / 2) % p = 1))) ∧ w' = w := by
  have hd : ((p : Int) - 1) / 2 = (((p - 1) / 2 : Nat) : Int) := by omega
  have Hc := hide (intPower_any a ((p - 1) / 2) p w ha (by omega) (by omega) (by omega))
  have hp1 : 0 ≤ (p : Int) - 1 := by omega
  have hkb : (p - 1) / 2 ≤ 1048576 := by omega
  generalize (p - 1) / 2 = k at *
  generalize a ^ k % p = v at *
  have Hv := hide (show ((v : Int) == 1) = decide (v = 1) by
    by_cases e : v = 1
    · subst e; rfl
    · rw [decide_eq_false e]; simp; omega)
  generalize decide (v = 1) = ok at *
  go_enter Tryz.func170, Tryz.ntmps170
  go_wp2_with fail
  refine Hc.out.mono ?_
  rintro r w' ⟨rfl, hw⟩
  obtain rfl := hw.symm
  clear Hc
  have hv := Hv.out
  generalize (v : Int) = vi at *
  go_wp2
  go_ret
  exact ⟨rfl, rfl⟩

/-- A number that is no square by p. -/
def NoSq (p n : Nat) : Prop := 2 ≤ n ∧ n < p ∧ n ^ ((p - 1) / 2) % p ≠ 1

theorem noSq_some {p : Nat} (hp : Prime p) (h3 : 3 ≤ p) : ∃ n, NoSq p n ∧ n ≤ (p - 1) / 2 + 1 := by
  obtain ⟨n, h1, h2, h⟩ := hp.not_all_one (k := (p - 1) / 2) (by omega) (by omega)
  refine ⟨n, ⟨?_, by omega, h⟩, h2⟩
  rcases (show n = 1 ∨ 2 ≤ n by omega) with rfl | h'
  · rw [Nat.one_pow, Nat.mod_eq_of_lt (by omega)] at h
    exact absurd rfl h
  · exact h'

set_option maxHeartbeats 400000 in
theorem leastNoSquare_any (p : Nat) (w : World) (hp : Prime p) (h3 : 3 ≤ p) (hm : p ≤ 1048576) :
    Calls Tryz.prog 197 #[.int .i64 (p : Int)] w fun r w' => (∃ n : Nat, r = .returned (.int .i64 (n : Int)) ∧ NoSq p n) ∧ w' = w := by
  obtain ⟨n0, hn0, hle⟩ := noSq_some hp h3
  have HN := hide hn0
  obtain ⟨h2, hlt, hne⟩ := hn0
  have hN := hide hne
  have HS : Hid (∀ (a : Nat), a < p → Calls Tryz.prog 170 #[.int .i64 (a : Int), .int .i64 (p : Int)] w fun r w' => r = .returned (.bool (decide (a ^ ((p - 1) / 2) % p = 1))) ∧ w' = w) := fun a ha => isSquare_any a p w ha h3 hm
  clear hne hp
  go_enter Tryz.func197, Tryz.ntmps197
  go_wp2
  go_loop [3] (fun n => ∃ N : Nat, n = .int .i64 N ∧ 2 ≤ N ∧ N ≤ n0) (fun n => n0 + 1 - (intOf n).toNat)
  case atStart => exact ⟨2, rfl, by omega, by omega⟩
  case round =>
    obtain ⟨N, rfl, hN2, hNn⟩ := hrel
    by_cases hsq : N ^ ((p - 1) / 2) % p = 1
    · have hltn : N < n0 := by
        rcases Nat.lt_or_ge N n0 with h | h
        · exact h
        · obtain rfl : N = n0 := by omega
          exact absurd hsq hN.out
      go_wp2_with fail
      refine (HS.out N (by omega)).mono ?_
      rintro r w' ⟨rfl, hw⟩
      obtain rfl := hw.symm
      rw [decide_eq_true hsq]
      clear hsq
      go_wp2
      go_round
      case rel => exact ⟨N + 1, by go_num, by omega, by omega⟩
      case measure => simp [intOf]; omega
    · have Hno : Hid (NoSq p N) := ⟨hN2, by omega, hsq⟩
      go_wp2_with fail
      refine (HS.out N (by omega)).mono ?_
      rintro r w' ⟨rfl, hw⟩
      obtain rfl := hw.symm
      rw [decide_eq_false hsq]
      clear hsq
      go_wp2
      go_ret
      exact ⟨⟨N, rfl, Hno.out⟩, rfl⟩

/-- The rule's start. -/
theorem tonelli_start {p a n t m : Nat} (hp : Prime p) (ho : p % 2 = 1) (ht : p - 1 = 2 ^ (t + 1) * (2 * m + 1)) (ha : 0 < a) (hap : a < p) (hs : a ^ ((p - 1) / 2) % p = 1) (hn : NoSq p n) :
    Tonelli p a t (a ^ ((2 * m + 1 + 1) / 2) % p) (a ^ (2 * m + 1) % p) (n ^ (2 * m + 1) % p) := by
  have hh : (p - 1) / 2 = (2 * m + 1) * 2 ^ t := by
    rw [ht, Nat.pow_succ, Nat.mul_comm (2 ^ t) 2, Nat.mul_assoc, Nat.mul_div_cancel_left _ (by omega), Nat.mul_comm]
  refine ⟨?_, ?_, ?_⟩
  · rw [← Nat.mul_mod, ← Nat.pow_add, show (2 * m + 1 + 1) / 2 + (2 * m + 1 + 1) / 2 = (2 * m + 1) + 1 by omega, Nat.pow_succ, Nat.mul_comm, Nat.mul_mod_mod]
  · rw [← Nat.pow_mod, ← Nat.pow_mul, ← hh]; exact hs
  · rw [← Nat.pow_mod, ← Nat.pow_mul, ← hh]
    refine (hp.euler ho ?_).resolve_left hn.2.2
    intro hd
    have := Nat.le_of_dvd (by have := hn.1; omega) hd
    have := hn.2.1
    omega

theorem shl_one (k : Nat) (h : k ≤ 20) : (2 : Int) ^ k ≤ 1048576 ∧ 1 ≤ (2 : Int) ^ k := by
  have h1 : (2 : Nat) ^ k ≤ 2 ^ 20 := Nat.pow_le_pow_right (by omega) h
  have h2 : 0 < (2 : Nat) ^ k := Nat.pow_pos (by omega)
  have e : (2 : Int) ^ k = ((2 ^ k : Nat) : Int) := by rw [Int.natCast_pow]; rfl
  omega

set_option maxHeartbeats 1600000 in
theorem someRoot_any (a p : Nat) (w : World) (hT : Tab w) (hp : Prime p) (h3 : 3 ≤ p) (hm : p ≤ 1048576) (ho : p % 2 = 1) (ha : 0 < a) (hap : a < p) (hs : a ^ ((p - 1) / 2) % p = 1) :
    Calls Tryz.prog 188 #[.int .i64 (a : Int), .int .i64 (p : Int)] w fun r w' => (∃ x : Nat, r = .returned (.int .i64 (x : Int)) ∧ x < p ∧ x * x % p = a) ∧ w' = w := by
  obtain ⟨m, hm1⟩ := ctz_spec (p - 1) (by omega) (by omega)
  have Htz := hide (tz_any (p - 1) w (by omega) (by omega) hT)
  have hp1 : (p : Int) - 1 = ((p - 1 : Nat) : Int) := by omega
  generalize hT1 : Lib.ctz 64 (p - 1) = t1 at *
  clear hT1 hT
  obtain ⟨t, ht1⟩ : ∃ t, t1 = t + 1 := by
    cases t1 with
    | zero => rw [Nat.pow_zero, Nat.one_mul] at hm1; omega
    | succ t => exact ⟨t, rfl⟩
  have HS : Hid (∀ n, NoSq p n → Tonelli p a t (a ^ ((2 * m + 1 + 1) / 2) % p) (a ^ (2 * m + 1) % p) (n ^ (2 * m + 1) % p)) := fun n hn => tonelli_start hp ho (by rw [← ht1]; exact hm1) ha hap hs hn
  have ht20 : t1 ≤ 20 := by
    rcases Nat.lt_or_ge 20 t1 with h | h
    · have h1 : (2 : Nat) ^ 21 ≤ 2 ^ t1 := Nat.pow_le_pow_right (by omega) h
      have h2 : 2 ^ t1 * 1 ≤ 2 ^ t1 * (2 * m + 1) := Nat.mul_le_mul_left _ (by omega)
      omega
    · exact h
  have hodd : ((p - 1 : Nat) : Int) / 2 ^ t1 = ((2 * m + 1 : Nat) : Int) := by
    rw [hm1, Int.natCast_mul, Int.natCast_pow]
    exact Int.mul_ediv_cancel_left _ (by have := shl_one t1 ht20; simp; omega)
  have hmp : 2 * m + 1 ≤ p - 1 := by
    have : 1 * (2 * m + 1) ≤ 2 ^ t1 * (2 * m + 1) := Nat.mul_le_mul_right _ (Nat.pow_pos (by omega))
    omega
  have HP : Hid (∀ (x e : Nat), x < p → e ≤ 9223372036854775807 → Calls Tryz.prog 183 #[.int .i64 (x : Int), .int .i64 (e : Int), .int .i64 (p : Int)] w fun r w' => r = .returned (.int .i64 ((x ^ e % p : Nat) : Int)) ∧ w' = w) := fun x e hx he => intPower_any x e p w hx he (by omega) (by omega)
  have HL := hide (leastNoSquare_any p w hp h3 hm)
  have Hp := hide hp
  have hpp : 0 < (p : Int) := by omega
  clear hm1 hs hp
  generalize hq : 2 * m + 1 = q at *
  have hh : ((q : Int) + 1) / 2 = (((q + 1) / 2 : Nat) : Int) := by omega
  have hq1 : q ≤ 1048576 := by omega
  have hqh : (q + 1) / 2 ≤ 1048576 := by omega
  clear hq
  generalize (q + 1) / 2 = qh at *
  have Ht1 := hide (show (t1 : Int) = (t : Int) + 1 by omega)
  have tpos : (0 : Int) < (t1 : Int) := by omega
  have t19 : t ≤ 19 := by omega
  clear ht1
  go_enter Tryz.func188, Tryz.ntmps188
  generalize p - 1 = pm at *
  go_wp2_with fail
  refine Htz.out.mono ?_
  rintro r w' ⟨rfl, hw⟩
  obtain rfl := hw.symm
  clear Htz
  go_wp2_with fail
  refine (HP.out a qh hap (by omega)).mono ?_
  rintro r w' ⟨rfl, hw⟩
  obtain rfl := hw.symm
  have r0 : a ^ qh % p < p := Nat.mod_lt _ (by omega)
  generalize a ^ qh % p = R0 at *
  go_wp2_with fail
  refine (HP.out a q hap (by omega)).mono ?_
  rintro r w' ⟨rfl, hw⟩
  obtain rfl := hw.symm
  have x0 : a ^ q % p < p := Nat.mod_lt _ (by omega)
  generalize a ^ q % p = X0 at *
  go_wp2_with fail
  refine HL.out.mono ?_
  rintro r w' ⟨⟨n, rfl, hn⟩, hw⟩
  obtain rfl := hw.symm
  go_wp2_with fail
  refine (HP.out n q hn.2.1 (by omega)).mono ?_
  rintro r w' ⟨rfl, hw⟩
  obtain rfl := hw.symm
  have E0 := hide (HS.out n hn)
  have u0 : n ^ q % p < p := Nat.mod_lt _ (by omega)
  clear HS hn HL
  generalize n ^ q % p = U0 at *
  go_wp2
  go_loop [7, 8, 9, 37] (fun r x u i => ∃ R X U K : Nat, r = .int .i64 R ∧ x = .int .i64 X ∧ u = .int .i64 U ∧ i = .int .i64 K ∧ K ≤ t ∧ R < p ∧ X < p ∧ U < p ∧ Tonelli p a (t - K) R X U) (fun _ _ _ i => t - (intOf i).toNat)
  case atStart => exact ⟨R0, X0, U0, 0, rfl, rfl, rfl, rfl, by omega, r0, x0, u0, E0.out⟩
  case round =>
    clear E0 r0 x0 u0
    obtain ⟨R, X, U, K, rfl, rfl, rfl, rfl, hK, hR, hX, hU, hE⟩ := hrel
    have HE := hide hE
    clear hE
    by_cases hend : K = t
    · subst hend
      have HF : Hid (R * R % p = a) := by
        show _ = _
        have h := HE.out
        rw [Nat.sub_self] at h
        rw [h.done Hp.out, Nat.mod_eq_of_lt hap]
      have hge : ¬ (K : Int) < (t1 : Int) - 1 := by rw [Ht1.out]; omega
      go_wp2
      go_ret
      exact ⟨⟨R, rfl, hR, HF.out⟩, rfl⟩
    · obtain ⟨j, hj⟩ : ∃ j, t - K = j + 1 := ⟨t - K - 1, by omega⟩
      have hlt : (K : Int) < (t1 : Int) - 1 := by rw [Ht1.out]; omega
      have hsh : (t1 : Int) - 2 - (K : Int) = (j : Int) := by rw [Ht1.out]; omega
      have hj20 : j ≤ 20 := by omega
      obtain ⟨s1, s2⟩ := shl_one j hj20
      have hpw : (2 : Int) ^ j = ((2 ^ j : Nat) : Int) := by rw [Int.natCast_pow]; rfl
      rw [hj] at HE
      have m1 := mul_small (show p ≤ 1073741824 by omega) hU hU
      have m2 := mul_small (show p ≤ 1073741824 by omega) hR hU
      have z1 : 0 ≤ (U : Int) * (U : Int) := Int.mul_nonneg (Int.natCast_nonneg _) (Int.natCast_nonneg _)
      have z2 : 0 ≤ (R : Int) * (U : Int) := Int.mul_nonneg (Int.natCast_nonneg _) (Int.natCast_nonneg _)
      have e1 := cast_mulmod U U p
      have hN : U * U % p < p := Nat.mod_lt _ (by omega)
      have m3 := mul_small (show p ≤ 1073741824 by omega) hX hN
      have z3 : 0 ≤ (X : Int) * ((U * U % p : Nat) : Int) := Int.mul_nonneg (Int.natCast_nonneg _) (Int.natCast_nonneg _)
      have E2 := hide (cast_mulmod R U p)
      have E3 := hide (cast_mulmod X (U * U % p) p)
      have HJ := hide (HP.out X (2 ^ j) hX (by have : (2 : Nat) ^ j ≤ 2 ^ 20 := Nat.pow_le_pow_right (by omega) hj20
                                               omega))
      by_cases hone : X ^ 2 ^ j % p = 1
      · have HK := hide (HE.out.keep hone)
        have hb : (((X ^ 2 ^ j % p : Nat) : Int) != 1) = false := by rw [hone]; rfl
        clear hone
        generalize X ^ 2 ^ j % p = V at *
        generalize U * U % p = N at *
        generalize 2 ^ j = J at *
        go_wp2_with fail
        refine HJ.out.mono ?_
        rintro r w' ⟨rfl, hw⟩
        obtain rfl := hw.symm
        clear HJ
        go_wp2
        go_round
        case rel => exact ⟨R, X, N, K + 1, rfl, rfl, rfl, by go_num, by omega, hR, hX, hN, by rw [show t - (K + 1) = j by omega]; exact HK.out⟩
        case measure => simp [intOf]; omega
      · have HK := hide (HE.out.turn Hp.out hone)
        have hb : (((X ^ 2 ^ j % p : Nat) : Int) != 1) = true := by simp only [bne_iff_ne, ne_eq]; omega
        have hR' : R * U % p < p := Nat.mod_lt _ (by omega)
        have hX' : X * (U * U % p) % p < p := Nat.mod_lt _ (by omega)
        clear hone
        generalize X ^ 2 ^ j % p = V at *
        generalize U * U % p = N at *
        generalize 2 ^ j = J at *
        go_wp2_with fail
        refine HJ.out.mono ?_
        rintro r w' ⟨rfl, hw⟩
        obtain rfl := hw.symm
        clear HJ
        go_wp2
        go_round
        case rel => exact ⟨R * U % p, X * N % p, N, K + 1, by rw [E2.out], by rw [E3.out], rfl, by go_num, by omega, hR', hX', hN, by rw [show t - (K + 1) = j by omega]; exact HK.out⟩
        case measure => simp [intOf]; omega

theorem RootOk.nat {A P : Nat} (h3 : 3 ≤ P) (hm : P ≤ 1048576) (hp : Prime P) (ha : A < P) : RootOk (A : Int) (P : Int) := ⟨by omega, by omega, by rw [Int.toNat_natCast]; exact hp, by omega, by omega⟩

theorem prime_odd {P : Nat} (h3 : 3 ≤ P) (hp : Prime P) : P % 2 = 1 := by
  rcases (show P % 2 = 0 ∨ P % 2 = 1 by omega) with h | h
  · exact absurd (Nat.dvd_of_mod_eq_zero h) (hp.no_div (by omega) (by omega))
  · exact h

theorem root_min {A P x : Nat} (h3 : 3 ≤ P) (hm : P ≤ 1048576) (hp : Prime P) (ha0 : 0 < A) (ha : A < P) (hx : x < P) (e : x * x % P = A) : RootAns (A : Int) (P : Int) (if x ≤ P - x then (x : Int) else ((P - x : Nat) : Int)) true := by
  have hx0 : 0 < x := by
    rcases Nat.eq_zero_or_pos x with rfl | h
    · simp at e; omega
    · exact h
  by_cases c : x ≤ P - x
  · rw [if_pos c]
    refine root_yes h3 hm hp ha e (fun y hy hyy => ?_)
    rcases hp.two_roots (x := y) (y := x) (by omega) hx (by rw [hyy, e]) with h | h | h <;> omega
  · rw [if_neg c]
    refine root_yes h3 hm hp ha (by rw [other_root (by omega)]; exact e) (fun y hy hyy => ?_)
    rcases hp.two_roots (x := y) (y := x) (by omega) hx (by rw [hyy, e]) with h | h | h <;> omega

set_option maxHeartbeats 800000 in
theorem implRootInt_any (a p : Int) (w : World) (hT : Tab w) (h0 : -9223372036854775808 ≤ p) (h1 : p ≤ 9223372036854775807) :
    Calls Tryz.prog 185 #[.int .i64 a, .int .i64 p] w fun r w' => GivesRoot a p r ∧ w' = w := by
  by_cases c1 : p < 3
  · have HA := hide (root_no (fun h : RootOk a p => by have := h.1; omega))
    go_enter Tryz.func185, Tryz.ntmps185
    go_wp2
    go_ret2
    exact ⟨⟨0, false, rfl, HA.out⟩, rfl⟩
  · by_cases c2 : 1048576 < p
    · have HA := hide (root_no (fun h : RootOk a p => by have := h.2.1; omega))
      go_enter Tryz.func185, Tryz.ntmps185
      go_wp2
      go_ret2
      exact ⟨⟨0, false, rfl, HA.out⟩, rfl⟩
    · by_cases c3 : a < 0
      · have HA := hide (root_no (fun h : RootOk a p => by have := h.2.2.2.1; omega))
        go_enter Tryz.func185, Tryz.ntmps185
        go_wp2
        go_ret2
        exact ⟨⟨0, false, rfl, HA.out⟩, rfl⟩
      · by_cases c4 : p ≤ a
        · have HA := hide (root_no (fun h : RootOk a p => by have := h.2.2.2.2; omega))
          go_enter Tryz.func185, Tryz.ntmps185
          go_wp2
          go_ret2
          exact ⟨⟨0, false, rfl, HA.out⟩, rfl⟩
        · obtain ⟨P, rfl⟩ := Int.eq_ofNat_of_zero_le (show 0 ≤ p by omega)
          obtain ⟨A, rfl⟩ := Int.eq_ofNat_of_zero_le (show 0 ≤ a by omega)
          have n1 : ¬ (P : Int) ≤ (A : Int) := c4
          by_cases c5 : Prime P
          · have Hp := hide c5
            have ho := prime_odd (by omega) c5
            by_cases c6 : A = 0
            · subst c6
              have HA := hide (root_yes (A := 0) (V := 0) (show 3 ≤ P by omega) (by omega) c5 (by omega) (by simp) (fun x hx => absurd hx (Nat.not_lt_zero _)))
              clear c5
              go_enter Tryz.func185, Tryz.ntmps185
              go_wp2_with fail
              refine (implPrimeInt_any _ _ (by omega)).mono ?_
              rintro r w' ⟨⟨ok, rfl, hok⟩, hw⟩
              obtain rfl := hw.symm
              obtain rfl : ok = true := hok.2 ⟨by omega, by omega, by rw [Int.toNat_natCast]; exact Hp.out⟩
              clear hok
              go_wp2
              go_ret2
              exact ⟨⟨0, true, rfl, HA.out⟩, rfl⟩
            · have hb : ((A : Int) == 0) = false := by simp; omega
              by_cases c7 : A ^ ((P - 1) / 2) % P = 1
              · have HR := hide (someRoot_any A P w hT c5 (by omega) (by omega) ho (by omega) (by omega) c7)
                have HQ := hide (isSquare_any A P w (by omega) (by omega) (by omega))
                have HM : Hid (∀ x, x < P → x * x % P = A → RootAns (A : Int) (P : Int) (if x ≤ P - x then (x : Int) else ((P - x : Nat) : Int)) true) := fun x hx e => root_min (by omega) (by omega) c5 (by omega) (by omega) hx e
                rw [decide_eq_true c7] at HQ
                clear c5 c7 hT
                go_enter Tryz.func185, Tryz.ntmps185
                go_wp2_with fail
                refine (implPrimeInt_any _ _ (by omega)).mono ?_
                rintro r w' ⟨⟨ok, rfl, hok⟩, hw⟩
                obtain rfl := hw.symm
                obtain rfl : ok = true := hok.2 ⟨by omega, by omega, by rw [Int.toNat_natCast]; exact Hp.out⟩
                clear hok
                go_wp2_with fail
                refine HQ.out.mono ?_
                rintro r w' ⟨rfl, hw⟩
                obtain rfl := hw.symm
                go_wp2_with fail
                refine HR.out.mono ?_
                rintro r w' ⟨⟨x, rfl, hx, hxx⟩, hw⟩
                obtain rfl := hw.symm
                have HA := hide (HM.out x hx hxx)
                clear HR HQ HM hxx
                by_cases hc : x ≤ P - x
                · rw [if_pos hc] at HA
                  have hcmp : (x : Int) ≤ (P : Int) - (x : Int) := by omega
                  go_wp2
                  go_ret2
                  exact ⟨⟨_, true, rfl, HA.out⟩, rfl⟩
                · rw [if_neg hc] at HA
                  have hcmp : ¬ (x : Int) ≤ (P : Int) - (x : Int) := by omega
                  have hsub : (P : Int) - (x : Int) = ((P - x : Nat) : Int) := by omega
                  rw [← hsub] at HA
                  clear hsub
                  go_wp2
                  go_ret2
                  exact ⟨⟨_, true, rfl, HA.out⟩, rfl⟩
              · have HQ := hide (isSquare_any A P w (by omega) (by omega) (by omega))
                have HA := hide (root_none (A := A) (P := P) (fun x hx => c7 (c5.euler_square ho (fun hd => by have := Nat.le_of_dvd (by omega) hd; omega) (by rw [hx, Nat.mod_eq_of_lt (by omega)]))))
                rw [decide_eq_false c7] at HQ
                clear c5 c7
                go_enter Tryz.func185, Tryz.ntmps185
                go_wp2_with fail
                refine (implPrimeInt_any _ _ (by omega)).mono ?_
                rintro r w' ⟨⟨ok, rfl, hok⟩, hw⟩
                obtain rfl := hw.symm
                obtain rfl : ok = true := hok.2 ⟨by omega, by omega, by rw [Int.toNat_natCast]; exact Hp.out⟩
                clear hok
                go_wp2_with fail
                refine HQ.out.mono ?_
                rintro r w' ⟨rfl, hw⟩
                obtain rfl := hw.symm
                clear HQ
                go_wp2
                go_ret2
                exact ⟨⟨0, false, rfl, HA.out⟩, rfl⟩
          · have Hp := hide c5
            have HA := hide (root_no (fun h : RootOk (A : Int) (P : Int) => c5 (by have := h.2.2.1; rwa [Int.toNat_natCast] at this)))
            clear c5
            go_enter Tryz.func185, Tryz.ntmps185
            go_wp2_with fail
            refine (implPrimeInt_any _ _ (by omega)).mono ?_
            rintro r w' ⟨⟨ok, rfl, hok⟩, hw⟩
            obtain rfl := hw.symm
            obtain rfl : ok = false := by
              cases ok with
              | false => rfl
              | true => exact absurd (by have := (hok.1 rfl).2.2; rwa [Int.toNat_natCast] at this) Hp.out
            clear hok
            go_wp2
            go_ret2
            exact ⟨⟨0, false, rfl, HA.out⟩, rfl⟩
end

end Go.Proofs.YtigjjkondbdgjaaGreatDoor
