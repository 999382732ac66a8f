/- Walks of the model's draws: a cursor over bytes: l1Byte, l1Below, l1Once, l1PickInt: each answers some number in its range and turns the cursor alone. -/
import Derived.Test.YtjpdllhhganbpaaChecked
import Derived.Test.YtjpdllhhganbpaaBBase
import Derived.Test.YtjpdllhhganbpaaBits
import Derived.Deep.QuietTactic
import Derived.BigQuiet
namespace Go.Proofs.Ytjpdllhhganbpaa
set_option linter.unusedVariables false
open Go.RowKit

/-- The cursor in block C, over the n bytes of the slice a. -/
structure Cur (w : World) (C : Nat) (a : Option Addr) (n cap : Nat) : Prop where
  c0 : w.cell? ⟨C, 0, none⟩ = some (.slice a n cap)
  c1 : ∃ i : Nat, i ≤ n ∧ w.cell? ⟨C, 1, none⟩ = some (.int .i64 i)
  c2 : ∃ h : Int, w.cell? ⟨C, 2, none⟩ = some (.int .i64 h)
  f1 : w.frozen? ⟨C, 1, none⟩ = false
  f2 : w.frozen? ⟨C, 2, none⟩ = false

theorem Cur.of_block {w w' : World} {C : Nat} {a : Option Addr} {n cap : Nat} (h : Cur w C a n cap) (e : w'.heap[C]? = w.heap[C]?) : Cur w' C a n cap := by
  have k : ∀ o, w'.cell? ⟨C, o, none⟩ = w.cell? ⟨C, o, none⟩ := fun o => World.cell?_of_block (a := ⟨C, o, none⟩) e
  have z : ∀ o, w'.frozen? ⟨C, o, none⟩ = w.frozen? ⟨C, o, none⟩ := fun o => World.frozen?_of_block (a := ⟨C, o, none⟩) e
  obtain ⟨i, hi, c1⟩ := h.c1
  obtain ⟨hh, c2⟩ := h.c2
  exact ⟨(k 0).trans h.c0, ⟨i, hi, (k 1).trans c1⟩, ⟨hh, (k 2).trans c2⟩, (z 1).trans h.f1, (z 2).trans h.f2⟩

theorem and_255 (x : Int) : bits .and .i64 x 255 = x % 256 := by
  show IntKind.i64.wrap ((BitVec.ofInt 64 x &&& BitVec.ofInt 64 255).toNat : Int) = _
  have h2 : (BitVec.ofInt 64 255).toNat = 2 ^ 8 - 1 := by decide
  rw [BitVec.toNat_and, ofInt64, h2, Nat.and_two_pow_sub_one_eq_mod, IntKind.wrap_i64]
  omega

/-- The call answers a number in 0 .. lim, and turns the cursor alone. -/
def GivesIn (w : World) (C : Nat) (a : Option Addr) (n cap : Nat) (lim : Int) (e : Ending) (w' : World) : Prop :=
  ∃ x, e = .returned (.int .i64 x) ∧ 0 ≤ x ∧ x ≤ lim ∧ Cur w' C a n cap ∧ Touch C w w'

/-- The bytes that the draws read, not in the cursor's block. -/
structure Code (w : World) (C : Nat) (a : Option Addr) (b off n : Nat) (f : Nat → Int) : Prop where
  seg : BSeg w a b off n f
  byts : ∀ i, i < n → 0 ≤ f i ∧ f i ≤ 255
  ne : 0 < n → b ≠ C

theorem Code.touch {w w' : World} {C : Nat} {a : Option Addr} {b off n : Nat} {f : Nat → Int} (h : Code w C a b off n f) (ht : Touch C w w') : Code w' C a b off n f :=
  ⟨h.seg.touch ht h.ne, h.byts, h.ne⟩

/-- The cursor, its place and its number known. -/
structure CurAt (w : World) (C : Nat) (a : Option Addr) (n cap i : Nat) (h : Int) : Prop where
  c0 : w.cell? ⟨C, 0, none⟩ = some (.slice a n cap)
  c1 : w.cell? ⟨C, 1, none⟩ = some (.int .i64 i)
  c2 : w.cell? ⟨C, 2, none⟩ = some (.int .i64 h)
  f1 : w.frozen? ⟨C, 1, none⟩ = false
  f2 : w.frozen? ⟨C, 2, none⟩ = false

theorem CurAt.cur {w : World} {C : Nat} {a : Option Addr} {n cap i : Nat} {h : Int} (k : CurAt w C a n cap i h) (hi : i ≤ n) : Cur w C a n cap := ⟨k.c0, ⟨i, hi, k.c1⟩, ⟨h, k.c2⟩, k.f1, k.f2⟩

theorem CurAt.drew {w : World} {C : Nat} {a : Option Addr} {n cap i : Nat} {h : Int} (k : CurAt w C a n cap i h) (q : Nat) : CurAt (w.drewN q) C a n cap i h := ⟨k.c0, k.c1, k.c2, k.f1, k.f2⟩

theorem ne_off {C o p : Nat} (h : o ≠ p) : (⟨C, o, none⟩ : Addr) ≠ ⟨C, p, none⟩ := fun e => h (congrArg Addr.off e)

theorem CurAt.setH {w : World} {C : Nat} {a : Option Addr} {n cap i : Nat} {h : Int} (k : CurAt w C a n cap i h) (h' : Int) : CurAt (w.setCell ⟨C, 2, none⟩ (.int .i64 h')) C a n cap i h' :=
  ⟨by rw [World.cell?_setCell_other _ _ _ _ (ne_off (by omega))]; exact k.c0, by rw [World.cell?_setCell_other _ _ _ _ (ne_off (by omega))]; exact k.c1, World.cell?_setCell_same _ _ _ k.c2, by rw [World.frozen?_setCell]; exact k.f1, by rw [World.frozen?_setCell]; exact k.f2⟩

theorem CurAt.setI {w : World} {C : Nat} {a : Option Addr} {n cap i : Nat} {h : Int} (k : CurAt w C a n cap i h) (i' : Nat) : CurAt (w.setCell ⟨C, 1, none⟩ (.int .i64 i')) C a n cap i' h :=
  ⟨by rw [World.cell?_setCell_other _ _ _ _ (ne_off (by omega))]; exact k.c0, World.cell?_setCell_same _ _ _ k.c1, by rw [World.cell?_setCell_other _ _ _ _ (ne_off (by omega))]; exact k.c2, by rw [World.frozen?_setCell]; exact k.f1, by rw [World.frozen?_setCell]; exact k.f2⟩

set_option maxHeartbeats 1600000 in
theorem l1Byte_any (C : Nat) (a : Option Addr) (b off n cap : Nat) (f : Nat → Int) (w : World) (hC : Cur w C a n cap) (hK : Code w C a b off n f) (hn : n ≤ 1048576) :
    Calls Try.prog 50 #[.pointer (some ⟨C, 0, none⟩)] w fun e w' => GivesIn w C a n cap 255 e w' := by
  obtain ⟨i, hi, c1⟩ := hC.c1
  obtain ⟨h0, c2⟩ := hC.c2
  have c0 := hC.c0
  have f1 := hC.f1
  have f2 := hC.f2
  have A0 : CurAt w C a n cap i h0 := ⟨c0, c1, c2, f1, f2⟩
  clear hC
  go_enter Try.func50, Try.ntmps50
  go_wp2
  have A1 := A0.setH (wrap64 (wrap64 (h0 * 6364136223846793005) + 1442695040888963407))
  have T1 := (Touch.refl C w).set 2 (.int .i64 (wrap64 (wrap64 (h0 * 6364136223846793005) + 1442695040888963407)))
  have K1 := hK.touch T1
  clear c0 c1 c2 f1 f2 A0 hK
  generalize wrap64 (wrap64 (h0 * 6364136223846793005) + 1442695040888963407) = h1 at *
  generalize w.setCell ⟨C, 2, none⟩ (.int .i64 h1) = w1 at *
  have c0 := A1.c0
  have c1 := A1.c1
  have c2 := A1.c2
  go_quiet (fail)
  have A2 := A1.drew nq
  have T2 := T1.drew nq
  have K2 := K1.touch ((Touch.refl C w1).drew nq)
  have hx0 : 0 ≤ bits .and .i64 (bits .xor .i64 (h1 / 8589934592) (h1 / 35184372088832)) 255 ∧ bits .and .i64 (bits .xor .i64 (h1 / 8589934592) (h1 / 35184372088832)) 255 ≤ 255 := by rw [and_255]; omega
  generalize bits .and .i64 (bits .xor .i64 (h1 / 8589934592) (h1 / 35184372088832)) 255 = x at *
  clear c0 c1 c2 A1 T1 K1
  generalize w1.drewN nq = w2 at *
  have c0 := A2.c0
  have c1 := A2.c1
  have hin : (i : Int) ≤ (n : Int) := by omega
  go_wp2
  go_quiet (fail)
  have A3 := A2.drew nq
  have T3 := T2.drew nq
  have K3 := K2.touch ((Touch.refl C w2).drew nq)
  clear c0 c1 A2 T2 K2
  generalize w2.drewN nq = w3 at *
  by_cases hlt : i < n
  · have hlt' : (i : Int) < (n : Int) := by omega
    obtain rfl := K3.seg.at' (by omega)
    have cb := K3.seg.cell i hlt
    have bb := K3.byts i hlt
    have c0 := A3.c0
    have c1 := A3.c1
    go_wp2
    go_quiet (fail)
    have A4 := A3.drew nq
    have T4 := T3.drew nq
    clear c0 c1 A3 T3 K3 cb
    have hy0 : 0 ≤ bits .and .i64 (x + f i) 255 ∧ bits .and .i64 (x + f i) 255 ≤ 255 := by rw [and_255]; omega
    generalize w3.drewN nq = w4 at *
    have c1 := A4.c1
    have f1 := A4.f1
    have A5 := A4.setI (i + 1)
    have T5 := T4.set 1 (.int .i64 ((i + 1 : Nat) : Int))
    rw [show (((i + 1 : Nat)) : Int) = (i : Int) + 1 by omega] at T5
    have A5' : CurAt (w4.setCell ⟨C, 1, none⟩ (.int .i64 ((i : Int) + 1))) C (some ⟨b, off, none⟩) n cap (i + 1) h1 := by
      have := A5
      rw [show (((i + 1 : Nat)) : Int) = (i : Int) + 1 by omega] at this
      exact this
    clear A4 T4 A5
    go_wp2
    go_ret
    exact ⟨_, rfl, hy0.1, hy0.2, A5'.cur (by omega), T5⟩
  · have hlt' : ¬ (i : Int) < (n : Int) := by omega
    go_wp2
    go_ret
    exact ⟨x, rfl, hx0.1, hx0.2, A3.cur hi, T3⟩

/-- What a cursor's block and the bytes become when other memory is made. -/
theorem Code.grow {w w' : World} {C : Nat} {a : Option Addr} {b off n : Nat} {f : Nat → Int} (h : Code w C a b off n f) (hg : w.grownBy w' (some C)) : Code w' C a b off n f :=
  ⟨⟨h.seg.at', fun i hi => (World.cell?_of_block (a := ⟨b, off + i, none⟩) (hg.block b (h.seg.lt (by omega)) (by simp; exact h.ne (by omega)))).trans (h.seg.cell i hi)⟩, h.byts, h.ne⟩

set_option maxHeartbeats 800000 in
theorem l1Below_any (C : Nat) (a : Option Addr) (b off n cap : Nat) (f : Nat → Int) (m : Int) (w : World) (hC : Cur w C a n cap) (hK : Code w C a b off n f) (hn : n ≤ 1048576) (hm0 : 0 < m) (hm1 : m ≤ 65536) :
    Calls Try.prog 37 #[.pointer (some ⟨C, 0, none⟩), .int .i64 m] w fun e w' => GivesIn w C a n cap (m - 1) e w' := by
  have hmz : (m == 0) = false := by simp; omega
  by_cases h256 : m ≤ 256
  · go_enter Try.func37, Try.ntmps37
    go_wp2_with fail
    refine (l1Byte_any C a b off n cap f _ hC hK hn).mono ?_
    rintro e w1 ⟨x, rfl, x0, x1, hC1, T1⟩
    have r0 := Int.emod_nonneg x (show m ≠ 0 by omega)
    have r1 := Int.emod_lt_of_pos x hm0
    go_wp2
    go_ret
    exact ⟨_, rfl, r0, by omega, hC1, T1⟩
  · go_enter Try.func37, Try.ntmps37
    go_wp2_with fail
    refine (l1Byte_any C a b off n cap f _ hC hK hn).mono ?_
    rintro e w1 ⟨x, rfl, x0, x1, hC1, T1⟩
    go_wp2_with fail
    refine (l1Byte_any C a b off n cap f _ hC1 (hK.touch T1) hn).mono ?_
    rintro e w2 ⟨y, rfl, y0, y1, hC2, T2⟩
    have T12 := T1.trans T2
    go_wp2_with fail
    refine (l1Byte_any C a b off n cap f _ hC2 (hK.touch T12) hn).mono ?_
    rintro e w3 ⟨z, rfl, z0, z1, hC3, T3⟩
    have T13 := T12.trans T3
    go_wp2_with fail
    refine (l1Byte_any C a b off n cap f _ hC3 (hK.touch T13) hn).mono ?_
    rintro e w4 ⟨v, rfl, v0, v1, hC4, T4⟩
    have T14 := T13.trans T4
    have r0 := Int.emod_nonneg (x * 16777216 + y * 65536 + z * 256 + v) (show m ≠ 0 by omega)
    have r1 := Int.emod_lt_of_pos (x * 16777216 + y * 65536 + z * 256 + v) hm0
    clear hC hK hC1 hC2 hC3 T1 T2 T3 T4 T12 T13
    go_wp2
    go_ret
    exact ⟨_, rfl, r0, by omega, hC4, T14⟩

/-- The call answers a bool, and turns the cursor alone. -/
def GivesB2 (w : World) (C : Nat) (a : Option Addr) (n cap : Nat) (e : Ending) (w' : World) : Prop :=
  ∃ x : Bool, e = .returned (.bool x) ∧ Cur w' C a n cap ∧ Touch C w w'

/-- The call answers one of a list, and turns the cursor alone. -/
def GivesOf (w : World) (C : Nat) (a : Option Addr) (n cap : Nat) (m : Nat) (g : Nat → Int) (e : Ending) (w' : World) : Prop :=
  ∃ x : Int, e = .returned (.int .i64 x) ∧ Cur w' C a n cap ∧ Touch C w w'

set_option maxHeartbeats 400000 in
theorem l1PickInt_any (C : Nat) (a : Option Addr) (b off n cap : Nat) (f : Nat → Int) (a2 : Option Addr) (b2 off2 m cap2 : Nat) (g : Nat → Int) (w : World) (hC : Cur w C a n cap) (hK : Code w C a b off n f) (hn : n ≤ 1048576) (hs : Seg w a2 b2 off2 m g) (hm : 0 < m) (hm1 : m ≤ 100) (hne : b2 ≠ C) :
    Calls Try.prog 48 #[.pointer (some ⟨C, 0, none⟩), .slice a2 m cap2] w fun e w' => GivesOf w C a n cap m g e w' := by
  obtain rfl := hs.at' hm
  go_enter Try.func48, Try.ntmps48
  go_wp2_with fail
  refine (l1Below_any C a b off n cap f (m : Int) _ hC hK hn (by omega) (by omega)).mono ?_
  rintro e w1 ⟨x, rfl, x0, x1, hC1, T1⟩
  obtain ⟨i, rfl⟩ := Int.eq_ofNat_of_zero_le x0
  have hc := (hs.touch T1 (fun _ => hne)).cell i (by omega)
  have him : (i : Int) < (m : Int) := by omega
  go_wp2
  go_ret
  exact ⟨g i, rfl, hC1, T1⟩

end Go.Proofs.Ytjpdllhhganbpaa
