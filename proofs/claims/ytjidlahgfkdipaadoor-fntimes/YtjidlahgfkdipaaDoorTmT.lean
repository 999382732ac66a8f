/- Plain facts: the texts of times. Nothing of the program. -/
import Derived.Test.YtjidlahgfkdipaaDoorTmN
import Derived.Test.YtjidlahgfkdipaaDoorAdN
namespace Go.Proofs.YtjidlahgfkdipaaDoor
set_option linter.unusedVariables false
set_option linter.unusedSimpArgs false
open Go.RowKit

/-- Two digits. -/
def two (n : Nat) : List UInt8 := [UInt8.ofNat (48 + n / 10 % 10), UInt8.ofNat (48 + n % 10)]
def restL (m d s : Nat) : List UInt8 := two m ++ (two d ++ (two (s / 3600) ++ (two (s / 60 % 60) ++ (two (s % 60) ++ [90]))))
def longL (y m d s : Nat) : List UInt8 := two (y / 100) ++ (two y ++ restL m d s)
def shortL (y m d s : Nat) : List UInt8 := two y ++ restL m d s
theorem two_len (n : Nat) : (two n).length = 2 := rfl
theorem longL_len (y m d s : Nat) : (longL y m d s).length = 15 := rfl

theorem dec_two {n p : Nat} (hn : 1 ≤ n) (hp : p < 100) : Lib.decDigits (100 * n + p) = Lib.decDigits n ++ two p := by
  have e1 : (100 * n + p) / 10 / 10 = n := by omega
  have e2 : (100 * n + p) / 10 % 10 = p / 10 % 10 := by omega
  have e3 : (100 * n + p) % 10 = p % 10 := by omega
  rw [dec2 (by omega), dec2 (n := (100 * n + p) / 10) (by omega), e1, e2, e3, List.append_assoc]
  rfl
theorem two_mod (n : Nat) : two (n % 100) = two n := by
  unfold two
  rw [show n % 100 / 10 % 10 = n / 10 % 10 by omega, show n % 100 % 10 = n % 10 by omega]
theorem dec_year {y : Nat} (h0 : 1000 ≤ y) (h1 : y ≤ 9999) : Lib.decDigits y = two (y / 100) ++ two y := by
  have e : y = 100 * (y / 100) + y % 100 := by omega
  conv => lhs; rw [e]
  rw [dec_two (by omega) (by omega), two_mod, dec2 (n := y / 100) (by omega), dec1 (by omega)]
  unfold two
  rw [show y / 100 / 10 % 10 = y / 100 / 10 by omega]
  rfl
/-- The number that a time's text spells. -/
def numT (y m d h mi s : Nat) : Nat := 100 * (100 * (100 * (100 * (100 * y + m) + d) + h) + mi) + s
theorem dec_num {y m d s : Nat} (hy : 1950 ≤ y) (hy1 : y ≤ 2099) (hm : m ≤ 12) (hd : d ≤ 31) (hs : s < 86400) : Lib.decDigits (numT y m d (s / 3600) (s % 3600 / 60) (s % 60)) ++ [90] = longL y m d s := by
  unfold numT
  rw [dec_two (by omega) (by omega), dec_two (by omega) (by omega), dec_two (by omega) (by omega), dec_two (by omega) (by omega), dec_two (by omega) (by omega), dec_year (by omega) (by omega), show s % 3600 / 60 = s / 60 % 60 by omega]
  unfold longL restL
  simp only [List.append_assoc]

/-- Texts as strings. -/
def longB (y m d s : Nat) : ByteArray := ⟨(longL y m d s).toArray⟩
def shortB (y m d s : Nat) : ByteArray := ⟨(shortL y m d s).toArray⟩

/-- The number of two digits. -/
def v2 (a b : UInt8) : Nat := 10 * (a.toNat - 48) + (b.toNat - 48)
theorem two_v2 {a b : UInt8} (ha : dgt a) (hb : dgt b) : two (v2 a b) = [a, b] := by
  obtain ⟨a0, a1⟩ := ha
  obtain ⟨b0, b1⟩ := hb
  unfold two v2
  rw [byte_of (b := a) (by omega), byte_of (b := b) (by omega)]
theorem v2_two {n : Nat} (h : n < 100) {a b : UInt8} (e : two n = [a, b]) : dgt a ∧ dgt b ∧ v2 a b = n := by
  unfold two at e
  simp only [List.cons.injEq, and_true] at e
  obtain ⟨rfl, rfl⟩ := e
  have e1 := ofNat_toNat (n := 48 + n / 10 % 10) (by omega)
  have e2 := ofNat_toNat (n := 48 + n % 10) (by omega)
  unfold dgt v2
  omega

theorem atoi_digits {p : List UInt8} (h1 : ∀ b ∈ p, dgt b) (h2 : 1 ≤ p.length) : Lib.atoi p = some (vl p : Int) := by
  match p, h2 with
  | b :: r, _ =>
    obtain ⟨b0, b1⟩ := h1 b (by simp)
    have n1 : (b == 45) = false := by
      apply Bool.eq_false_iff.2; intro e
      have := congrArg UInt8.toNat (eq_of_beq e)
      have h45 : (45 : UInt8).toNat = 45 := rfl
      omega
    have n2 : (b == 43) = false := by
      apply Bool.eq_false_iff.2; intro e
      have := congrArg UInt8.toNat (eq_of_beq e)
      have h43 : (43 : UInt8).toNat = 43 := rfl
      omega
    unfold Lib.atoi
    simp only [n1, n2]
    unfold Lib.decNat
    simp only [List.isEmpty_cons]
    simp [decFrom_vl (b :: r) 0 h1, vl_eq]
theorem rd2 {a b : UInt8} (ha : dgt a) (hb : dgt b) : rdI [a, b] = (v2 a b : Int) := by
  unfold rdI
  rw [atoi_digits (by simp [ha, hb]) (by simp)]
  show ((vl [a, b] : Nat) : Int) = _
  simp only [vl_eq, vlF_cons, vlF_nil, stp_eq, dv_eq, v2]
  omega
theorem rd4 {a b c d : UInt8} (ha : dgt a) (hb : dgt b) (hc : dgt c) (hd : dgt d) : rdI [a, b, c, d] = ((100 * v2 a b + v2 c d : Nat) : Int) := by
  unfold rdI
  rw [atoi_digits (by simp [ha, hb, hc, hd]) (by simp)]
  show ((vl [a, b, c, d] : Nat) : Int) = _
  simp only [vl_eq, vlF_cons, vlF_nil, stp_eq, dv_eq, v2]
  omega
theorem decFrom_lt (l : List UInt8) : ∀ acc n, Lib.decFrom acc l = some n → n + 1 ≤ (acc + 1) * 10 ^ l.length := by
  induction l with
  | nil => intro acc n h; rw [Lib.decFrom] at h; simp at h; simp [h]
  | cons b r ih =>
    intro acc n h
    rw [decFrom_cons] at h
    cases hd : Lib.digitVal b with
    | none => rw [hd] at h; cases h
    | some k =>
      rw [hd] at h
      have h1 := ih _ _ h
      have hk : k ≤ 9 := by
        unfold Lib.digitVal at hd
        split at hd
        · simp at hd; omega
        · cases hd
      rw [List.length_cons, Nat.pow_succ, ← Nat.mul_assoc, Nat.mul_right_comm]
      exact Nat.le_trans h1 (Nat.mul_le_mul_right _ (by omega))
theorem decNat_lt {l : List UInt8} {n : Nat} (h : Lib.decNat l = some n) : n + 1 ≤ 10 ^ l.length := by
  unfold Lib.decNat at h
  split at h
  · cases h
  · have := decFrom_lt l 0 n h; omega
theorem rdI_lt {l : List UInt8} (hl : l.length ≤ 4) : -10000 < rdI l ∧ rdI l < 10000 := by
  have key : ∀ k : List UInt8, k.length ≤ 4 → ∀ n, Lib.decNat k = some n → n < 10000 := fun k hk n h => by
    have h1 := decNat_lt h
    have h2 : 10 ^ k.length ≤ 10 ^ 4 := Nat.pow_le_pow_right (by omega) hk
    omega
  unfold rdI
  match l with
  | [] => simp [Lib.atoi]
  | b :: r =>
    have hr : r.length ≤ 4 := by simp at hl; omega
    have e : Lib.atoi (b :: r) = if b == 45 then (Lib.decNat r).map fun (m : Nat) => -(m : Int) else if b == 43 then (Lib.decNat r).map fun (m : Nat) => (m : Int) else (Lib.decNat (b :: r)).map fun (m : Nat) => (m : Int) := rfl
    rw [e]
    clear e
    split
    · cases h : Lib.decNat r with
      | none => simp
      | some n => have := key r hr n h; simp; omega
    · split
      · cases h : Lib.decNat r with
        | none => simp
        | some n => have := key r hr n h; simp; omega
      · cases h : Lib.decNat (b :: r) with
        | none => simp
        | some n => have := key _ hl n h; simp; omega

/-- What a text of fifteen bytes tells. -/
def allD (l : List UInt8) : Bool := l.all fun b => decide (dgt b)
def rtY (b0 b1 b2 b3 : UInt8) : Nat := 100 * v2 b0 b1 + v2 b2 b3
def rtS (b8 b9 b10 b11 b12 b13 : UInt8) : Nat := 3600 * v2 b8 b9 + 60 * v2 b10 b11 + v2 b12 b13
def rtOk (b0 b1 b2 b3 b4 b5 b6 b7 b8 b9 b10 b11 b12 b13 b14 : UInt8) : Bool :=
  decide (b14 = 90) && (allD [b0, b1, b2, b3, b4, b5, b6, b7, b8, b9, b10, b11, b12, b13] && (decide (v2 b8 b9 ≤ 23 ∧ v2 b10 b11 ≤ 59 ∧ v2 b12 b13 ≤ 59) && tOk (rtY b0 b1 b2 b3) (v2 b4 b5) (v2 b6 b7) (rtS b8 b9 b10 b11 b12 b13)))
def rtV (b0 b1 b2 b3 b4 b5 b6 b7 b8 b9 b10 b11 b12 b13 b14 : UInt8) : Int :=
  if rtOk b0 b1 b2 b3 b4 b5 b6 b7 b8 b9 b10 b11 b12 b13 b14 then tTm (rtY b0 b1 b2 b3) (v2 b4 b5) (v2 b6 b7) (rtS b8 b9 b10 b11 b12 b13) else 0

theorem allD_iff {b0 b1 b2 b3 b4 b5 b6 b7 b8 b9 b10 b11 b12 b13 : UInt8} : allD [b0, b1, b2, b3, b4, b5, b6, b7, b8, b9, b10, b11, b12, b13] = true ↔ dgt b0 ∧ dgt b1 ∧ dgt b2 ∧ dgt b3 ∧ dgt b4 ∧ dgt b5 ∧ dgt b6 ∧ dgt b7 ∧ dgt b8 ∧ dgt b9 ∧ dgt b10 ∧ dgt b11 ∧ dgt b12 ∧ dgt b13 := by
  simp [allD]

/-- The parts that the program reads. -/
structure Pts (b0 b1 b2 b3 b4 b5 b6 b7 b8 b9 b10 b11 b12 b13 : UInt8) (y m d s : Int) : Prop where
  y : y = rdI [b0, b1, b2, b3]
  m : m = rdI [b4, b5]
  d : d = rdI [b6, b7]
  s : s = rdI [b8, b9] * 3600 + rdI [b10, b11] * 60 + rdI [b12, b13]

theorem list4 {a b : UInt8} {l : List UInt8} {x y : UInt8} {r : List UInt8} (h : [a, b] ++ l = x :: y :: r) : [a, b] = [x, y] ∧ l = r := by
  simp only [List.cons_append, List.nil_append, List.cons.injEq] at h
  obtain ⟨rfl, rfl, rfl⟩ := h
  exact ⟨rfl, rfl⟩
theorem two_cons {n : Nat} {l : List UInt8} {x y : UInt8} {r : List UInt8} (h : two n ++ l = x :: y :: r) : two n = [x, y] ∧ l = r := list4 h

/-- A text that is written is read. -/
theorem read_long {b0 b1 b2 b3 b4 b5 b6 b7 b8 b9 b10 b11 b12 b13 b14 : UInt8} {y m d s : Nat} (h : DayOk y m d) (hs : s < 86400)
    (e : longL y m d s = [b0, b1, b2, b3, b4, b5, b6, b7, b8, b9, b10, b11, b12, b13, b14]) :
    rtOk b0 b1 b2 b3 b4 b5 b6 b7 b8 b9 b10 b11 b12 b13 b14 = true ∧ rtV b0 b1 b2 b3 b4 b5 b6 b7 b8 b9 b10 b11 b12 b13 b14 = tmV y m d s := by
  have hy0 := h.y0
  have hy1 := h.y1
  have hm := h.m1
  have hd := Nat.le_trans h.d1 (md_le y m)
  unfold longL restL at e
  obtain ⟨e0, e⟩ := two_cons e
  obtain ⟨e1, e⟩ := two_cons e
  obtain ⟨e2, e⟩ := two_cons e
  obtain ⟨e3, e⟩ := two_cons e
  obtain ⟨e4, e⟩ := two_cons e
  obtain ⟨e5, e⟩ := two_cons e
  obtain ⟨e6, e⟩ := two_cons e
  simp only [List.cons.injEq, and_true] at e
  rw [← two_mod y] at e1
  obtain ⟨d0, d1, x0⟩ := v2_two (by omega) e0
  obtain ⟨d2, d3, x1⟩ := v2_two (by omega) e1
  obtain ⟨d4, d5, x2⟩ := v2_two (by omega) e2
  obtain ⟨d6, d7, x3⟩ := v2_two (by omega) e3
  obtain ⟨d8, d9, x4⟩ := v2_two (by omega) e4
  obtain ⟨d10, d11, x5⟩ := v2_two (by omega) e5
  obtain ⟨d12, d13, x6⟩ := v2_two (by omega) e6
  have hY : rtY b0 b1 b2 b3 = y := by unfold rtY; rw [x0, x1]; omega
  have hS : rtS b8 b9 b10 b11 b12 b13 = s := by unfold rtS; rw [x4, x5, x6]; omega
  obtain ⟨k1, k2⟩ := tOk_of h hs
  have hok : rtOk b0 b1 b2 b3 b4 b5 b6 b7 b8 b9 b10 b11 b12 b13 b14 = true := by
    unfold rtOk
    rw [hY, hS, x2, x3, x4, x5, x6, k1, allD_iff.2 ⟨d0, d1, d2, d3, d4, d5, d6, d7, d8, d9, d10, d11, d12, d13⟩, decide_eq_true e.symm, decide_eq_true (p := s / 3600 ≤ 23 ∧ s / 60 % 60 ≤ 59 ∧ s % 60 ≤ 59) (by omega)]
    rfl
  refine ⟨hok, ?_⟩
  unfold rtV
  rw [hok, hY, hS, x2, x3, k2]
  rfl

/-- A text that is read is written. -/
theorem long_read {b0 b1 b2 b3 b4 b5 b6 b7 b8 b9 b10 b11 b12 b13 b14 : UInt8} {y m d s : Int} (hp : Pts b0 b1 b2 b3 b4 b5 b6 b7 b8 b9 b10 b11 b12 b13 y m d s)
    (h : rtOk b0 b1 b2 b3 b4 b5 b6 b7 b8 b9 b10 b11 b12 b13 b14 = true) :
    tOk y m d s = true ∧ tTm y m d s = rtV b0 b1 b2 b3 b4 b5 b6 b7 b8 b9 b10 b11 b12 b13 b14 ∧ longL y.toNat m.toNat d.toNat s.toNat = [b0, b1, b2, b3, b4, b5, b6, b7, b8, b9, b10, b11, b12, b13, b14] := by
  have h' := h
  unfold rtOk at h'
  simp only [Bool.and_eq_true, decide_eq_true_eq] at h'
  obtain ⟨rfl, hD, ⟨g1, g2, g3⟩, hO⟩ := h'
  obtain ⟨d0, d1, d2, d3, d4, d5, d6, d7, d8, d9, d10, d11, d12, d13⟩ := allD_iff.1 hD
  have ey : y = (rtY b0 b1 b2 b3 : Int) := by rw [hp.y, rd4 d0 d1 d2 d3]; rfl
  have em : m = (v2 b4 b5 : Int) := by rw [hp.m, rd2 d4 d5]
  have ed : d = (v2 b6 b7 : Int) := by rw [hp.d, rd2 d6 d7]
  have es : s = (rtS b8 b9 b10 b11 b12 b13 : Int) := by rw [hp.s, rd2 d8 d9, rd2 d10 d11, rd2 d12 d13]; unfold rtS; omega
  subst ey em ed es
  refine ⟨hO, ?_, ?_⟩
  · unfold rtV
    rw [h]
    rfl
  · simp only [Int.toNat_natCast]
    have u4 : rtS b8 b9 b10 b11 b12 b13 / 3600 = v2 b8 b9 := by unfold rtS; omega
    have u5 : rtS b8 b9 b10 b11 b12 b13 / 60 % 60 = v2 b10 b11 := by unfold rtS; omega
    have u6 : rtS b8 b9 b10 b11 b12 b13 % 60 = v2 b12 b13 := by unfold rtS; omega
    have w2 : v2 b2 b3 < 100 := by unfold v2; have := d2.2; have := d3.2; omega
    have u0 : rtY b0 b1 b2 b3 / 100 = v2 b0 b1 := by unfold rtY; omega
    have u1 : rtY b0 b1 b2 b3 % 100 = v2 b2 b3 := by unfold rtY; omega
    unfold longL restL
    rw [u4, u5, u6, u0, ← two_mod (rtY b0 b1 b2 b3), u1, two_v2 d0 d1, two_v2 d2 d3, two_v2 d4 d5, two_v2 d6 d7, two_v2 d8 d9, two_v2 d10 d11, two_v2 d12 d13]
    rfl

end Go.Proofs.YtjidlahgfkdipaaDoor
