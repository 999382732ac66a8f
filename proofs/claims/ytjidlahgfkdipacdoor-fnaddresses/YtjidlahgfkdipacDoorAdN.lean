/- Plain facts: addresses read and written, as lists of bytes. Nothing of the program. -/
import Derived.Test.YtjidlahgfkdipacDoorBase
import Derived.Lib.ItoaNum
import Derived.Lib.Atoi
import Derived.Lib.Join
namespace Go.Proofs.YtjidlahgfkdipacDoor
set_option linter.unusedVariables false
set_option linter.unusedSimpArgs false
open Go.RowKit

/-- A digit's byte. -/
def dgt (b : UInt8) : Prop := 48 ≤ b.toNat ∧ b.toNat ≤ 57
instance (b : UInt8) : Decidable (dgt b) := inferInstanceAs (Decidable (_ ∧ _))
/-- A digit's number. -/
@[irreducible] def dv (b : UInt8) : Nat := b.toNat - 48
theorem dv_eq (b : UInt8) : dv b = b.toNat - 48 := by unfold dv; rfl
@[irreducible] def stp (acc d : Nat) : Nat := 10 * acc + d
theorem stp_eq (acc d : Nat) : stp acc d = 10 * acc + d := by unfold stp; rfl
/-- What digits spell. -/
def vlF (acc : Nat) : List UInt8 → Nat
  | [] => acc
  | b :: r => vlF (stp acc (dv b)) r
theorem vlF_nil (acc : Nat) : vlF acc [] = acc := rfl
theorem vlF_cons (acc : Nat) (b : UInt8) (r : List UInt8) : vlF acc (b :: r) = vlF (stp acc (dv b)) r := rfl
def vl (p : List UInt8) : Nat := vlF 0 p
theorem vl_eq (p : List UInt8) : vl p = vlF 0 p := rfl
/-- As an address writes a number. -/
def canon (p : List UInt8) : Prop := (∀ b ∈ p, dgt b) ∧ 1 ≤ p.length ∧ p.length ≤ 3 ∧ (1 < p.length → p.head? ≠ some 48) ∧ vl p ≤ 255

theorem byte_of {b : UInt8} {n : Nat} (h : b.toNat = n) : UInt8.ofNat n = b := by
  subst h
  simp

theorem dec1 {n : Nat} (h : n < 10) : Lib.decDigits n = [UInt8.ofNat (48 + n)] := by
  unfold Lib.decDigits
  rw [dif_pos h]
theorem dec2 {n : Nat} (h : ¬ n < 10) : Lib.decDigits n = Lib.decDigits (n / 10) ++ [UInt8.ofNat (48 + n % 10)] := by
  conv => lhs; unfold Lib.decDigits
  rw [dif_neg h]

theorem canon_dec {p : List UInt8} (h : canon p) : p = Lib.decDigits (vl p) := by
  obtain ⟨h1, h2, h3, h4, h5⟩ := h
  match p, h2, h3 with
  | [a], _, _ =>
    obtain ⟨a0, a1⟩ := h1 a (by simp)
    have e : vl [a] = a.toNat - 48 := by rw [vl_eq]; simp only [vlF_cons, vlF_nil, stp_eq, dv_eq]; omega
    rw [e, dec1 (by omega), byte_of (b := a) (by omega)]
  | [a, b], _, _ =>
    obtain ⟨a0, a1⟩ := h1 a (by simp)
    obtain ⟨b0, b1⟩ := h1 b (by simp)
    have ha : a.toNat ≠ 48 := fun e => h4 (by simp) (by simp; exact UInt8.toNat_inj.1 e)
    have e : vl [a, b] = 10 * (a.toNat - 48) + (b.toNat - 48) := by rw [vl_eq]; simp only [vlF_cons, vlF_nil, stp_eq, dv_eq]; omega
    rw [e, dec2 (by omega), dec1 (by omega), byte_of (b := a) (by omega), byte_of (b := b) (by omega)]
    rfl
  | [a, b, c], _, _ =>
    obtain ⟨a0, a1⟩ := h1 a (by simp)
    obtain ⟨b0, b1⟩ := h1 b (by simp)
    obtain ⟨c0, c1⟩ := h1 c (by simp)
    have ha : a.toNat ≠ 48 := fun e => h4 (by simp) (by simp; exact UInt8.toNat_inj.1 e)
    have e : vl [a, b, c] = 10 * (10 * (a.toNat - 48) + (b.toNat - 48)) + (c.toNat - 48) := by rw [vl_eq]; simp only [vlF_cons, vlF_nil, stp_eq, dv_eq]; omega
    rw [e, dec2 (by omega), dec2 (by omega), dec1 (by omega), byte_of (b := a) (by omega), byte_of (b := b) (by omega), byte_of (b := c) (by omega)]
    rfl

theorem ofNat_toNat {n : Nat} (h : n < 256) : (UInt8.ofNat n).toNat = n := by
  simp [UInt8.toNat_ofNat']; omega

theorem dec_canon {n : Nat} (h : n ≤ 255) : canon (Lib.decDigits n) ∧ vl (Lib.decDigits n) = n := by
  by_cases h1 : n < 10
  · rw [dec1 h1]
    have e := ofNat_toNat (n := 48 + n) (by omega)
    have v : vl [UInt8.ofNat (48 + n)] = n := by simp only [vl_eq, vlF_cons, vlF_nil, stp_eq, dv_eq, e]; omega
    exact ⟨⟨by intro b hb; simp only [List.mem_singleton] at hb; subst hb; unfold dgt; omega, by simp, by simp, by simp, by omega⟩, v⟩
  · rw [dec2 h1]
    have ez := ofNat_toNat (n := 48 + n % 10) (by omega)
    by_cases h2 : n / 10 < 10
    · rw [dec1 h2]
      have e := ofNat_toNat (n := 48 + n / 10) (by omega)
      have v : vl ([UInt8.ofNat (48 + n / 10)] ++ [UInt8.ofNat (48 + n % 10)]) = n := by simp only [List.cons_append, List.nil_append, vl_eq, vlF_cons, vlF_nil, stp_eq, dv_eq, e, ez]; omega
      refine ⟨⟨?_, by simp, by simp, ?_, by omega⟩, v⟩
      · intro b hb
        simp only [List.cons_append, List.nil_append, List.mem_cons, List.not_mem_nil, or_false] at hb
        unfold dgt
        rcases hb with rfl | rfl <;> omega
      · intro _ hh
        simp only [List.cons_append, List.nil_append, List.head?_cons, Option.some.injEq] at hh
        rw [hh] at e
        have : (48 : UInt8).toNat = 48 := rfl
        omega
    · rw [dec2 h2, dec1 (by omega)]
      have e := ofNat_toNat (n := 48 + n / 10 / 10) (by omega)
      have ey := ofNat_toNat (n := 48 + n / 10 % 10) (by omega)
      have v : vl ([UInt8.ofNat (48 + n / 10 / 10)] ++ [UInt8.ofNat (48 + n / 10 % 10)] ++ [UInt8.ofNat (48 + n % 10)]) = n := by simp only [List.cons_append, List.nil_append, vl_eq, vlF_cons, vlF_nil, stp_eq, dv_eq, e, ey, ez]; omega
      refine ⟨⟨?_, by simp, by simp, ?_, by omega⟩, v⟩
      · intro b hb
        simp only [List.cons_append, List.nil_append, List.mem_cons, List.not_mem_nil, or_false] at hb
        unfold dgt
        rcases hb with rfl | rfl | rfl <;> omega
      · intro _ hh
        simp only [List.cons_append, List.nil_append, List.head?_cons, Option.some.injEq] at hh
        rw [hh] at e
        have : (48 : UInt8).toNat = 48 := rfl
        omega

theorem decFrom_cons (acc : Nat) (b : UInt8) (r : List UInt8) : Lib.decFrom acc (b :: r) = match Lib.digitVal b with | some d => Lib.decFrom (acc * 10 + d) r | none => none := by
  rw [Lib.decFrom]
  cases Lib.digitVal b <;> rfl
theorem decFrom_vl (p : List UInt8) : ∀ acc : Nat, (∀ b ∈ p, dgt b) → Lib.decFrom acc p = some (vlF acc p) := by
  induction p with
  | nil => intro acc _; rw [vlF_nil, Lib.decFrom]
  | cons b r ih =>
    intro acc h
    have hb := h b (by simp)
    unfold dgt at hb
    have e : Lib.digitVal b = some (b.toNat - 48) := by unfold Lib.digitVal; rw [if_pos hb]
    rw [decFrom_cons, e, vlF_cons]
    show Lib.decFrom (acc * 10 + (b.toNat - 48)) r = _
    rw [ih _ (fun x hx => h x (by simp [hx])), stp_eq, dv_eq, Nat.mul_comm acc 10]
theorem canon_atoi {p : List UInt8} (h : canon p) : Lib.atoi p = some (vl p : Int) := by
  obtain ⟨h1, h2, -⟩ := h
  match p, h2 with
  | b :: r, _ =>
    obtain ⟨b0, b1⟩ := h1 b (by simp)
    have n1 : (b == 45) = false := by
      apply Bool.eq_false_iff.2; intro e
      have := congrArg UInt8.toNat (eq_of_beq e)
      have h45 : (45 : UInt8).toNat = 45 := rfl
      omega
    have n2 : (b == 43) = false := by
      apply Bool.eq_false_iff.2; intro e
      have := congrArg UInt8.toNat (eq_of_beq e)
      have h43 : (43 : UInt8).toNat = 43 := rfl
      omega
    unfold Lib.atoi
    simp only [n1, n2]
    unfold Lib.decNat
    simp only [List.isEmpty_cons]
    simp [decFrom_vl (b :: r) 0 h1, vl_eq]

/-- Lists without dots, joined by dots, are told by what is joined. -/
theorem head_dot {x y : List UInt8} {r t : List UInt8} (hx : (46 : UInt8) ∉ x) (hy : (46 : UInt8) ∉ y) (h : x ++ 46 :: r = y ++ 46 :: t) : x = y ∧ r = t := by
  induction x generalizing y with
  | nil =>
    cases y with
    | nil => simpa using h
    | cons b y => simp at h; exact absurd h.1 (fun e => hy (by simp [e]))
  | cons a x ih =>
    cases y with
    | nil => simp at h; exact absurd h.1 (fun e => hx (by simp [e]))
    | cons b y =>
      simp only [List.cons_append, List.cons.injEq] at h
      obtain ⟨e1, e2⟩ := ih (fun e => hx (by simp [e])) (fun e => hy (by simp [e])) h.2
      exact ⟨by rw [h.1, e1], e2⟩

theorem no_dot {x y t : List UInt8} (hx : (46 : UInt8) ∉ x) : x ≠ y ++ 46 :: t := fun e => hx (by rw [e]; simp)

theorem join_two (x y : List UInt8) (r : List (List UInt8)) : Lib.join (x :: y :: r) [46] = x ++ 46 :: Lib.join (y :: r) [46] := by
  simp [Lib.join, List.intercalate, List.intersperse]

theorem join_inj : ∀ (xs ys : List (List UInt8)), xs ≠ [] → ys ≠ [] → (∀ x ∈ xs, (46 : UInt8) ∉ x) → (∀ y ∈ ys, (46 : UInt8) ∉ y) → Lib.join xs [46] = Lib.join ys [46] → xs = ys
  | [], _, h, _, _, _, _ => absurd rfl h
  | _, [], _, h, _, _, _ => absurd rfl h
  | [x], [y], _, _, _, _, h => by rw [Lib.join_one, Lib.join_one] at h; rw [h]
  | [x], y :: y' :: r, _, _, hx, _, h => by
    rw [Lib.join_one, join_two] at h
    exact absurd h (no_dot (hx x (by simp)))
  | x :: x' :: r, [y], _, _, _, hy, h => by
    rw [Lib.join_one, join_two] at h
    exact absurd h.symm (no_dot (hy y (by simp)))
  | x :: x' :: r, y :: y' :: t, _, _, hx, hy, h => by
    rw [join_two, join_two] at h
    obtain ⟨e1, e2⟩ := head_dot (hx x (by simp)) (hy y (by simp)) h
    rw [e1, join_inj (x' :: r) (y' :: t) (by simp) (by simp) (fun z hz => hx z (by simp [hz])) (fun z hz => hy z (by simp [hz])) e2]

theorem dec_no_dot {n : Nat} (h : n ≤ 255) : (46 : UInt8) ∉ Lib.decDigits n := fun e => by
  have := (dec_canon h).1.1 46 e
  unfold dgt at this
  have : (46 : UInt8).toNat = 46 := rfl
  omega

/-- What the program makes of a part. -/
def rdI (p : List UInt8) : Int := (Lib.atoi p).getD 0

/-- Both readers agree: four parts without dots are canonical just where the program's numbers are bytes and, written, are the text again. -/
theorem read_alike (xs : List (List UInt8)) (hd : ∀ x ∈ xs, (46 : UInt8) ∉ x) (h4 : xs.length = 4) :
    (∀ x ∈ xs, canon x) ↔ ((∀ x ∈ xs, 0 ≤ rdI x ∧ rdI x ≤ 255) ∧ Lib.join (xs.map fun x => Lib.decDigits (rdI x).toNat) [46] = Lib.join xs [46]) := by
  constructor
  · intro h
    have e : ∀ x ∈ xs, rdI x = (vl x : Int) := fun x hx => by unfold rdI; rw [canon_atoi (h x hx)]; rfl
    refine ⟨fun x hx => ?_, ?_⟩
    · have := (h x hx).2.2.2.2
      rw [e x hx]; omega
    · congr 1
      conv => rhs; rw [← List.map_id xs]
      apply List.map_congr_left
      intro x hx
      rw [e x hx, Int.toNat_natCast]
      exact (canon_dec (h x hx)).symm
  · rintro ⟨h1, h2⟩ x hx
    have hm := join_inj _ xs (by intro e; have := congrArg List.length e; simp at this; rw [this] at h4; simp at h4) (by intro e; rw [e] at h4; simp at h4) (fun y hy => by
      rw [List.mem_map] at hy
      obtain ⟨z, hz, rfl⟩ := hy
      have := h1 z hz
      exact dec_no_dot (by omega)) hd h2
    have hx' : x = Lib.decDigits (rdI x).toNat := by
      have h3 : ∀ (l : List (List UInt8)), l.map (fun x => Lib.decDigits (rdI x).toNat) = l → ∀ x ∈ l, Lib.decDigits (rdI x).toNat = x := by
        intro l
        induction l with
        | nil => intro _ x hx; cases hx
        | cons a l ih =>
          intro he x hx
          simp only [List.map_cons, List.cons.injEq] at he
          rcases List.mem_cons.1 hx with rfl | hx
          · exact he.1
          · exact ih he.2 x hx
      exact (h3 xs hm x hx).symm
    have := h1 x hx
    rw [hx']
    exact (dec_canon (by omega)).1

end Go.Proofs.YtjidlahgfkdipacDoor
