/- Walks: Reduce of the model and of the program. -/
import Derived.Test.YthgdempjpndhgabShaP
import Derived.Test.YthgdempjpndhgabIn
namespace Go.Proofs.Ythgdempjpndhgab
set_option linter.unusedVariables false
set_option linter.unusedSimpArgs false
open Go.RowKit

/-- The number of the first k bytes, the highest first. -/
def numB (f : Nat → Int) : Nat → Int
  | 0 => 0
  | k + 1 => numB f k * 256 + f k

theorem or32 (a b k : Nat) (hb : b < 2 ^ k) (h : a * 2 ^ k + b < 4294967296) : bits .or .u32 (((a * 2 ^ k : Nat)) : Int) (b : Int) = ((a * 2 ^ k + b : Nat) : Int) := by
  show IntKind.u32.wrap ((BitVec.ofInt 32 ((a * 2 ^ k : Nat) : Int) ||| BitVec.ofInt 32 (b : Int)).toNat : Int) = _
  rw [BitVec.ofInt_natCast, BitVec.ofInt_natCast, BitVec.toNat_or, BitVec.toNat_ofNat, BitVec.toNat_ofNat, Nat.mod_eq_of_lt (by omega), Nat.mod_eq_of_lt (by omega), ← Nat.shiftLeft_eq, ← Nat.shiftLeft_add_eq_or_of_lt hb, Nat.shiftLeft_eq, IntKind.wrap_u32]
  omega

theorem or64 (a b k : Nat) (hb : b < 2 ^ k) (h : a * 2 ^ k + b < 18446744073709551616) : bits .or .u64 (((a * 2 ^ k : Nat)) : Int) (b : Int) = ((a * 2 ^ k + b : Nat) : Int) := by
  show IntKind.u64.wrap ((BitVec.ofInt 64 ((a * 2 ^ k : Nat) : Int) ||| BitVec.ofInt 64 (b : Int)).toNat : Int) = _
  rw [BitVec.ofInt_natCast, BitVec.ofInt_natCast, BitVec.toNat_or, BitVec.toNat_ofNat, BitVec.toNat_ofNat, Nat.mod_eq_of_lt (by omega), Nat.mod_eq_of_lt (by omega), ← Nat.shiftLeft_eq, ← Nat.shiftLeft_add_eq_or_of_lt hb, Nat.shiftLeft_eq, IntKind.wrap_u64]
  omega

theorem wordV_sum (b : Nat → Int) (p : Nat) (h : ∀ i, i < 4 → 0 ≤ b (p + i) ∧ b (p + i) < 256) : wordV b p = b p * 16777216 + b (p + 1) * 65536 + b (p + 2) * 256 + b (p + 3) := by
  have h0 := h 0 (by omega)
  have h1 := h 1 (by omega)
  have h2 := h 2 (by omega)
  have h3 := h 3 (by omega)
  rw [Nat.add_zero] at h0
  obtain ⟨y0, e0⟩ := Int.eq_ofNat_of_zero_le h0.1
  obtain ⟨y1, e1⟩ := Int.eq_ofNat_of_zero_le h1.1
  obtain ⟨y2, e2⟩ := Int.eq_ofNat_of_zero_le h2.1
  obtain ⟨y3, e3⟩ := Int.eq_ofNat_of_zero_le h3.1
  unfold wordV
  rw [e0, e1, e2, e3]
  have g0 : y0 < 256 := by omega
  have g1 : y1 < 256 := by omega
  have g2 : y2 < 256 := by omega
  have g3 : y3 < 256 := by omega
  clear e0 e1 e2 e3 h0 h1 h2 h3 h
  have a1 : ((y0 : Int) * 2 ^ 24 % 4294967296) = (((y0 * 256) * 2 ^ 16 : Nat) : Int) := by omega
  have a2 : ((y1 : Int) * 2 ^ 16 % 4294967296) = ((y1 * 2 ^ 16 : Nat) : Int) := by omega
  have a3 : ((y2 : Int) * 2 ^ 8 % 4294967296) = ((y2 * 2 ^ 8 : Nat) : Int) := by omega
  have b1 : bits .or .u32 (((y0 * 256) * 2 ^ 16 : Nat) : Int) ((y1 * 2 ^ 16 : Nat) : Int) = (((y0 * 256 + y1) * 2 ^ 16 : Nat) : Int) := by
    have := or32 y0 (y1 * 2 ^ 16) 24 (by omega) (by omega)
    rw [show y0 * 256 * 2 ^ 16 = y0 * 2 ^ 24 by omega, this]
    omega
  have b2 : bits .or .u32 (((y0 * 256 + y1) * 2 ^ 16 : Nat) : Int) ((y2 * 2 ^ 8 : Nat) : Int) = (((y0 * 65536 + y1 * 256 + y2) * 2 ^ 8 : Nat) : Int) := by
    rw [or32 (y0 * 256 + y1) (y2 * 2 ^ 8) 16 (by omega) (by omega)]
    omega
  rw [a1, a2, a3, b1, b2, or32 (y0 * 65536 + y1 * 256 + y2) y3 8 (by omega) (by omega)]
  omega

theorem numB_eight (f : Nat → Int) (h : ∀ i, i < 8 → 0 ≤ f i ∧ f i < 256) : bits .or .u64 (wordV f 0 * 4294967296) (wordV (fun i => f (4 + i)) 0) = numB f 8 ∧ 0 ≤ numB f 8 ∧ numB f 8 < 18446744073709551616 := by
  have e1 := wordV_sum f 0 (fun i hi => by rw [Nat.zero_add]; exact h i (by omega))
  have e2 := wordV_sum (fun i => f (4 + i)) 0 (fun i hi => by rw [Nat.zero_add]; exact h (4 + i) (by omega))
  simp only [Nat.zero_add] at e1 e2
  have hs : numB f 8 = (f 0 * 16777216 + f 1 * 65536 + f 2 * 256 + f 3) * 4294967296 + (f (4 + 0) * 16777216 + f (4 + 1) * 65536 + f (4 + 2) * 256 + f (4 + 3)) := by
    simp only [numB, Nat.reduceAdd]
    omega
  have b0 := h 0 (by omega)
  have b1 := h 1 (by omega)
  have b2 := h 2 (by omega)
  have b3 := h 3 (by omega)
  have b4 := h (4 + 0) (by omega)
  have b5 := h (4 + 1) (by omega)
  have b6 := h (4 + 2) (by omega)
  have b7 := h (4 + 3) (by omega)
  have l1 : 0 ≤ wordV f 0 ∧ wordV f 0 < 4294967296 := ⟨wordV_lo _ _, wordV_hi _ _⟩
  have l2 : 0 ≤ wordV (fun i => f (4 + i)) 0 ∧ wordV (fun i => f (4 + i)) 0 < 4294967296 := ⟨wordV_lo _ _, wordV_hi _ _⟩
  have e2' : wordV (fun i => f (4 + i)) 0 = f (4 + 0) * 16777216 + f (4 + 1) * 65536 + f (4 + 2) * 256 + f (4 + 3) := e2
  obtain ⟨x, hx⟩ := Int.eq_ofNat_of_zero_le l1.1
  obtain ⟨y, hy⟩ := Int.eq_ofNat_of_zero_le l2.1
  have hx' : x < 4294967296 := by omega
  have hy' : y < 4294967296 := by omega
  rw [hs, ← e1, ← e2', hx, hy]
  clear hs e1 e2 e2' hx hy l1 l2 b0 b1 b2 b3 b4 b5 b6 b7 h
  refine ⟨?_, by omega, by omega⟩
  rw [show (x : Int) * 4294967296 = ((x * 2 ^ 32 : Nat) : Int) by omega, or64 x y 32 (by omega) (by omega)]
  omega

/-- Whether Reduce answers. -/
def redB (n : Nat) (N : Int) : Bool := decide (n = 8) && decide (2 ≤ N) && decide (N ≤ 2147483648)
/-- What Reduce tells. -/
def redV (f : Nat → Int) (n : Nat) (N : Int) : Int := if redB n N then numB f 8 % N else -1

set_option maxHeartbeats 1600000 in
set_option maxRecDepth 100000 in
theorem implReduce_yes (a : Option Addr) (b off cap : Nat) (f : Nat → Int) (N : Int) (w : World) (hs : BSeg w a b off 8 f) (hc : 8 ≤ cap) (hcb : cap ≤ 9223372036854775807) (hy : ∀ i, i < 8 → 0 ≤ f i ∧ f i < 256) (h1 : 2 ≤ N) (h2 : N ≤ 2147483648) :
    Calls Try.prog 21 #[.slice a 8 cap, .int .i64 N] w fun e w' => e = .returned (.int .i64 (numB f 8 % N)) ∧ Ext w w' := by
  obtain rfl := hs.at' (by omega)
  obtain ⟨X, hX⟩ : ∃ X : Nat → Prop, X = fun _ => False := ⟨_, rfl⟩
  have hbl := hs.lt (by omega)
  have up : ∀ p : ReC X w, BSeg p.val (some ⟨b, off, none⟩) b off 8 f := fun p => ⟨fun _ => rfl, fun i hi => by
    rw [World.cell?_of_block (a := ⟨b, off + i, none⟩) (p.ok.block b hbl (by rw [hX]; exact fun e => e))]
    exact hs.cell i hi⟩
  have H1 : Hid (∀ p : ReC X w, Calls Try.prog 36 #[.slice (some ⟨b, off, none⟩) 8 cap] p.val fun e w' => e = .returned (.int .u32 (wordV f 0)) ∧ Ext p.val w') := hide (fun p => readWord_any f _ b off 8 cap _ (up p) (by omega) (fun i hi => hy i (by omega)))
  have H2 : Hid (∀ p : ReC X w, Calls Try.prog 36 #[.slice (some ⟨b, off + 4, none⟩) 4 (cap - 4)] p.val fun e w' => e = .returned (.int .u32 (wordV (fun i => f (4 + i)) 0)) ∧ Ext p.val w') := hide (fun p => readWord_any (fun i => f (4 + i)) _ b (off + 4) 4 (cap - 4) _ ⟨fun _ => rfl, fun i hi => by rw [Nat.add_assoc]; exact (up p).cell (4 + i) (by omega)⟩ (by omega) (fun i hi => hy (4 + i) (by omega)))
  obtain ⟨hn, n0, n1⟩ := numB_eight f hy
  obtain ⟨l1, l1'⟩ : 0 ≤ wordV f 0 ∧ wordV f 0 < 4294967296 := ⟨wordV_lo _ _, wordV_hi _ _⟩
  obtain ⟨l2, l2'⟩ : 0 ≤ wordV (fun i => f (4 + i)) 0 ∧ wordV (fun i => f (4 + i)) 0 < 4294967296 := ⟨wordV_lo _ _, wordV_hi _ _⟩
  generalize wordV f 0 = x at *
  generalize wordV (fun i => f (4 + i)) 0 = y at *
  generalize numB f 8 = m at *
  have r1 : IntKind.u64.wrap x = x := by rw [IntKind.wrap_u64]; omega
  have r2 : IntKind.u64.wrap y = y := by rw [IntKind.wrap_u64]; omega
  have r3 : IntKind.u64.wrap (x * 4294967296) = x * 4294967296 := by rw [IntKind.wrap_u64]; omega
  have q1 : ¬ N < 2 := by omega
  have q2 : ¬ (2147483648 : Int) < N := by omega
  have c4 : (4 : Int) ≤ cap := by omega
  have c4' : ¬ cap = 4 := by omega
  clear hs up hX hy
  go_enter Try.func21, Try.ntmps21
  go_wp2
  refine anyK_begin X 10 rfl (by kernel_rfl) ?_
  refine anyK_take 0 4 6 rfl (by decide) (by kernel_rfl) (fun _ _ d _ _ h => by cases d <;> exact h) ?_
  repeat (refine headC_step (fun K hK => ?_); go_simp; first | (refine hK _ ?_; clear hK K) | (apply Exists.intro; refine ⟨fun _ => ?_, hK _ ?_⟩; ((go_at_call 36; exact Calls.re_of (H1.out _))); clear hK K))
  refine headC_nil ?_
  refine anyK_take 4 6 0 rfl (by decide) (by kernel_rfl) (fun _ _ d _ _ h => by cases d <;> exact h) ?_
  repeat (refine headC_step (fun K hK => ?_); go_simp; first | (refine hK _ ?_; clear hK K) | (apply Exists.intro; refine ⟨fun _ => ?_, hK _ ?_⟩; ((go_at_call 36; exact Calls.re_of (H2.out _))); clear hK K))
  refine headC_nil ?_
  refine anyK_done (by kernel_rfl) ?_ 0
  intro w2 h2'
  have m0 := Int.emod_nonneg m (show N ≠ 0 by omega)
  have m1 := Int.emod_lt_of_pos m (show 0 < N by omega)
  clear H1 H2 r1 r2 r3 l1 l1' l2 l2' hn
  go_wp2
  go_ret
  exact ⟨ret_int rfl, h2'⟩

theorem num_step (m y N : Int) : (m % N * 256 + y) % N = (m * 256 + y) % N := by
  rw [Int.add_emod, Int.mul_emod, Int.emod_emod, ← Int.mul_emod, ← Int.add_emod]

set_option maxHeartbeats 1600000 in
set_option maxRecDepth 100000 in
theorem specReduce_yes (a : Option Addr) (b off cap : Nat) (f : Nat → Int) (N : Int) (w : World) (hs : BSeg w a b off 8 f) (hy : ∀ i, i < 8 → 0 ≤ f i ∧ f i < 256) (h1 : 2 ≤ N) (h2 : N ≤ 2147483648) :
    Calls Try.prog 20 #[.slice a 8 cap, .int .i64 N] w fun e w' => e = .returned (.int .i64 (numB f 8 % N)) ∧ Ext w w' := by
  obtain rfl := hs.at' (by omega)
  go_enter Try.func20, Try.ntmps20
  go_wp2_with fail
  refine (l1In_int N 2 2147483648 w).mono ?_
  rintro e w0 ⟨rfl, hw0⟩
  replace hw0 := hw0.symm
  subst hw0
  rw [decide_eq_true h1, decide_eq_true h2]
  go_wp2
  rename_i K hK
  have HK := hide hK
  clear hK
  go_loopw [5, 6] (fun x i wr => ∃ k : Nat, k ≤ 8 ∧ i = .int .i64 k ∧ x = .int .i64 (numB f k % N) ∧ wr = w) (fun _ i _ => 8 - (intOf i).toNat)
  case atStart => exact ⟨0, by omega, rfl, by simp [numB], rfl⟩
  case round =>
    obtain ⟨k, hk, rfl, rfl, hwr⟩ := hrel
    subst hwr
    have m0 := Int.emod_nonneg (numB f k) (show N ≠ 0 by omega)
    have m1 := Int.emod_lt_of_pos (numB f k) (show 0 < N by omega)
    by_cases hlt : k < 8
    · have hc := hs.cell k hlt
      obtain ⟨y0, y1⟩ := hy k hlt
      have HS : Hid ((numB f k % N * 256 + f k) % N = numB f (k + 1) % N) := hide (num_step (numB f k) (f k) N)
      generalize f k = y at *
      generalize numB f k % N = m at *
      have k8 : (k : Int) < 8 := by omega
      have p0 : 0 ≤ m * 256 + y := by omega
      have p1 : m * 256 + y ≤ 9223372036854775807 := by omega
      have n0 : ¬ N = 0 := by omega
      have e1 := Int.emod_nonneg (m * 256 + y) (show N ≠ 0 by omega)
      have e2 := Int.emod_lt_of_pos (m * 256 + y) (show 0 < N by omega)
      clear hy
      go_wp2
      go_roundw
      case rel => exact ⟨k + 1, by omega, by go_num, by rw [← HS.out], by trivial⟩
      case measure => simp [intOf]; omega
    · have e8 : k = 8 := by omega
      subst e8
      go_wp2
      apply HK.out
      clear HK
      go_wp2
      go_ret
      exact ⟨ret_int rfl, Ext.refl _⟩

set_option maxHeartbeats 1600000 in
theorem implReduce_no (a : Option Addr) (n cap : Nat) (N : Int) (w : World) (h : redB n N = false) : Calls Try.prog 21 #[.slice a n cap, .int .i64 N] w fun e w' => e = .returned (.int .i64 (-1)) ∧ Ext w w' := by
  simp only [redB, Bool.and_eq_false_iff, decide_eq_false_iff_not] at h
  by_cases h8 : n = 8
  · subst h8
    have n8 : (((8 : Nat) : Int) != 8) = false := by simp
    by_cases h0 : N < 2
    · go_enter Try.func21, Try.ntmps21
      go_wp2
      go_ret
      exact ⟨rfl, Ext.refl _⟩
    · have h1 : (2147483648 : Int) < N := by omega
      clear h
      go_enter Try.func21, Try.ntmps21
      go_wp2
      go_ret
      exact ⟨rfl, Ext.refl _⟩
  · have n8 : ((n : Int) != 8) = true := by simp; omega
    clear h
    go_enter Try.func21, Try.ntmps21
    go_wp2
    go_ret
    exact ⟨rfl, Ext.refl _⟩

set_option maxHeartbeats 1600000 in
theorem specReduce_no (a : Option Addr) (n cap : Nat) (N : Int) (w : World) (h : redB n N = false) : Calls Try.prog 20 #[.slice a n cap, .int .i64 N] w fun e w' => e = .returned (.int .i64 (-1)) ∧ Ext w w' := by
  simp only [redB, Bool.and_eq_false_iff, decide_eq_false_iff_not] at h
  by_cases h8 : n = 8
  · subst h8
    have d : (decide (2 ≤ N) && decide (N ≤ 2147483648)) = false := by simp; omega
    clear h
    go_enter Try.func20, Try.ntmps20
    go_wp2_with fail
    refine (l1In_int N 2 2147483648 w).mono ?_
    rintro e w0 ⟨rfl, hw0⟩
    replace hw0 := hw0.symm
    subst hw0
    rw [d]
    go_wp2
    go_ret
    exact ⟨rfl, Ext.refl _⟩
  · have n8 : ((n : Int) != 8) = true := by simp; omega
    clear h
    go_enter Try.func20, Try.ntmps20
    go_wp2
    go_ret
    exact ⟨rfl, Ext.refl _⟩

theorem redB_true {n : Nat} {N : Int} (h : redB n N = true) : n = 8 ∧ 2 ≤ N ∧ N ≤ 2147483648 := by
  simp only [redB, Bool.and_eq_true, decide_eq_true_eq] at h
  exact ⟨h.1.1, h.1.2, h.2⟩

theorem implReduce_any (a : Option Addr) (b off n cap : Nat) (f : Nat → Int) (N : Int) (w : World) (hs : BSeg w a b off n f) (hc : n ≤ cap) (hcb : cap ≤ 9223372036854775807) (hy : ∀ i, i < n → 0 ≤ f i ∧ f i < 256) : Calls Try.prog 21 #[.slice a n cap, .int .i64 N] w fun e w' => e = .returned (.int .i64 (redV f n N)) ∧ Ext w w' := by
  unfold redV
  cases h : redB n N
  · exact implReduce_no a n cap N w h
  · obtain ⟨rfl, h1, h2⟩ := redB_true h
    exact implReduce_yes a b off cap f N w hs hc hcb hy h1 h2

theorem specReduce_any (a : Option Addr) (b off n cap : Nat) (f : Nat → Int) (N : Int) (w : World) (hs : BSeg w a b off n f) (hy : ∀ i, i < n → 0 ≤ f i ∧ f i < 256) : Calls Try.prog 20 #[.slice a n cap, .int .i64 N] w fun e w' => e = .returned (.int .i64 (redV f n N)) ∧ Ext w w' := by
  unfold redV
  cases h : redB n N
  · exact specReduce_no a n cap N w h
  · obtain ⟨rfl, h1, h2⟩ := redB_true h
    exact specReduce_yes a b off cap f N w hs hy h1 h2

end Go.Proofs.Ythgdempjpndhgab
