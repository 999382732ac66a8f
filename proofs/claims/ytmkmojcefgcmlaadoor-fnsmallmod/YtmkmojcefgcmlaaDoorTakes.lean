/- Walks: the model's l1Times; the program's guessDigit and takeMost. -/
import Derived.Test.YtmkmojcefgcmlaaDoorSubs
import Derived.Test.YtmkmojcefgcmlaaDoorArith
namespace Go.Proofs.YtmkmojcefgcmlaaDoor
set_option linter.unusedVariables false
open Go.RowKit

/-- What l1Times has done behind k rounds. -/
structure Timing (A : Nat → Int) (d : Int) (w wr : World) (v : Value) (n k : Nat) : Prop where
  small : k ≤ n + 1
  last : k = n + 1 → tmC A d k = 0
  own : wr.ownsRow w.heap.size 3 1 v k (ints (tmD A d) k)
  notnil : v ≠ .slice none 0 0
  below : Below w.heap.size w wr

theorem timing_step {A : Nat → Int} {d : Int} {w wr w1 : World} {v v' : Value} {n k : Nat} {o : Obj} (h : Timing A d w wr v n k) (hl : k + 1 = n + 1 → tmC A d (k + 1) = 0) (hk : k + 1 ≤ n + 1)
    (hown : w1.ownsRow w.heap.size 3 1 v' (k + 1) (ints (tmD A d) k ++ [.int .i64 (tmD A d k)])) (hg : (wr.alloc o).grownBy w1 v.ownBlock) (hv : v' ≠ .slice none 0 0) : Timing A d w w1 v' n (k + 1) :=
  ⟨hk, hl, by rw [ints_succ]; exact hown, hv, (h.below.alloc h.below.size _).grown hg (by have := h.below.size; simp; omega) (fun j hj => (h.own.lt j hj).1)⟩

theorem or_mid (a b : Int) (ha : 0 ≤ a) (ha' : a ≤ 65535) (hb : 0 ≤ b) (hb' : b ≤ 65535) : bits .or .i64 (a * 4294967296) (b * 65536) = (a * 65536 + b) * 65536 := by
  show IntKind.i64.wrap ((BitVec.ofInt 64 (a * 4294967296) ||| BitVec.ofInt 64 (b * 65536)).toNat : Int) = _
  obtain ⟨A, rfl⟩ := Int.eq_ofNat_of_zero_le ha
  obtain ⟨B, rfl⟩ := Int.eq_ofNat_of_zero_le hb
  have e1 : ((A : Int) * 4294967296 % 18446744073709551616).toNat = 2 ^ 32 * A := by omega
  have e2 : ((B : Int) * 65536 % 18446744073709551616).toNat = B * 65536 := by omega
  rw [BitVec.toNat_or, ofInt64, ofInt64, e1, e2, ← Nat.two_pow_add_eq_or_of_lt (by omega), IntKind.wrap_i64]
  omega

/-- The two highest digits of b, the three highest of a, that is one digit longer. -/
def top2 (h : Nat → Int) (n : Nat) : Int := h (n - 1) * 65536 + h (n - 2)
def top3 (f : Nat → Int) (n : Nat) : Int := (f n * 65536 + f (n - 1)) * 65536 + f (n - 2)

set_option maxHeartbeats 1600000 in
theorem guessDigit_any (a : Option Addr) (b off n cap : Nat) (f : Nat → Int) (a2 : Option Addr) (b2 off2 cap2 : Nat) (h : Nat → Int) (w : World) (hs : Seg w a b off (n + 1) f) (hs2 : Seg w a2 b2 off2 n h)
    (hn : n ≤ 1048576) (hn2 : 2 ≤ n) (hf : Digs f (n + 1)) (hh : Digs h n) (htop : h (n - 1) ≠ 0) :
    Calls Tryd.prog 54 #[.slice a (n + 1) cap, .slice a2 n cap2] w fun e w' => e = .returned (.int .i64 (top3 f n / top2 h n)) ∧ ∃ q, w' = w.drewN q := by
  obtain ⟨m, rfl⟩ : ∃ m, n = m + 2 := ⟨n - 2, by omega⟩
  obtain rfl := hs.at' (by omega)
  obtain rfl := hs2.at' (by omega)
  have c0 := hs.cell m (by omega)
  have c1 := hs.cell (m + 1) (by omega)
  have c2 := hs.cell (m + 2) (by omega)
  have e0 := hs2.cell m (by omega)
  have e1 := hs2.cell (m + 1) (by omega)
  obtain ⟨f00, f01⟩ := hf m (by omega)
  obtain ⟨f10, f11⟩ := hf (m + 1) (by omega)
  obtain ⟨f20, f21⟩ := hf (m + 2) (by omega)
  obtain ⟨h00, h01⟩ := hh m (by omega)
  obtain ⟨h10, h11⟩ := hh (m + 1) (by omega)
  have htop' : h (m + 1) ≠ 0 := by simpa using htop
  have o1 := or_mid (f (m + 2)) (f (m + 1)) f20 f21 f10 f11
  have o2 := or_low (f (m + 2) * 65536 + f (m + 1)) (f m) (by omega) (by omega) f00 f01
  have o3 := or_low (h (m + 1)) (h m) h10 (by omega) h00 h01
  have Hfin : Hid (((f (m + 2) * 65536 + f (m + 1)) * 65536 + f m) / (h (m + 1) * 65536 + h m) = top3 f (m + 2) / top2 h (m + 2)) := rfl
  clear hs hs2 hf hh htop
  go_enter Tryd.func54, Tryd.ntmps54
  go_wp2
  go_quiet (fail)
  have e2 : (w.drewN nq).cell? ⟨b2, off2 + m, none⟩ = some (.int .i64 (h m)) := e0
  have e3 : (w.drewN nq).cell? ⟨b2, off2 + (m + 1), none⟩ = some (.int .i64 (h (m + 1))) := e1
  have hQ : ∃ q, w.drewN nq = w.drewN q := ⟨nq, rfl⟩
  have HQ : Hid (∃ q, w.drewN nq = w.drewN q) := hQ
  clear hQ c0 c1 c2 e0 e1 o1 o2
  have hnz : ((h (m + 1) * 65536 + h m) == 0) = false := by simp; omega
  have hdp : 0 < h (m + 1) * 65536 + h m := by omega
  have hnp : 0 ≤ (f (m + 2) * 65536 + f (m + 1)) * 65536 + f m := by omega
  have hnp2 : (f (m + 2) * 65536 + f (m + 1)) * 65536 + f m ≤ 281474976710655 := by omega
  generalize w.drewN nq = w1 at *
  go_wp2
  go_quiet (fail)
  go_wp2
  go_ret
  refine ⟨ret_int ?_, ?_⟩
  · exact Hfin.out
  · obtain ⟨q, hq⟩ := HQ.out
    exact ⟨q + nq, by rw [hq, World.drewN_drewN]⟩

end Go.Proofs.YtmkmojcefgcmlaaDoor
