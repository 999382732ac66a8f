/- Walks: the model's l1Times; the program's guessDigit and takeMost. -/
import Derived.Test.YtmkmojcefgcmlaaSubs
import Derived.Test.YtmkmojcefgcmlaaDivM
namespace Go.Proofs.Ytmkmojcefgcmlaa
set_option linter.unusedVariables false
open Go.RowKit

/-- What l1Times has done behind k rounds. -/
structure Timing (A : Nat → Int) (d : Int) (w wr : World) (v : Value) (n k : Nat) : Prop where
  small : k ≤ n + 1
  last : k = n + 1 → tmC A d k = 0
  own : wr.ownsRow w.heap.size 3 1 v k (ints (tmD A d) k)
  notnil : v ≠ .slice none 0 0
  below : Below w.heap.size w wr

theorem timing_step {A : Nat → Int} {d : Int} {w wr w1 : World} {v v' : Value} {n k : Nat} {o : Obj} (h : Timing A d w wr v n k) (hl : k + 1 = n + 1 → tmC A d (k + 1) = 0) (hk : k + 1 ≤ n + 1)
    (hown : w1.ownsRow w.heap.size 3 1 v' (k + 1) (ints (tmD A d) k ++ [.int .i64 (tmD A d k)])) (hg : (wr.alloc o).grownBy w1 v.ownBlock) (hv : v' ≠ .slice none 0 0) : Timing A d w w1 v' n (k + 1) :=
  ⟨hk, hl, by rw [ints_succ]; exact hown, hv, (h.below.alloc h.below.size _).grown hg (by have := h.below.size; simp; omega) (fun j hj => (h.own.lt j hj).1)⟩

set_option maxHeartbeats 1600000 in
theorem l1Times_any (a : Option Addr) (b off n cap : Nat) (f : Nat → Int) (d : Int) (w : World) (hs : Seg w a b off n f) (hn : n ≤ 4096) (hf : Digs f n) (hd0 : 0 ≤ d) (hd1 : d ≤ 65535) :
    Calls Try.prog 67 #[.slice a n cap, .int .i64 d] w fun e w' => GivesVal w (val f n * d) e w' := by
  obtain ⟨i0, hi, hz0, hz1, hz2⟩ := info_parts Try.info3
  have hA := ext_bd hf
  have hC := tmC_bd hA hd0 hd1
  go_enter Try.func67, Try.ntmps67
  go_wp2
  go_loopw [5, 6, 7] (fun v c i wr => ∃ k : Nat, i = .int .i64 k ∧ c = .int .i64 (tmC (ext n f) d k) ∧ Timing (ext n f) d w wr v n k) (fun _ _ i _ => n + 1 - (intOf i).toNat)
  case atStart => exact ⟨0, rfl, rfl, by omega, fun h => rfl, World.ownsRow_made w #[] 0 (Nat.le_refl _) (by simp) rfl, by simp, (Below.refl _ _).alloc (Nat.le_refl _) _⟩
  case round =>
    obtain ⟨k, rfl, rfl, hO⟩ := hrel
    have hk := hO.small
    have hA1 := hA k
    have hC1 := hC k
    by_cases hgo : k < n ∨ 0 < tmC (ext n f) d k
    · have hkm : k < n + 1 := by
        by_cases e : k = n + 1
        · have := hO.last e
          omega
        · omega
      have hp := prod_bd hA1.1 hA1.2 hd0 hd1
      have Hd : Hid ((ext n f k * d + tmC (ext n f) d k) % 65536 = tmD (ext n f) d k) := rfl
      have Hc : Hid ((ext n f k * d + tmC (ext n f) d k) / 65536 = tmC (ext n f) d (k + 1)) := rfl
      have Hl : Hid (k + 1 = n + 1 → tmC (ext n f) d (k + 1) = 0) := fun e => by
        have e1 : ext n f k = 0 := ext_out (by omega)
        have := Hc.out
        rw [e1, Int.zero_mul] at this
        omega
      have sA := hs.of_all hO.below
      clear hA hC
      have hw3 : (k < n) ∨ (¬ k < n ∧ 0 < tmC (ext n f) d k) := by omega
      clear hgo
      rcases hw3 with h3 | ⟨h3, h5⟩
      all_goals
        go_wp2_with fail
        refine (l1Digit_any a b off n cap f k _ sA (by omega) (by omega)).mono ?_
        rintro e w' ⟨rfl, hw⟩
        obtain rfl := hw.symm
        obtain ⟨x, hx⟩ : ∃ x, x = ext n f k := ⟨_, rfl⟩
        obtain ⟨c, hc⟩ : ∃ c, c = tmC (ext n f) d k := ⟨_, rfl⟩
        rw [← hx, ← hc]
        rw [← hx] at hA1 hp
        rw [← hc] at hC1
        have HX : Hid ((x * d + c) % 65536 = tmD (ext n f) d k) := by rw [hx, hc]; exact Hd.out
        have HY : Hid ((x * d + c) / 65536 = tmC (ext n f) d (k + 1)) := by rw [hx, hc]; exact Hc.out
        obtain ⟨p0, p1⟩ := hp
        clear hx hc Hd Hc
        go_wp2_with (at_builtin; refine wpList_append_own _ rfl _ _ 24 rfl w.heap.size 3 i0 (.int .i64 0) 1 8 Try.underlying24 hi hz0 hz1 hz2 rfl (by decide) _ _ _ rfl (hO.own.alloc _) ⟨wr.heap.size, 0, none⟩ 1 1 [.int .i64 ((x * d + c) % 65536)] rfl rfl (cell_one_new _ _ _) (one_cell _) (by unfold maxLen; omega) (by omega) (by have := hO.below.size; simp; omega) ?_; intro v' w1 hown' hgrow hnil)
        rw [HX.out] at hown'
        have hN := timing_step hO Hl.out (by omega) hown' hgrow (fun e => hO.notnil (hnil.1 e).1)
        clear hown' hgrow hnil hO
        go_wp2
        go_roundw
        case rel => exact ⟨k + 1, by go_num, by rw [← HY.out], hN⟩
        case measure => simp [intOf]; omega
    · have hz : tmC (ext n f) d k = 0 := by omega
      have h1 : ¬ k < n := by omega
      have hV : Hid (val (tmD (ext n f) d) k = val f n * d) := by
        show _ = _
        have := tm_inv (ext n f) d k
        rw [hz, val_ext (by omega)] at this
        omega
      obtain ⟨gg, cap', hv', hg', hc', hO2⟩ := own_some hO.own hO.notnil
      have hb := hO.below
      rw [hv', hz]
      clear hv' hO hz hgo hA hC hA1 hC1
      go_wp2_with fail
      refine (l1Norm_any gg 0 k cap' _ _ hO2.toSeg (by omega) hc').mono ?_
      rintro e w' hN
      have hG := hN.val hb (fun i _ => tmD_bd _ _ i) (by omega)
      rw [hV.out] at hG
      obtain ⟨g3, cap3, m, f3, rfl, hG⟩ := hG
      clear hN
      go_wp2
      go_ret
      exact ⟨g3, cap3, m, f3, rfl, hG⟩

theorem or_mid (a b : Int) (ha : 0 ≤ a) (ha' : a ≤ 65535) (hb : 0 ≤ b) (hb' : b ≤ 65535) : bits .or .i64 (a * 4294967296) (b * 65536) = (a * 65536 + b) * 65536 := by
  show IntKind.i64.wrap ((BitVec.ofInt 64 (a * 4294967296) ||| BitVec.ofInt 64 (b * 65536)).toNat : Int) = _
  obtain ⟨A, rfl⟩ := Int.eq_ofNat_of_zero_le ha
  obtain ⟨B, rfl⟩ := Int.eq_ofNat_of_zero_le hb
  have e1 : ((A : Int) * 4294967296 % 18446744073709551616).toNat = 2 ^ 32 * A := by omega
  have e2 : ((B : Int) * 65536 % 18446744073709551616).toNat = B * 65536 := by omega
  rw [BitVec.toNat_or, ofInt64, ofInt64, e1, e2, ← Nat.two_pow_add_eq_or_of_lt (by omega), IntKind.wrap_i64]
  omega

/-- The two highest digits of b, the three highest of a, that is one digit longer. -/
def top2 (h : Nat → Int) (n : Nat) : Int := h (n - 1) * 65536 + h (n - 2)
def top3 (f : Nat → Int) (n : Nat) : Int := (f n * 65536 + f (n - 1)) * 65536 + f (n - 2)

set_option maxHeartbeats 1600000 in
theorem guessDigit_any (a : Option Addr) (b off n cap : Nat) (f : Nat → Int) (a2 : Option Addr) (b2 off2 cap2 : Nat) (h : Nat → Int) (w : World) (hs : Seg w a b off (n + 1) f) (hs2 : Seg w a2 b2 off2 n h)
    (hn : n ≤ 1048576) (hn2 : 2 ≤ n) (hf : Digs f (n + 1)) (hh : Digs h n) (htop : h (n - 1) ≠ 0) :
    Calls Try.prog 79 #[.slice a (n + 1) cap, .slice a2 n cap2] w fun e w' => e = .returned (.int .i64 (top3 f n / top2 h n)) ∧ ∃ q, w' = w.drewN q := by
  obtain ⟨m, rfl⟩ : ∃ m, n = m + 2 := ⟨n - 2, by omega⟩
  obtain rfl := hs.at' (by omega)
  obtain rfl := hs2.at' (by omega)
  have c0 := hs.cell m (by omega)
  have c1 := hs.cell (m + 1) (by omega)
  have c2 := hs.cell (m + 2) (by omega)
  have e0 := hs2.cell m (by omega)
  have e1 := hs2.cell (m + 1) (by omega)
  obtain ⟨f00, f01⟩ := hf m (by omega)
  obtain ⟨f10, f11⟩ := hf (m + 1) (by omega)
  obtain ⟨f20, f21⟩ := hf (m + 2) (by omega)
  obtain ⟨h00, h01⟩ := hh m (by omega)
  obtain ⟨h10, h11⟩ := hh (m + 1) (by omega)
  have htop' : h (m + 1) ≠ 0 := by simpa using htop
  have o1 := or_mid (f (m + 2)) (f (m + 1)) f20 f21 f10 f11
  have o2 := or_low (f (m + 2) * 65536 + f (m + 1)) (f m) (by omega) (by omega) f00 f01
  have o3 := or_low (h (m + 1)) (h m) h10 (by omega) h00 h01
  have Hfin : Hid (((f (m + 2) * 65536 + f (m + 1)) * 65536 + f m) / (h (m + 1) * 65536 + h m) = top3 f (m + 2) / top2 h (m + 2)) := rfl
  clear hs hs2 hf hh htop
  go_enter Try.func79, Try.ntmps79
  go_wp2
  go_quiet (fail)
  have e2 : (w.drewN nq).cell? ⟨b2, off2 + m, none⟩ = some (.int .i64 (h m)) := e0
  have e3 : (w.drewN nq).cell? ⟨b2, off2 + (m + 1), none⟩ = some (.int .i64 (h (m + 1))) := e1
  have hQ : ∃ q, w.drewN nq = w.drewN q := ⟨nq, rfl⟩
  have HQ : Hid (∃ q, w.drewN nq = w.drewN q) := hQ
  clear hQ c0 c1 c2 e0 e1 o1 o2
  have hnz : ((h (m + 1) * 65536 + h m) == 0) = false := by simp; omega
  have hdp : 0 < h (m + 1) * 65536 + h m := by omega
  have hnp : 0 ≤ (f (m + 2) * 65536 + f (m + 1)) * 65536 + f m := by omega
  have hnp2 : (f (m + 2) * 65536 + f (m + 1)) * 65536 + f m ≤ 281474976710655 := by omega
  generalize w.drewN nq = w1 at *
  go_wp2
  go_quiet (fail)
  go_wp2
  go_ret
  refine ⟨ret_int ?_, ?_⟩
  · exact Hfin.out
  · obtain ⟨q, hq⟩ := HQ.out
    exact ⟨q + nq, by rw [hq, World.drewN_drewN]⟩

end Go.Proofs.Ytmkmojcefgcmlaa
