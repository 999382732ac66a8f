/- Walks: comparing: cmp.Compare at int, the model's l1Compare and the program's compareDigits: which of two naturals is less. -/
import Derived.Test.YtmkmojcefgcmlaaDoorNatOk
import Derived.Test.YtmkmojcefgcmlaaDoorNum
import Derived.Deep.QuietTactic
import Derived.BigQuiet
namespace Go.Proofs.YtmkmojcefgcmlaaDoor
set_option linter.unusedVariables false
open Go.RowKit

/-- -1, 0 or 1. -/
def cmpV (a b : Int) : Int := if a < b then -1 else if b < a then 1 else 0

theorem cmpV_lt {a b : Int} (h : a < b) : cmpV a b = -1 := by simp [cmpV, h]
theorem cmpV_gt {a b : Int} (h : b < a) : cmpV a b = 1 := by simp [cmpV, h, show ¬ a < b by omega]
theorem cmpV_eq {a b : Int} (h : a = b) : cmpV a b = 0 := by simp [cmpV, h]

theorem isNaN_any (x : Int) (w : World) : Calls Tryd.prog 53 #[.int .i64 x] w fun e w' => e = .returned (.bool false) ∧ w' = w := by
  have h : (x != x) = false := by simp
  go_enter Tryd.func53, Tryd.ntmps53
  go_wp2
  go_ret
  exact ⟨rfl, rfl⟩

set_option maxHeartbeats 400000 in
theorem cmp_any (x y : Int) (w : World) : Calls Tryd.prog 51 #[.int .i64 x, .int .i64 y] w fun e w' => e = .returned (.int .i64 (cmpV x y)) ∧ w' = w := by
  by_cases h1 : x < y
  · go_enter Tryd.func51, Tryd.ntmps51
    go_wp2_with (go_at_call 53; refine (isNaN_any _ _).mono ?_; rintro e w' ⟨rfl, rfl⟩)
    go_ret
    exact ⟨ret_int (cmpV_lt h1).symm, rfl⟩
  · by_cases h2 : y < x
    · go_enter Tryd.func51, Tryd.ntmps51
      go_wp2_with (go_at_call 53; refine (isNaN_any _ _).mono ?_; rintro e w' ⟨rfl, rfl⟩)
      go_ret
      exact ⟨ret_int (cmpV_gt h2).symm, rfl⟩
    · go_enter Tryd.func51, Tryd.ntmps51
      go_wp2_with (go_at_call 53; refine (isNaN_any _ _).mono ?_; rintro e w' ⟨rfl, rfl⟩)
      go_ret
      exact ⟨ret_int (cmpV_eq (by omega)).symm, rfl⟩

/-- The highest place at which two lists of one length part decides. -/
theorem val_part {f g : Nat → Int} {n k : Nat} (hk : k < n) (hf : Digs f n) (hg : Digs g n) (h : ∀ j, k < j → j < n → f j = g j) (hlt : f k < g k) : val f n < val g n := by
  obtain ⟨r, rfl⟩ : ∃ r, n = (k + 1) + r := ⟨n - (k + 1), by omega⟩
  rw [val_split f (k + 1) r, val_split g (k + 1) r, val_congr (f := fun j => f (k + 1 + j)) (g := fun j => g (k + 1 + j)) (fun i hi => h _ (by omega) (by omega))]
  have b := (val_bd (hf.mono (show k ≤ k + 1 + r by omega))).2
  have c := (val_bd (hg.mono (show k ≤ k + 1 + r by omega))).1
  have p := Int.mul_le_mul_of_nonneg_right (show f k + 1 ≤ g k by omega) (Int.le_of_lt (pw_pos k))
  rw [Int.add_mul, Int.one_mul] at p
  simp only [val]
  omega

theorem cmp_len {f g : Nat → Int} {n m : Nat} (hf : Canon n f) (hg : Canon m g) (h : n ≠ m) : cmpV (val f n) (val g m) = cmpV n m := by
  by_cases hl : n < m
  · rw [cmpV_lt (canon_lt hf.digs hg hl), cmpV_lt (by omega)]
  · rw [cmpV_gt (canon_lt hg.digs hf (by omega)), cmpV_gt (by omega)]

set_option maxHeartbeats 800000 in
theorem compareDigits_any (a : Option Addr) (b off n cap : Nat) (f : Nat → Int) (a2 : Option Addr) (b2 off2 n2 cap2 : Nat) (g : Nat → Int) (w : World) (hs : Seg w a b off n f) (hs2 : Seg w a2 b2 off2 n2 g)
    (hn : n ≤ 1048576) (hn2 : n2 ≤ 1048576) (hf : Canon n f) (hg : Canon n2 g) :
    Calls Tryd.prog 45 #[.slice a n cap, .slice a2 n2 cap2] w fun e w' => e = .returned (.int .i64 (cmpV (val f n) (val g n2))) ∧ Drawn w w' := by
  by_cases hne : n = n2
  · subst hne
    go_enter Tryd.func45, Tryd.ntmps45
    go_wp2
    go_loopw [5] (fun i wr => ∃ k : Nat, k ≤ n ∧ i = .int .i64 ((k : Int) - 1) ∧ (∀ j, k ≤ j → j < n → f j = g j) ∧ Drawn w wr) (fun i _ => (intOf i + 1).toNat)
    case atStart => exact ⟨n, Nat.le_refl _, by go_num, fun j h1 h2 => by omega, Drawn.refl _⟩
    case round =>
      obtain ⟨k, hk, rfl, hd, hQ⟩ := hrel
      by_cases h0 : k = 0
      · subst h0
        have Hv : Hid (val f n = val g n) := val_congr (fun i hi => hd i (by omega) hi)
        clear hd
        go_wp2
        go_ret
        exact ⟨ret_int (cmpV_eq Hv.out).symm, hQ⟩
      · obtain ⟨m, rfl⟩ : ∃ m, k = m + 1 := ⟨k - 1, by omega⟩
        obtain rfl := hs.at' (by omega)
        obtain rfl := hs2.at' (by omega)
        have hc := (hs.of_all (hQ.below _)).cell m (by omega)
        have hc2 := (hs2.of_all (hQ.below _)).cell m (by omega)
        have hmn : (m : Int) < (n : Int) := by omega
        by_cases he : f m = g m
        · have hb : (f m != g m) = false := by simp [he]
          go_wp2
          go_quiet (fail)
          go_wp2
          go_roundw
          case rel => exact ⟨m, by omega, by go_num, fun j h1 h2 => by
                        by_cases e : j = m
                        · subst e; exact he
                        · exact hd j (by omega) h2, hQ.more _⟩
          case measure => simp [intOf]
        · have hb : (f m != g m) = true := by simp [he]
          have Hv : Hid (cmpV (val f n) (val g n) = cmpV (f m) (g m)) := by
            show _ = _
            by_cases hl : f m < g m
            · rw [cmpV_lt hl, cmpV_lt (val_part (by omega) hf.digs hg.digs (fun j h1 h2 => hd j (by omega) h2) hl)]
            · rw [cmpV_gt (show g m < f m by omega), cmpV_gt (val_part (show m < n by omega) hg.digs hf.digs (fun j h1 h2 => (hd j (by omega) h2).symm) (show g m < f m by omega))]
          clear hd he
          go_wp2
          go_quiet (fail)
          have hc3 : (wr.drewN nq).cell? ⟨b, off + m, none⟩ = some (.int .i64 (f m)) := hc
          have hc4 : (wr.drewN nq).cell? ⟨b2, off2 + m, none⟩ = some (.int .i64 (g m)) := hc2
          have hQ2 := hQ.more nq
          clear hc hc2 hQ
          generalize wr.drewN nq = w1 at *
          go_wp2
          go_quiet ((go_at_call 51; exact Calls.quiet_of_same (cmp_any _ _ _)))
          go_wp2
          go_ret
          exact ⟨ret_int Hv.out.symm, hQ2.more _⟩
  · have hb : ((n : Int) != (n2 : Int)) = true := by simp; omega
    have Hv : Hid (cmpV (val f n) (val g n2) = cmpV n n2) := cmp_len hf hg hne
    go_enter Tryd.func45, Tryd.ntmps45
    go_wp2_with fail
    refine (cmp_any _ _ _).mono ?_
    rintro e w' ⟨rfl, hw⟩
    subst hw
    go_wp2
    go_ret
    exact ⟨ret_int Hv.out.symm, Drawn.refl _⟩

end Go.Proofs.YtmkmojcefgcmlaaDoor
