/- Walks: sums: the model's l1Add and the program's addDigits; what fits. -/
import Derived.Test.YtmkmojcefgcmlaaCopies
import Derived.Test.YtmkmojcefgcmlaaAddM
import Derived.Test.YtmkmojcefgcmlaaBits
import Derived.Test.YtmkmojcefgcmlaaNatOk
namespace Go.Proofs.Ytmkmojcefgcmlaa
set_option linter.unusedVariables false
open Go.RowKit

/-- A new canonical list of that value. -/
def GivesVal (w : World) (x : Int) (e : Ending) (w' : World) : Prop :=
  ∃ g cap n f, e = .returned (.slice (some ⟨g, 0, none⟩) n cap) ∧ n ≤ 1048576 ∧ n ≤ cap ∧ Canon n f ∧ val f n = x ∧ w.heap.size ≤ g ∧ Own w' (some ⟨g, 0, none⟩) g 0 n f ∧ Below w.heap.size w w'

/-- What a list of digits comes to without its noughts. -/
theorem GivesNorm.val {w0 w w' : World} {n : Nat} {f : Nat → Int} {e : Ending} (h : GivesNorm w n f e w') (hb : Below w0.heap.size w0 w) (hd : Digs f n) (hn : n ≤ 1048576) : GivesVal w0 (val f n) e w' := by
  obtain ⟨g, cap, m, rfl, hm, hc, hz, hl, hg, hO, hB⟩ := h
  exact ⟨g, cap, m, f, rfl, by omega, hc, ⟨hd.mono hm, hl⟩, val_noughts hm hz, Nat.le_trans hb.size hg, hO, hb.trans (hB.mono hb.size)⟩

theorem one_cell (x : Int) : ∀ u ∈ [Value.int .i64 x], u.oneCell' = true := by
  intro u hu
  simp at hu
  subst hu
  rfl

/-- What l1Add has done behind k rounds. -/
structure Adding (A B : Nat → Int) (w wr : World) (v : Value) (n n2 k : Nat) : Prop where
  small : k ≤ max n n2 + 1
  last : k = max n n2 + 1 → addC A B k = 0
  own : wr.ownsRow w.heap.size 3 1 v k (ints (addD A B) k)
  notnil : v ≠ .slice none 0 0
  below : Below w.heap.size w wr

theorem adding_step {A B : Nat → Int} {w wr w1 : World} {v v' : Value} {n n2 k : Nat} {o : Obj} (h : Adding A B w wr v n n2 k) (hl : k + 1 = max n n2 + 1 → addC A B (k + 1) = 0) (hk : k + 1 ≤ max n n2 + 1)
    (hown : w1.ownsRow w.heap.size 3 1 v' (k + 1) (ints (addD A B) k ++ [.int .i64 (addD A B k)])) (hg : (wr.alloc o).grownBy w1 v.ownBlock) (hv : v' ≠ .slice none 0 0) : Adding A B w w1 v' n n2 (k + 1) :=
  ⟨hk, hl, by rw [ints_succ]; exact hown, hv, (h.below.alloc h.below.size _).grown hg (by have := h.below.size; simp; omega) (fun j hj => (h.own.lt j hj).1)⟩

set_option maxHeartbeats 1600000 in
theorem l1Add_any (a : Option Addr) (b off n cap : Nat) (f : Nat → Int) (a2 : Option Addr) (b2 off2 n2 cap2 : Nat) (g : Nat → Int) (w : World) (hs : Seg w a b off n f) (hs2 : Seg w a2 b2 off2 n2 g)
    (hn : n ≤ 4096) (hn2 : n2 ≤ 4096) (hf : Digs f n) (hg : Digs g n2) :
    Calls Try.prog 56 #[.slice a n cap, .slice a2 n2 cap2] w fun e w' => GivesVal w (val f n + val g n2) e w' := by
  obtain ⟨i0, hi, hz0, hz1, hz2⟩ := info_parts Try.info3
  have hA := ext_bd hf
  have hB := ext_bd hg
  have hC := addC_bd hA hB
  go_enter Try.func56, Try.ntmps56
  go_wp2
  go_loopw [5, 6, 7] (fun v c i wr => ∃ k : Nat, i = .int .i64 k ∧ c = .int .i64 (addC (ext n f) (ext n2 g) k) ∧ Adding (ext n f) (ext n2 g) w wr v n n2 k) (fun _ _ i _ => max n n2 + 1 - (intOf i).toNat)
  case atStart => exact ⟨0, rfl, rfl, by omega, fun h => rfl, World.ownsRow_made w #[] 0 (Nat.le_refl _) (by simp) rfl, by simp, (Below.refl _ _).alloc (Nat.le_refl _) _⟩
  case round =>
    obtain ⟨k, rfl, rfl, hO⟩ := hrel
    have hk := hO.small
    have hA1 := hA k
    have hB1 := hB k
    have hC1 := hC k
    by_cases hgo : k < n ∨ k < n2 ∨ 0 < addC (ext n f) (ext n2 g) k
    · have hkm : k < max n n2 + 1 := by
        by_cases e : k = max n n2 + 1
        · have := hO.last e
          omega
        · omega
      have Hd : Hid ((ext n f k + ext n2 g k + addC (ext n f) (ext n2 g) k) % 65536 = addD (ext n f) (ext n2 g) k) := rfl
      have Hc : Hid ((ext n f k + ext n2 g k + addC (ext n f) (ext n2 g) k) / 65536 = addC (ext n f) (ext n2 g) (k + 1)) := rfl
      have Hl : Hid (k + 1 = max n n2 + 1 → addC (ext n f) (ext n2 g) (k + 1) = 0) := fun e => by
        have e1 : ext n f k = 0 := ext_out (by omega)
        have e2 : ext n2 g k = 0 := ext_out (by omega)
        have := Hc.out
        omega
      have sA := hs.of_all hO.below
      have sB := hs2.of_all hO.below
      have hk4 : k ≤ 8192 := by omega
      clear hA hB hC
      have hw3 : (k < n) ∨ (¬ k < n ∧ k < n2) ∨ (¬ k < n ∧ ¬ k < n2 ∧ 0 < addC (ext n f) (ext n2 g) k) := by omega
      clear hgo
      rcases hw3 with h3 | ⟨h3, h4⟩ | ⟨h3, h4, h5⟩
      all_goals
        go_wp2_with fail
        refine (l1Digit_any a b off n cap f k _ sA (by omega) (by omega)).mono ?_
        rintro e w' ⟨rfl, hw⟩
        obtain rfl := hw.symm
        go_wp2_with fail
        refine (l1Digit_any a2 b2 off2 n2 cap2 g k _ sB (by omega) (by omega)).mono ?_
        rintro e w' ⟨rfl, hw⟩
        obtain rfl := hw.symm
        obtain ⟨x, hx⟩ : ∃ x, x = ext n f k := ⟨_, rfl⟩
        obtain ⟨y, hy⟩ : ∃ y, y = ext n2 g k := ⟨_, rfl⟩
        obtain ⟨c, hc⟩ : ∃ c, c = addC (ext n f) (ext n2 g) k := ⟨_, rfl⟩
        rw [← hx, ← hy, ← hc]
        rw [← hx] at hA1
        rw [← hy] at hB1
        rw [← hc] at hC1
        have HX : Hid ((x + y + c) % 65536 = addD (ext n f) (ext n2 g) k) := by rw [hx, hy, hc]; exact Hd.out
        have HY : Hid ((x + y + c) / 65536 = addC (ext n f) (ext n2 g) (k + 1)) := by rw [hx, hy, hc]; exact Hc.out
        clear hx hy hc Hd Hc
        go_wp2_with (at_builtin; refine wpList_append_own _ rfl _ _ 24 rfl w.heap.size 3 i0 (.int .i64 0) 1 8 Try.underlying24 hi hz0 hz1 hz2 rfl (by decide) _ _ _ rfl (hO.own.alloc _) ⟨wr.heap.size, 0, none⟩ 1 1 [.int .i64 ((x + y + c) % 65536)] rfl rfl (cell_one_new _ _ _) (one_cell _) (by unfold maxLen; omega) (by omega) (by have := hO.below.size; simp; omega) ?_; intro v' w1 hown' hgrow hnil)
        rw [HX.out] at hown'
        have hN := adding_step hO Hl.out (by omega) hown' hgrow (fun e => hO.notnil (hnil.1 e).1)
        clear hown' hgrow hnil hO
        go_wp2
        go_roundw
        case rel => exact ⟨k + 1, by go_num, by rw [← HY.out], hN⟩
        case measure => simp [intOf]; omega
    · have hz : addC (ext n f) (ext n2 g) k = 0 := by omega
      have h1 : ¬ k < n := by omega
      have h2 : ¬ k < n2 := by omega
      have hV : Hid (val (addD (ext n f) (ext n2 g)) k = val f n + val g n2) := by
        show _ = _
        have := add_inv (ext n f) (ext n2 g) k
        rw [hz, val_ext (by omega), val_ext (by omega)] at this
        omega
      obtain ⟨gg, cap', hv', hg', hc', hO2⟩ := own_some hO.own hO.notnil
      have hb := hO.below
      rw [hv', hz]
      clear hv' hO hz hgo hA hB hC hA1 hB1 hC1
      go_wp2_with fail
      refine (l1Norm_any gg 0 k cap' _ _ hO2.toSeg (by omega) hc').mono ?_
      rintro e w' hN
      have hG := hN.val hb (fun i _ => addD_bd _ _ i) (by omega)
      rw [hV.out] at hG
      obtain ⟨g3, cap3, m, f3, rfl, hG⟩ := hG
      clear hN
      go_wp2
      go_ret
      exact ⟨g3, cap3, m, f3, rfl, hG⟩

end Go.Proofs.Ytmkmojcefgcmlaa
