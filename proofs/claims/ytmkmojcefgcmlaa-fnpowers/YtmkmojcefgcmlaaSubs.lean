/- Walks: differences: the model's l1Sub and the program's takeTimes. -/
import Derived.Test.YtmkmojcefgcmlaaAdds2
import Derived.Test.YtmkmojcefgcmlaaSubM
import Derived.Deep.QuietTactic
import Derived.BigQuiet
namespace Go.Proofs.Ytmkmojcefgcmlaa
set_option linter.unusedVariables false
open Go.RowKit

/-- What l1Sub has done behind k rounds. -/
structure Subbing (A B : Nat → Int) (w wr : World) (v : Value) (k : Nat) : Prop where
  own : wr.ownsRow w.heap.size 3 1 v k (ints (subD A B 1) k)
  notnil : v ≠ .slice none 0 0
  below : Below w.heap.size w wr

theorem subbing_drew {A B : Nat → Int} {w wr : World} {v : Value} {k : Nat} (h : Subbing A B w wr v k) (q : Nat) : Subbing A B w (wr.drewN q) v k := ⟨h.own, h.notnil, below_drewN h.below q⟩

theorem subbing_step {A B : Nat → Int} {w wr w1 : World} {v v' : Value} {k : Nat} {o : Obj} (h : Subbing A B w wr v k)
    (hown : w1.ownsRow w.heap.size 3 1 v' (k + 1) (ints (subD A B 1) k ++ [.int .i64 (subD A B 1 k)])) (hg : (wr.alloc o).grownBy w1 v.ownBlock) (hv : v' ≠ .slice none 0 0) : Subbing A B w w1 v' (k + 1) :=
  ⟨by rw [ints_succ]; exact hown, hv, (h.below.alloc h.below.size _).grown hg (by have := h.below.size; simp; omega) (fun j hj => (h.own.lt j hj).1)⟩

set_option maxHeartbeats 1600000 in
theorem l1Sub_any (a : Option Addr) (b off n cap : Nat) (f : Nat → Int) (a2 : Option Addr) (b2 off2 n2 cap2 : Nat) (g : Nat → Int) (w : World) (hs : Seg w a b off n f) (hs2 : Seg w a2 b2 off2 n2 g)
    (hn : n ≤ 4096) (hn2 : n2 ≤ n) (hf : Digs f n) (hg : Digs g n2) (hle : val g n2 ≤ val f n) :
    Calls Try.prog 58 #[.slice a n cap, .slice a2 n2 cap2] w fun e w' => GivesVal w (val f n - val g n2) e w' := by
  obtain ⟨i0, hi, hz0, hz1, hz2⟩ := info_parts Try.info3
  have hA := ext_bd hf
  have hB := ext_bd hg
  have hL := subL_bd (t := 1) (by omega) hA hB
  have HV : Hid (val (subD (ext n f) (ext n2 g) 1) n = val f n - val g n2) := by
    show _ = _
    have := (sub_done (t := 1) (n := n) (by omega) hA hB (by rw [val_ext hn2, val_ext (Nat.le_refl n)]; omega)).2
    rw [val_ext hn2, val_ext (Nat.le_refl n)] at this
    omega
  go_enter Try.func58, Try.ntmps58
  go_wp2
  go_loopw [5, 6, 7] (fun v c i wr => ∃ k : Nat, k ≤ n ∧ i = .int .i64 k ∧ c = .int .i64 (subL (ext n f) (ext n2 g) 1 k) ∧ Subbing (ext n f) (ext n2 g) w wr v k) (fun _ _ i _ => n - (intOf i).toNat)
  case atStart => exact ⟨0, by omega, rfl, rfl, World.ownsRow_made w #[] 0 (Nat.le_refl _) (by simp) rfl, by simp, (Below.refl _ _).alloc (Nat.le_refl _) _⟩
  case round =>
    obtain ⟨k, hk, rfl, rfl, hO⟩ := hrel
    by_cases hlt : k < n
    · obtain rfl := hs.at' (by omega)
      have hA1 := hA k
      have hB1 := hB k
      have hL1 := hL k
      have Hx : Hid (ext n f k = f k) := ext_in hlt
      rw [Hx.out] at hA1
      have hc := (hs.of_all hO.below).cell k hlt
      have sB := hs2.of_all hO.below
      have hkn : (k : Int) < (n : Int) := by omega
      have Hd : Hid ((f k - ext n2 g k - subL (ext n f) (ext n2 g) 1 k) % 65536 = subD (ext n f) (ext n2 g) 1 k) := by
        show _ = _
        rw [subD, Hx.out]; congr 1; omega
      have Hc : Hid (-((f k - ext n2 g k - subL (ext n f) (ext n2 g) 1 k) / 65536) = subL (ext n f) (ext n2 g) 1 (k + 1)) := by
        show _ = _
        rw [subL, Hx.out]; congr 2; omega
      clear hA hB hL Hx
      obtain ⟨y, hy⟩ : ∃ y, y = ext n2 g k := ⟨_, rfl⟩
      obtain ⟨c, hcc⟩ : ∃ c, c = subL (ext n f) (ext n2 g) 1 k := ⟨_, rfl⟩
      rw [← hy, ← hcc] at Hd Hc
      rw [← hy] at hB1
      rw [← hcc] at hL1
      rw [← hcc]
      have Hdig : Hid (∀ q, Calls Try.prog 71 #[.slice a2 n2 cap2, .int .i64 k] (wr.drewN q) fun e w' => e = .returned (.int .i64 y) ∧ w' = wr.drewN q) := fun q => by
        rw [hy]; exact l1Digit_any a2 b2 off2 n2 cap2 g k _ (sB.of_all (below_drewN (Below.refl _ _) q)) (by omega) (by omega)
      clear hy hcc sB
      by_cases hx : f k - y - c < 0
      · go_wp2
        go_quiet ((go_at_call 71; exact Calls.quiet_of_same (Hdig.out _)))
        have hO2 := subbing_drew hO nq
        clear hO hc Hdig
        generalize wr.drewN nq = w1 at *
        go_wp2_with (at_builtin; refine wpList_append_own _ rfl _ _ 24 rfl w.heap.size 3 i0 (.int .i64 0) 1 8 Try.underlying24 hi hz0 hz1 hz2 rfl (by decide) _ _ _ rfl (hO2.own.alloc _) ⟨w1.heap.size, 0, none⟩ 1 1 [.int .i64 (f k - y - c + 65536)] rfl rfl (cell_one_new _ _ _) (one_cell _) (by unfold maxLen; omega) (by omega) (by have := hO2.below.size; simp; omega) ?_; intro v' w2 hown' hgrow hnil)
        rw [show f k - y - c + 65536 = subD (ext n f) (ext n2 g) 1 k by have := Hd.out; omega] at hown'
        have hN := subbing_step hO2 hown' hgrow (fun e => hO2.notnil (hnil.1 e).1)
        have H1 : Hid (1 = subL (ext n f) (ext n2 g) 1 (k + 1)) := by show _ = _; have := Hc.out; omega
        clear hown' hgrow hnil hO2
        go_wp2
        go_roundw
        case rel => exact ⟨k + 1, by omega, by go_num, by rw [← H1.out], hN⟩
        case measure => simp [intOf]; omega
      · go_wp2
        go_quiet ((go_at_call 71; exact Calls.quiet_of_same (Hdig.out _)))
        have hO2 := subbing_drew hO nq
        clear hO hc Hdig
        generalize wr.drewN nq = w1 at *
        go_wp2_with (at_builtin; refine wpList_append_own _ rfl _ _ 24 rfl w.heap.size 3 i0 (.int .i64 0) 1 8 Try.underlying24 hi hz0 hz1 hz2 rfl (by decide) _ _ _ rfl (hO2.own.alloc _) ⟨w1.heap.size, 0, none⟩ 1 1 [.int .i64 (f k - y - c)] rfl rfl (cell_one_new _ _ _) (one_cell _) (by unfold maxLen; omega) (by omega) (by have := hO2.below.size; simp; omega) ?_; intro v' w2 hown' hgrow hnil)
        rw [show f k - y - c = subD (ext n f) (ext n2 g) 1 k by have := Hd.out; omega] at hown'
        have hN := subbing_step hO2 hown' hgrow (fun e => hO2.notnil (hnil.1 e).1)
        have H1 : Hid (0 = subL (ext n f) (ext n2 g) 1 (k + 1)) := by show _ = _; have := Hc.out; omega
        clear hown' hgrow hnil hO2
        go_wp2
        go_roundw
        case rel => exact ⟨k + 1, by omega, by go_num, by rw [← H1.out], hN⟩
        case measure => simp [intOf]; omega
    · obtain rfl : k = n := by omega
      obtain ⟨gg, cap', hv', hg', hc', hO2⟩ := own_some hO.own hO.notnil
      have hb := hO.below
      rw [hv']
      clear hv' hO hA hB hL
      go_wp2_with fail
      refine (l1Norm_any gg 0 k cap' _ _ hO2.toSeg (by omega) hc').mono ?_
      rintro e w' hN
      have hG := hN.val hb (fun i _ => subD_bd _ _ _ i) (by omega)
      rw [HV.out] at hG
      obtain ⟨g3, cap3, m, f3, rfl, hG⟩ := hG
      clear hN
      go_wp2
      go_ret
      exact ⟨g3, cap3, m, f3, rfl, hG⟩

set_option maxHeartbeats 1600000 in
theorem takeTimes_any (a : Option Addr) (g off n cap : Nat) (f : Nat → Int) (a2 : Option Addr) (b2 off2 n2 cap2 : Nat) (h : Nat → Int) (t : Int) (w : World) (hO : Own w a g off n f) (hs2 : Seg w a2 b2 off2 n2 h)
    (hn : n ≤ 1048576) (hn2 : n2 ≤ 1048576) (hf : Digs f n) (hh : Digs h n2) (hne : 0 < n2 → b2 ≠ g) (ht0 : 0 ≤ t) (ht1 : t ≤ 65536) :
    Calls Try.prog 63 #[.slice a n cap, .slice a2 n2 cap2, .int .i64 t] w fun e w' => e = .returned (.int .i64 (subL (ext n f) (ext n2 h) t n)) ∧ Own w' a g off n (subD (ext n f) (ext n2 h) t) ∧ Spot g off n w w' := by
  have hA := ext_bd hf
  have hB := ext_bd hh
  have hL := subL_bd ht0 hA hB
  go_enter Try.func63, Try.ntmps63
  go_wp2
  go_loopw [7, 12] (fun c i wr => ∃ k : Nat, k ≤ n ∧ i = .int .i64 k ∧ c = .int .i64 (subL (ext n f) (ext n2 h) t k) ∧ Own wr a g off n (fun j => if j < k then subD (ext n f) (ext n2 h) t j else f j) ∧ Spot g off n w wr) (fun _ i _ => n - (intOf i).toNat)
  case atStart => exact ⟨0, by omega, rfl, rfl, hO.congr (fun i _ => by simp), Spot.refl _ _ _ _⟩
  case round =>
    obtain ⟨k, hk, rfl, rfl, hOr, hT⟩ := hrel
    by_cases hlt : k < n
    · obtain rfl := hO.at' (by omega)
      have hc : wr.cell? ⟨g, off + k, none⟩ = some (.int .i64 (f k)) := by simpa using hOr.cell k hlt
      have hfz := hOr.free k hlt
      have hkn : (k : Int) < (n : Int) := by omega
      have hA1 := hA k
      have hL1 := hL k
      have hB1 := hB k
      have hL2 := hL (k + 1)
      have hs3 := hs2.touch hT.toTouch hne
      have Hx : Hid (ext n f k = f k) := ext_in hlt
      rw [Hx.out] at hA1
      clear hA hB hL
      by_cases h2 : k < n2
      · obtain rfl := hs2.at' (by omega)
        have hc2 := hs3.cell k h2
        have Hy : Hid (ext n2 h k = h k) := ext_in h2
        rw [Hy.out] at hB1
        have hm := mul_digit ht0 hB1.1 hB1.2
        have Hd : Hid (bits .and .i64 (f k - subL (ext n f) (ext n2 h) t k - t * h k) 65535 = subD (ext n f) (ext n2 h) t k) := by
          show _ = _
          rw [and_top, subD, Hx.out, Hy.out]
        have Hc : Hid (-((f k - subL (ext n f) (ext n2 h) t k - t * h k) / 65536) = subL (ext n f) (ext n2 h) t (k + 1)) := by
          show _ = _
          rw [subL, Hx.out, Hy.out]
        have hO' := (hOr.set hlt (bits .and .i64 (f k - subL (ext n f) (ext n2 h) t k - t * h k) 65535)).congr (f' := fun j => if j < k + 1 then subD (ext n f) (ext n2 h) t j else f j) (fun i _ => by
          by_cases e : i = k
          · subst e; simp [Hd.out]
          · by_cases hi : i < k
            · simp [e, hi, show i < k + 1 by omega]
            · simp [e, hi, show ¬ i < k + 1 by omega])
        have hT' := hT.set hlt (.int .i64 (bits .and .i64 (f k - subL (ext n f) (ext n2 h) t k - t * h k) 65535))
        rw [← Hc.out] at hL2
        clear hOr hT hs3 Hd
        generalize subL (ext n f) (ext n2 h) t k = c at *
        have hm1 : t * h k ≤ 4295032832 := by omega
        have hm0 := hm.1
        clear hm
        go_wp2
        go_roundw
        case rel => exact ⟨k + 1, by omega, by go_num, by rw [← Hc.out], hO', hT'⟩
        case measure => simp [intOf]; omega
      · have Hy : Hid (ext n2 h k = 0) := ext_out (by omega)
        have Hd : Hid (bits .and .i64 (f k - subL (ext n f) (ext n2 h) t k) 65535 = subD (ext n f) (ext n2 h) t k) := by
          show _ = _
          rw [and_top, subD, Hx.out, Hy.out, Int.mul_zero, Int.sub_zero]
        have Hc : Hid (-((f k - subL (ext n f) (ext n2 h) t k) / 65536) = subL (ext n f) (ext n2 h) t (k + 1)) := by
          show _ = _
          rw [subL, Hx.out, Hy.out, Int.mul_zero, Int.sub_zero]
        have hO' := (hOr.set hlt (bits .and .i64 (f k - subL (ext n f) (ext n2 h) t k) 65535)).congr (f' := fun j => if j < k + 1 then subD (ext n f) (ext n2 h) t j else f j) (fun i _ => by
          by_cases e : i = k
          · subst e; simp [Hd.out]
          · by_cases hi : i < k
            · simp [e, hi, show i < k + 1 by omega]
            · simp [e, hi, show ¬ i < k + 1 by omega])
        have hT' := hT.set hlt (.int .i64 (bits .and .i64 (f k - subL (ext n f) (ext n2 h) t k) 65535))
        rw [← Hc.out] at hL2
        clear hOr hT hs3 Hd
        generalize subL (ext n f) (ext n2 h) t k = c at *
        go_wp2
        go_roundw
        case rel => exact ⟨k + 1, by omega, by go_num, by rw [← Hc.out], hO', hT'⟩
        case measure => simp [intOf]; omega
    · obtain rfl : k = n := by omega
      go_wp2
      go_ret
      exact ⟨rfl, hOr.congr (fun i hi => by simp [hi]), hT⟩

end Go.Proofs.Ytmkmojcefgcmlaa
