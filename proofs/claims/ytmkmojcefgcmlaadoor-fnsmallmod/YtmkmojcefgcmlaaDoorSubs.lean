/- Walks: differences: the model's l1Sub and the program's takeTimes. -/
import Derived.Test.YtmkmojcefgcmlaaDoorAdds2
import Derived.Test.YtmkmojcefgcmlaaDoorArith
import Derived.Deep.QuietTactic
import Derived.BigQuiet
namespace Go.Proofs.YtmkmojcefgcmlaaDoor
set_option linter.unusedVariables false
open Go.RowKit

/-- What l1Sub has done behind k rounds. -/
structure Subbing (A B : Nat → Int) (w wr : World) (v : Value) (k : Nat) : Prop where
  own : wr.ownsRow w.heap.size 3 1 v k (ints (subD A B 1) k)
  notnil : v ≠ .slice none 0 0
  below : Below w.heap.size w wr

theorem subbing_drew {A B : Nat → Int} {w wr : World} {v : Value} {k : Nat} (h : Subbing A B w wr v k) (q : Nat) : Subbing A B w (wr.drewN q) v k := ⟨h.own, h.notnil, below_drewN h.below q⟩

theorem subbing_step {A B : Nat → Int} {w wr w1 : World} {v v' : Value} {k : Nat} {o : Obj} (h : Subbing A B w wr v k)
    (hown : w1.ownsRow w.heap.size 3 1 v' (k + 1) (ints (subD A B 1) k ++ [.int .i64 (subD A B 1 k)])) (hg : (wr.alloc o).grownBy w1 v.ownBlock) (hv : v' ≠ .slice none 0 0) : Subbing A B w w1 v' (k + 1) :=
  ⟨by rw [ints_succ]; exact hown, hv, (h.below.alloc h.below.size _).grown hg (by have := h.below.size; simp; omega) (fun j hj => (h.own.lt j hj).1)⟩

set_option maxHeartbeats 1600000 in
theorem takeTimes_any (a : Option Addr) (g off n cap : Nat) (f : Nat → Int) (a2 : Option Addr) (b2 off2 n2 cap2 : Nat) (h : Nat → Int) (t : Int) (w : World) (hO : Own w a g off n f) (hs2 : Seg w a2 b2 off2 n2 h)
    (hn : n ≤ 1048576) (hn2 : n2 ≤ 1048576) (hf : Digs f n) (hh : Digs h n2) (hne : 0 < n2 → b2 ≠ g) (ht0 : 0 ≤ t) (ht1 : t ≤ 65536) :
    Calls Tryd.prog 50 #[.slice a n cap, .slice a2 n2 cap2, .int .i64 t] w fun e w' => e = .returned (.int .i64 (subL (ext n f) (ext n2 h) t n)) ∧ Own w' a g off n (subD (ext n f) (ext n2 h) t) ∧ Spot g off n w w' := by
  have hA := ext_bd hf
  have hB := ext_bd hh
  have hL := subL_bd ht0 hA hB
  go_enter Tryd.func50, Tryd.ntmps50
  go_wp2
  go_loopw [7, 12] (fun c i wr => ∃ k : Nat, k ≤ n ∧ i = .int .i64 k ∧ c = .int .i64 (subL (ext n f) (ext n2 h) t k) ∧ Own wr a g off n (fun j => if j < k then subD (ext n f) (ext n2 h) t j else f j) ∧ Spot g off n w wr) (fun _ i _ => n - (intOf i).toNat)
  case atStart => exact ⟨0, by omega, rfl, rfl, hO.congr (fun i _ => by simp), Spot.refl _ _ _ _⟩
  case round =>
    obtain ⟨k, hk, rfl, rfl, hOr, hT⟩ := hrel
    by_cases hlt : k < n
    · obtain rfl := hO.at' (by omega)
      have hc : wr.cell? ⟨g, off + k, none⟩ = some (.int .i64 (f k)) := by simpa using hOr.cell k hlt
      have hfz := hOr.free k hlt
      have hkn : (k : Int) < (n : Int) := by omega
      have hA1 := hA k
      have hL1 := hL k
      have hB1 := hB k
      have hL2 := hL (k + 1)
      have hs3 := hs2.touch hT.toTouch hne
      have Hx : Hid (ext n f k = f k) := ext_in hlt
      rw [Hx.out] at hA1
      clear hA hB hL
      by_cases h2 : k < n2
      · obtain rfl := hs2.at' (by omega)
        have hc2 := hs3.cell k h2
        have Hy : Hid (ext n2 h k = h k) := ext_in h2
        rw [Hy.out] at hB1
        have hm := mul_digit ht0 hB1.1 hB1.2
        have Hd : Hid (bits .and .i64 (f k - subL (ext n f) (ext n2 h) t k - t * h k) 65535 = subD (ext n f) (ext n2 h) t k) := by
          show _ = _
          rw [and_top, subD, Hx.out, Hy.out]
        have Hc : Hid (-((f k - subL (ext n f) (ext n2 h) t k - t * h k) / 65536) = subL (ext n f) (ext n2 h) t (k + 1)) := by
          show _ = _
          rw [subL, Hx.out, Hy.out]
        have hO' := (hOr.set hlt (bits .and .i64 (f k - subL (ext n f) (ext n2 h) t k - t * h k) 65535)).congr (f' := fun j => if j < k + 1 then subD (ext n f) (ext n2 h) t j else f j) (fun i _ => by
          by_cases e : i = k
          · subst e; simp [Hd.out]
          · by_cases hi : i < k
            · simp [e, hi, show i < k + 1 by omega]
            · simp [e, hi, show ¬ i < k + 1 by omega])
        have hT' := hT.set hlt (.int .i64 (bits .and .i64 (f k - subL (ext n f) (ext n2 h) t k - t * h k) 65535))
        rw [← Hc.out] at hL2
        clear hOr hT hs3 Hd
        generalize subL (ext n f) (ext n2 h) t k = c at *
        have hm1 : t * h k ≤ 4295032832 := by omega
        have hm0 := hm.1
        clear hm
        go_wp2
        go_roundw
        case rel => exact ⟨k + 1, by omega, by go_num, by rw [← Hc.out], hO', hT'⟩
        case measure => simp [intOf]; omega
      · have Hy : Hid (ext n2 h k = 0) := ext_out (by omega)
        have Hd : Hid (bits .and .i64 (f k - subL (ext n f) (ext n2 h) t k) 65535 = subD (ext n f) (ext n2 h) t k) := by
          show _ = _
          rw [and_top, subD, Hx.out, Hy.out, Int.mul_zero, Int.sub_zero]
        have Hc : Hid (-((f k - subL (ext n f) (ext n2 h) t k) / 65536) = subL (ext n f) (ext n2 h) t (k + 1)) := by
          show _ = _
          rw [subL, Hx.out, Hy.out, Int.mul_zero, Int.sub_zero]
        have hO' := (hOr.set hlt (bits .and .i64 (f k - subL (ext n f) (ext n2 h) t k) 65535)).congr (f' := fun j => if j < k + 1 then subD (ext n f) (ext n2 h) t j else f j) (fun i _ => by
          by_cases e : i = k
          · subst e; simp [Hd.out]
          · by_cases hi : i < k
            · simp [e, hi, show i < k + 1 by omega]
            · simp [e, hi, show ¬ i < k + 1 by omega])
        have hT' := hT.set hlt (.int .i64 (bits .and .i64 (f k - subL (ext n f) (ext n2 h) t k) 65535))
        rw [← Hc.out] at hL2
        clear hOr hT hs3 Hd
        generalize subL (ext n f) (ext n2 h) t k = c at *
        go_wp2
        go_roundw
        case rel => exact ⟨k + 1, by omega, by go_num, by rw [← Hc.out], hO', hT'⟩
        case measure => simp [intOf]; omega
    · obtain rfl : k = n := by omega
      go_wp2
      go_ret
      exact ⟨rfl, hOr.congr (fun i hi => by simp [hi]), hT⟩

end Go.Proofs.YtmkmojcefgcmlaaDoor
