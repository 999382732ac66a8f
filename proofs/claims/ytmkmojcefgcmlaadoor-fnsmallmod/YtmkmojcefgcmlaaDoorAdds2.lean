/- Walks: the program's addDigits, in place; what fits into 64 digits; NatAdd, the model's and the program's. -/
import Derived.Test.YtmkmojcefgcmlaaDoorAdds
namespace Go.Proofs.YtmkmojcefgcmlaaDoor
set_option linter.unusedVariables false
open Go.RowKit

set_option maxHeartbeats 800000 in
theorem addDigits_any (a : Option Addr) (g off n cap : Nat) (f : Nat → Int) (a2 : Option Addr) (b2 off2 n2 cap2 : Nat) (h : Nat → Int) (w : World) (hO : Own w a g off n f) (hs2 : Seg w a2 b2 off2 n2 h)
    (hn : n ≤ 1048576) (hn2 : n2 ≤ 1048576) (hf : Digs f n) (hh : Digs h n2) (hne : 0 < n2 → b2 ≠ g) :
    Calls Tryd.prog 49 #[.slice a n cap, .slice a2 n2 cap2] w fun e w' => e = .returned (.tuple #[]) ∧ Own w' a g off n (addD (ext n f) (ext n2 h)) ∧ Spot g off n w w' := by
  have hA := ext_bd hf
  have hB := ext_bd hh
  have hC := addC_bd hA hB
  go_enter Tryd.func49, Tryd.ntmps49
  go_wp2
  go_loopw [4, 9] (fun c i wr => ∃ k : Nat, k ≤ n ∧ i = .int .i64 k ∧ c = .int .i64 (addC (ext n f) (ext n2 h) k) ∧ Own wr a g off n (fun j => if j < k then addD (ext n f) (ext n2 h) j else f j) ∧ Spot g off n w wr) (fun _ i _ => n - (intOf i).toNat)
  case atStart => exact ⟨0, by omega, rfl, rfl, hO.congr (fun i _ => by simp), Spot.refl _ _ _ _⟩
  case round =>
    obtain ⟨k, hk, rfl, rfl, hOr, hT⟩ := hrel
    by_cases hlt : k < n
    · obtain rfl := hO.at' (by omega)
      have hc : wr.cell? ⟨g, off + k, none⟩ = some (.int .i64 (f k)) := by simpa using hOr.cell k hlt
      have hfz := hOr.free k hlt
      have hkn : (k : Int) < (n : Int) := by omega
      have hA1 := hA k
      have hC1 := hC k
      have hB1 := hB k
      have hs3 := hs2.touch hT.toTouch hne
      have Hx : Hid (ext n f k = f k) := ext_in hlt
      rw [Hx.out] at hA1
      clear hA hB hC
      by_cases h2 : k < n2
      · obtain rfl := hs2.at' (by omega)
        have hc2 := hs3.cell k h2
        have Hy : Hid (ext n2 h k = h k) := ext_in h2
        rw [Hy.out] at hB1
        have Hd : Hid (bits .and .i64 (addC (ext n f) (ext n2 h) k + f k + h k) 65535 = addD (ext n f) (ext n2 h) k) := by
          show _ = _
          rw [and_top, addD, Hx.out, Hy.out]; congr 1; omega
        have Hc : Hid ((addC (ext n f) (ext n2 h) k + f k + h k) / 65536 = addC (ext n f) (ext n2 h) (k + 1)) := by
          show _ = _
          rw [addC, Hx.out, Hy.out]; congr 1; omega
        have hO' := (hOr.set hlt (bits .and .i64 (addC (ext n f) (ext n2 h) k + f k + h k) 65535)).congr (f' := fun j => if j < k + 1 then addD (ext n f) (ext n2 h) j else f j) (fun i _ => by
          by_cases e : i = k
          · subst e; simp [Hd.out]
          · by_cases hi : i < k
            · simp [e, hi, show i < k + 1 by omega]
            · simp [e, hi, show ¬ i < k + 1 by omega])
        have hT' := hT.set hlt (.int .i64 (bits .and .i64 (addC (ext n f) (ext n2 h) k + f k + h k) 65535))
        clear hOr hT hs3 Hd
        generalize addC (ext n f) (ext n2 h) k = c at *
        go_wp2
        go_roundw
        case rel => exact ⟨k + 1, by omega, by go_num, by rw [← Hc.out], hO', hT'⟩
        case measure => simp [intOf]; omega
      · have Hy : Hid (ext n2 h k = 0) := ext_out (by omega)
        have Hd : Hid (bits .and .i64 (addC (ext n f) (ext n2 h) k + f k) 65535 = addD (ext n f) (ext n2 h) k) := by
          show _ = _
          rw [and_top, addD, Hx.out, Hy.out]; congr 1; omega
        have Hc : Hid ((addC (ext n f) (ext n2 h) k + f k) / 65536 = addC (ext n f) (ext n2 h) (k + 1)) := by
          show _ = _
          rw [addC, Hx.out, Hy.out]; congr 1; omega
        have hO' := (hOr.set hlt (bits .and .i64 (addC (ext n f) (ext n2 h) k + f k) 65535)).congr (f' := fun j => if j < k + 1 then addD (ext n f) (ext n2 h) j else f j) (fun i _ => by
          by_cases e : i = k
          · subst e; simp [Hd.out]
          · by_cases hi : i < k
            · simp [e, hi, show i < k + 1 by omega]
            · simp [e, hi, show ¬ i < k + 1 by omega])
        have hT' := hT.set hlt (.int .i64 (bits .and .i64 (addC (ext n f) (ext n2 h) k + f k) 65535))
        clear hOr hT hs3 Hd
        generalize addC (ext n f) (ext n2 h) k = c at *
        go_wp2
        go_roundw
        case rel => exact ⟨k + 1, by omega, by go_num, by rw [← Hc.out], hO', hT'⟩
        case measure => simp [intOf]; omega
    · obtain rfl : k = n := by omega
      go_wp2
      go_end0
      exact ⟨rfl, hOr.congr (fun i hi => by simp [hi]), hT⟩

/-- The sum's value. -/
theorem add_val {n n2 : Nat} {f h : Nat → Int} (N : Nat) (hn : n ≤ N) (hn2 : n2 ≤ N) : val (addD (ext n f) (ext n2 h)) N + addC (ext n f) (ext n2 h) N * pw N = val f n + val h n2 := by
  rw [add_inv, val_ext hn, val_ext hn2]

/-- What fits into 64 digits. -/
def fitQ (x : Int) : Option Int := if x < pw 64 then some x else none

end Go.Proofs.YtmkmojcefgcmlaaDoor
