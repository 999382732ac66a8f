/- Walks: three bytes read, by the model and by the program. -/
import Derived.Test.YtnhemiaklkkilaaDoorCurveR
import Derived.Test.YtnhemiaklkkilaaDoorSteps
import Derived.Test.YtnhemiaklkkilaaDoorBBase
import Derived.Test.YtnhemiaklkkilaaDoorBits
namespace Go.Proofs.YtnhemiaklkkilaaDoor
set_option linter.unusedVariables false
open Go.RowKit Go.Sort

theorem wrap_small {x : Int} (h0 : 0 ≤ x) (h1 : x ≤ 9223372036854775807) : IntKind.i64.wrap x = x := by
  rw [IntKind.wrap_i64]; omega

/-- 'a<<8 | b' with b a byte. -/
theorem or_byte (a b : Int) (ha : 0 ≤ a) (ha' : a ≤ 70368744177664) (hb : 0 ≤ b) (hb' : b ≤ 255) : bits .or .i64 (a * 256) b = a * 256 + b := by
  show IntKind.i64.wrap ((BitVec.ofInt 64 (a * 256) ||| BitVec.ofInt 64 b).toNat : Int) = _
  obtain ⟨A, rfl⟩ := Int.eq_ofNat_of_zero_le ha
  obtain ⟨B, rfl⟩ := Int.eq_ofNat_of_zero_le hb
  have e1 : ((A : Int) * 256 % 18446744073709551616).toNat = 2 ^ 8 * A := by omega
  have e2 : ((B : Int) % 18446744073709551616).toNat = B := by omega
  rw [BitVec.toNat_or, ofInt64, ofInt64, e1, e2, ← Nat.two_pow_add_eq_or_of_lt (by omega), IntKind.wrap_i64]
  omega

set_option maxHeartbeats 800000 in
theorem readHigh_any (b off cap : Nat) (f : Nat → Int) (w : World) (hs : BSeg w (some ⟨b, off, none⟩) b off 3 f) (hr : ∀ i, i < 3 → 0 ≤ f i ∧ f i ≤ 255) :
    Calls Tryd.prog 39 #[.slice (some ⟨b, off, none⟩) 3 cap] w fun r w' => r = .returned (.int .i64 (rd3 f 0)) ∧ Below w.heap.size w w' := by
  have e0 := cell_regrown (hs.cell 0 (by omega))
  have e1 := cell_regrown (hs.cell 1 (by omega))
  have e2 := cell_regrown (hs.cell 2 (by omega))
  rw [Nat.add_zero] at e0
  obtain ⟨r0, s0⟩ := hr 0 (by omega)
  obtain ⟨r1, s1⟩ := hr 1 (by omega)
  obtain ⟨r2, s2⟩ := hr 2 (by omega)
  have HV : Hid (f 0 * 65536 + f 1 * 256 + f 2 = rd3 f 0) := rfl
  generalize rd3 f 0 = V at *
  generalize f 0 = x at *
  generalize f 1 = y at *
  generalize f 2 = z at *
  clear hs hr
  have q0 : IntKind.i64.wrap x = x := wrap_small r0 (by omega)
  have q1 : IntKind.i64.wrap y = y := wrap_small r1 (by omega)
  have q2 : IntKind.i64.wrap z = z := wrap_small r2 (by omega)
  have q3 : IntKind.i64.wrap (x * 65536) = x * 65536 := wrap_small (by omega) (by omega)
  have q4 : IntKind.i64.wrap (y * 256) = y * 256 := wrap_small (by omega) (by omega)
  have q5 : bits .or .i64 (x * 65536) (y * 256) = x * 65536 + y * 256 := or_low _ _ r0 (by omega) (by omega) (by omega)
  have q6 : bits .or .i64 (x * 65536 + y * 256) z = x * 65536 + y * 256 + z := by
    have := or_byte (x * 256 + y) z (by omega) (by omega) r2 s2
    rw [show (x * 256 + y) * 256 = x * 65536 + y * 256 by omega] at this
    exact this
  go_enter Tryd.func39, Tryd.ntmps39
  go_wp2
  refine anyW_begin 17 rfl (by kernel_rfl) ?_
  refine anyW_take 0 17 0 rfl (by decide) (by kernel_rfl) (fun _ _ d _ _ h => by cases d <;> exact h) ?_
  repeat (refine headS_step (fun K hK => ?_); go_simp; first | (refine hK _ ?_; clear hK K) | (apply Exists.intro; refine ⟨fun _ => ?_, hK _ ?_⟩; (fail); clear hK K))
  refine headS_nil ?_
  refine anyW_done (by kernel_rfl) ?_ 0
  intro wq hwq
  go_wp2
  go_ret
  exact ⟨by rw [← HV.out]; rfl, hwq⟩

end Go.Proofs.YtnhemiaklkkilaaDoor
