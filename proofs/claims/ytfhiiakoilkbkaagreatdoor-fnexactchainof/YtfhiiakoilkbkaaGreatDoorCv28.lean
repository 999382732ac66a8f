/- Walks: the model's NatCompare and NatBits, and the program's. -/
import Derived.Test.YtfhiiakoilkbkaaGreatDoorCv27
namespace Go.Proofs.YtfhiiakoilkbkaaGreatDoor
set_option linter.unusedVariables false
set_option linter.unusedSimpArgs false
open Go.RowKit
def bitsQ (n : Nat) (f : Nat → Int) : Int := if natOk n f then bitsOf n f else -1
set_option maxHeartbeats 400000 in
theorem implNatBits_any (a : Option Addr) (b off n cap : Nat) (f : Nat → Int) (w : World) (hs : Seg w a b off n f) (hn : n ≤ 1048576) :
  Calls Tryz.prog 134 #[.slice a n cap] w fun e w' => e = .returned (.int .i64 (bitsQ n f)) ∧ w' = w := by
 cases hok : natOk n f with
 | false =>
  have Hv : Hid (bitsQ n f = -1) := by show _ = _; simp [bitsQ, hok]
  go_enter Tryz.func134, Tryz.ntmps134
  go_wp2_with fail
  refine (implNatOk_any a b off n cap f _ hs hn).mono ?_
  rintro e w' ⟨rfl, hw⟩
  subst hw
  rw [hok]
  clear hok
  go_wp2
  go_ret
  exact ⟨ret_int Hv.out.symm, rfl⟩
 | true =>
  have Hv : Hid (bitsQ n f = bitsOf n f) := by show _ = _; simp [bitsQ, hok]
  have ht := ok_top hok
  go_enter Tryz.func134, Tryz.ntmps134
  go_wp2_with fail
  refine (implNatOk_any a b off n cap f _ hs hn).mono ?_
  rintro e w' ⟨rfl, hw⟩
  subst hw
  rw [hok]
  clear hok
  go_wp2_with fail
  refine (digitsBits_any a b off n cap f _ hs hn ht).mono ?_
  rintro e w' ⟨rfl, hw⟩
  subst hw
  go_wp2
  go_ret
  exact ⟨ret_int Hv.out.symm, rfl⟩
end Go.Proofs.YtfhiiakoilkbkaaGreatDoor
