/- Walks: ModMul, the model's and the program's. -/
import Derived.Test.YtmkmojcefgcmlaaModAns
namespace Go.Proofs.Ytmkmojcefgcmlaa
set_option linter.unusedVariables false
open Go.RowKit

/-- ModMul's answer. -/
def modMulQ (n : Nat) (f : Nat → Int) (n2 : Nat) (g : Nat → Int) (n3 : Nat) (h : Nat → Int) : Option Int := if threeB n f n2 g n3 h then some (val f n * val g n2 % val h n3) else none

set_option maxHeartbeats 800000 in
theorem implModMul_any (a : Option Addr) (b off n cap : Nat) (f : Nat → Int) (a2 : Option Addr) (b2 off2 n2 cap2 : Nat) (g : Nat → Int) (a3 : Option Addr) (b3 off3 n3 cap3 : Nat) (h : Nat → Int) (w : World)
    (hs : Seg w a b off n f) (hs2 : Seg w a2 b2 off2 n2 g) (hs3 : Seg w a3 b3 off3 n3 h) (hn : n ≤ 1048576) (hn2 : n2 ≤ 1048576) (hn3 : n3 ≤ 1048576) :
    Calls Try.prog 28 #[.slice a n cap, .slice a2 n2 cap2, .slice a3 n3 cap3] w fun e w' => GivesQ w (modMulQ n f n2 g n3 h) e w' := by
  have Hc : Hid (Calls Try.prog 53 #[.int .i64 0, .slice a n cap, .slice a2 n2 cap2, .slice a3 n3 cap3] w fun e w' => GivesQ w (modMulQ n f n2 g n3 h) e w') := by
    cases hb : threeB n f n2 g n3 h with
    | false =>
      rw [show modMulQ n f n2 g n3 h = none by simp [modMulQ, hb]]
      exact modAnswer_bad 0 a b off n cap f a2 b2 off2 n2 cap2 g a3 b3 off3 n3 cap3 h w hs hs2 hs3 hn hn2 hn3 hb
    | true =>
      rw [show modMulQ n f n2 g n3 h = some (val f n * val g n2 % val h n3) by simp [modMulQ, hb]]
      obtain ⟨c1, l1, c2, l2, c3, l3, h0, _, _, _⟩ := threeB_iff hb
      exact modAnswer_times a b off n cap f a2 b2 off2 n2 cap2 g a3 b3 off3 n3 cap3 h w hs hs2 hs3 hn hn2 hn3 hb _ (fun w' hB => times_any a3 b3 off3 n3 cap3 h a b off n cap f a2 b2 off2 n2 cap2 g w' (hs3.of_all hB) (hs.of_all hB) (hs2.of_all hB) (by omega) (by omega) (by omega) c1 c2 c3 h0)
  go_enter Try.func28, Try.ntmps28
  go_wp2_with fail
  refine Hc.out.mono ?_
  rintro e w2 ⟨a4, g4, cap4, n4, f4, ok4, rfl, k4, k5, k6, k7, k8⟩
  clear Hc
  go_wp2
  go_ret2
  exact ⟨a4, g4, cap4, n4, f4, ok4, rfl, k4, k5, k6, k7, k8⟩

end Go.Proofs.Ytmkmojcefgcmlaa
