/- What the program answers over twisted curves: EdAdd, EdMul, EdCofactor, PairOk, EdOk. -/
import Derived.Test.YtejlgcnhfomadacDoorOkPr
import Derived.Test.YtejlgcnhfomadacDoorExpPr
namespace Go.Proofs.YtejlgcnhfomadacDoor
set_option linter.unusedVariables false
open Go.RowKit

theorem foldPr_at {P D L : Int} (bx cy : Int) (h : EvNum P D L) {a : Pr} (ha : OnE P.toNat D a) {n : Int} (n0 : 0 ≤ n) (n1 : n ≤ 1099511627776) (w : World) : Calls Tryd.prog 35 #[.agg #[.int .i64 0, .int .i64 1, .int .i64 bx, .int .i64 cy, .func (.func 50) #[.agg #[.int .i64 P, .int .i64 D, .int .i64 L, .int .i64 bx, .int .i64 cy]] #[], .func (.func 51) #[.agg #[.int .i64 P, .int .i64 D, .int .i64 L, .int .i64 bx, .int .i64 cy]] #[], .func (.func 52) #[.agg #[.int .i64 P, .int .i64 D, .int .i64 L, .int .i64 bx, .int .i64 cy]] #[], .func (.func 53) #[.agg #[.int .i64 P, .int .i64 D, .int .i64 L, .int .i64 bx, .int .i64 cy]] #[], .func (.func 54) #[] #[]], .int .i64 n, .agg #[.int .i64 a.x, .int .i64 a.y]] w fun e w' => e = .returned (.agg #[.int .i64 (mulE P.toNat D n.toNat a).x, .int .i64 (mulE P.toNat D n.toNat a).y]) ∧ Ext w w' := by
  have := foldPr_yes bx cy h ha n.toNat (by omega) rfl w
  rwa [show ((n.toNat : Nat) : Int) = n by omega] at this

theorem implEdAdd_yes {P D L bx cy : Int} {a b : Pr} (h : EvOk P D L bx cy) (ha : OnE P.toNat D a) (hb : OnE P.toNat D b) (w : World) : Calls Tryd.prog 11 #[.agg #[.int .i64 P, .int .i64 D, .int .i64 L, .int .i64 bx, .int .i64 cy], .agg #[.int .i64 a.x, .int .i64 a.y], .agg #[.int .i64 b.x, .int .i64 b.y]] w fun r w' => r = .returned (.tuple #[.agg #[.int .i64 (addE P.toNat D a b).x, .int .i64 (addE P.toNat D a b).y], .bool true]) ∧ Ext w w' :=
  expEdAdd_yes P D L bx cy a b _ (fun C0 C1 C2 w B0 l0 B1 l1 B2 l2 => cloEdAdd_yes P D L bx cy a b _ C0 C1 C2 w B0 l0 B1 l1 B2 l2 (groupPr_yes P D L bx cy h) (sumPr_yes bx cy h.num ha hb rfl)) w

theorem implEdAdd_no (P D L bx cy : Int) (a b : Pr) (hP1 : P ≤ 9223372036854775807) (hL1 : L ≤ 9223372036854775807) (h : ¬ (EvOk P D L bx cy ∧ OnE P.toNat D a ∧ OnE P.toNat D b)) (w : World) : Calls Tryd.prog 11 #[.agg #[.int .i64 P, .int .i64 D, .int .i64 L, .int .i64 bx, .int .i64 cy], .agg #[.int .i64 a.x, .int .i64 a.y], .agg #[.int .i64 b.x, .int .i64 b.y]] w fun r w' => r = .returned (.tuple #[.agg #[.int .i64 0, .int .i64 0], .bool false]) ∧ Ext w w' := by
  by_cases hk : EvOk P D L bx cy
  · exact expEdAdd_no P D L bx cy a b (fun C0 C1 C2 w B0 l0 B1 l1 B2 l2 => cloEdAdd_noF P D L bx cy a b C0 C1 C2 w B0 l0 B1 l1 B2 l2 (groupPr_yes P D L bx cy hk) (sumPr_no bx cy hk.num (fun k => h ⟨hk, k⟩))) w
  · exact expEdAdd_no P D L bx cy a b (fun C0 C1 C2 w B0 l0 B1 l1 B2 l2 => cloEdAdd_noG P D L bx cy a b C0 C1 C2 w B0 l0 B1 l1 B2 l2 (groupPr_no P D L bx cy hP1 hL1 hk)) w

theorem implEdMul_yes {P D L bx cy n : Int} {a : Pr} (h : EvOk P D L bx cy) (ha : OnE P.toNat D a) (n0 : 0 ≤ n) (n1 : n ≤ 1099511627776) (w : World) : Calls Tryd.prog 14 #[.agg #[.int .i64 P, .int .i64 D, .int .i64 L, .int .i64 bx, .int .i64 cy], .int .i64 n, .agg #[.int .i64 a.x, .int .i64 a.y]] w fun r w' => r = .returned (.tuple #[.agg #[.int .i64 (mulE P.toNat D n.toNat a).x, .int .i64 (mulE P.toNat D n.toNat a).y], .bool true]) ∧ Ext w w' :=
  expEdMul_yes P D L bx cy n a _ (fun C0 C1 C2 w B0 l0 B1 l1 B2 l2 => cloEdMul_yes P D L bx cy n a _ C0 C1 C2 w B0 l0 B1 l1 B2 l2 (groupPr_yes P D L bx cy h) (foldPr_at bx cy h.num ha n0 n1)) w

theorem implEdMul_no (P D L bx cy n : Int) (a : Pr) (hP1 : P ≤ 9223372036854775807) (hL1 : L ≤ 9223372036854775807) (h : ¬ ((EvOk P D L bx cy ∧ OnE P.toNat D a) ∧ 0 ≤ n ∧ n ≤ 1099511627776)) (w : World) : Calls Tryd.prog 14 #[.agg #[.int .i64 P, .int .i64 D, .int .i64 L, .int .i64 bx, .int .i64 cy], .int .i64 n, .agg #[.int .i64 a.x, .int .i64 a.y]] w fun r w' => r = .returned (.tuple #[.agg #[.int .i64 0, .int .i64 0], .bool false]) ∧ Ext w w' := by
  by_cases hk : EvOk P D L bx cy
  · exact expEdMul_no P D L bx cy n a (fun C0 C1 C2 w B0 l0 B1 l1 B2 l2 => cloEdMul_noF P D L bx cy n a C0 C1 C2 w B0 l0 B1 l1 B2 l2 (groupPr_yes P D L bx cy hk) (foldPr_no bx cy hk.num n (fun k => h ⟨⟨hk, k.2.2⟩, k.1, k.2.1⟩))) w
  · exact expEdMul_no P D L bx cy n a (fun C0 C1 C2 w B0 l0 B1 l1 B2 l2 => cloEdMul_noG P D L bx cy n a C0 C1 C2 w B0 l0 B1 l1 B2 l2 (groupPr_no P D L bx cy hP1 hL1 hk)) w

theorem implEdCof_yes {P D L bx cy : Int} {a : Pr} (h : EvOk P D L bx cy) (ha : OnE P.toNat D a) (w : World) : Calls Tryd.prog 24 #[.agg #[.int .i64 P, .int .i64 D, .int .i64 L, .int .i64 bx, .int .i64 cy], .agg #[.int .i64 a.x, .int .i64 a.y]] w fun r w' => r = .returned (.tuple #[.agg #[.int .i64 (mulE P.toNat D 8 a).x, .int .i64 (mulE P.toNat D 8 a).y], .bool true]) ∧ Ext w w' :=
  expEdCofactor_yes P D L bx cy a _ (fun C0 C1 w B0 l0 B1 l1 => cloEdCofactor_yes P D L bx cy a _ C0 C1 w B0 l0 B1 l1 (groupPr_yes P D L bx cy h) (foldPr_at bx cy h.num ha (n := 8) (by omega) (by omega))) w

theorem implEdCof_no (P D L bx cy : Int) (a : Pr) (hP1 : P ≤ 9223372036854775807) (hL1 : L ≤ 9223372036854775807) (h : ¬ (EvOk P D L bx cy ∧ OnE P.toNat D a)) (w : World) : Calls Tryd.prog 24 #[.agg #[.int .i64 P, .int .i64 D, .int .i64 L, .int .i64 bx, .int .i64 cy], .agg #[.int .i64 a.x, .int .i64 a.y]] w fun r w' => r = .returned (.tuple #[.agg #[.int .i64 0, .int .i64 0], .bool false]) ∧ Ext w w' := by
  by_cases hk : EvOk P D L bx cy
  · exact expEdCofactor_no P D L bx cy a (fun C0 C1 w B0 l0 B1 l1 => cloEdCofactor_noF P D L bx cy a C0 C1 w B0 l0 B1 l1 (groupPr_yes P D L bx cy hk) (foldPr_no bx cy hk.num 8 (fun k => h ⟨hk, k.2.2⟩))) w
  · exact expEdCofactor_no P D L bx cy a (fun C0 C1 w B0 l0 B1 l1 => cloEdCofactor_noG P D L bx cy a C0 C1 w B0 l0 B1 l1 (groupPr_no P D L bx cy hP1 hL1 hk)) w

end Go.Proofs.YtejlgcnhfomadacDoor
