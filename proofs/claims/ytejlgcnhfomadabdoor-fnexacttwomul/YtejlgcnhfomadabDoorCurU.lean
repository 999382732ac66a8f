/- What the program's functions over curves answer: CurveOk, PointOk, PointAdd, PointMul. -/
import Derived.Test.YtejlgcnhfomadabDoorOkPt
import Derived.Test.YtejlgcnhfomadabDoorExpPt
import Derived.Test.YtejlgcnhfomadabDoorCurveP
namespace Go.Proofs.YtejlgcnhfomadabDoor
set_option linter.unusedVariables false
open Go.RowKit

theorem exists_bool (Q : Prop) : ∃ ok : Bool, ok = true ↔ Q := by
  by_cases h : Q
  · exact ⟨true, ⟨fun _ => h, fun _ => rfl⟩⟩
  · exact ⟨false, ⟨fun k => by simp at k, fun k => absurd k h⟩⟩

theorem foldPt_at {P A B N : Int} (gx gy : Int) (h : CvNum P A B N) {a : Pt} (ha : On P.toNat A B a) {n : Int} (n0 : 0 ≤ n) (n1 : n ≤ 1099511627776) (w : World) : Calls Tryd.prog 36 #[.agg #[.int .i64 0, .int .i64 0, .bool true, .int .i64 gx, .int .i64 gy, .bool false, .func (.func 62) #[.agg #[.int .i64 P, .int .i64 A, .int .i64 B, .int .i64 N, .int .i64 gx, .int .i64 gy]] #[], .func (.func 63) #[.agg #[.int .i64 P, .int .i64 A, .int .i64 B, .int .i64 N, .int .i64 gx, .int .i64 gy]] #[], .func (.func 64) #[.agg #[.int .i64 P, .int .i64 A, .int .i64 B, .int .i64 N, .int .i64 gx, .int .i64 gy]] #[], .func (.func 65) #[.agg #[.int .i64 P, .int .i64 A, .int .i64 B, .int .i64 N, .int .i64 gx, .int .i64 gy]] #[], .func (.func 66) #[] #[]], .int .i64 n, .agg #[.int .i64 a.x, .int .i64 a.y, .bool a.far]] w fun e w' => e = .returned (.agg #[.int .i64 (mulF P.toNat A n.toNat a).x, .int .i64 (mulF P.toNat A n.toNat a).y, .bool (mulF P.toNat A n.toNat a).far]) ∧ Ext w w' := by
  have := foldPt_yes gx gy h ha n.toNat (by omega) rfl w
  rwa [show ((n.toNat : Nat) : Int) = n by omega] at this

theorem implPointMul_any (P A B N gx gy n : Int) (a : Pt) (w : World) (hP1 : P ≤ 9223372036854775807) (hN1 : N ≤ 9223372036854775807) :
    Calls Tryd.prog 12 #[.agg #[.int .i64 P, .int .i64 A, .int .i64 B, .int .i64 N, .int .i64 gx, .int .i64 gy], .int .i64 n, .agg #[.int .i64 a.x, .int .i64 a.y, .bool a.far]] w fun r w' => GivesPt (MulQ P A B N gx gy n a) (mulF P.toNat A n.toNat a) r ∧ Below w.heap.size w w' := by
  by_cases hk : CvOk P A B N gx gy
  · by_cases hab : 0 ≤ n ∧ n ≤ 1099511627776 ∧ On P.toNat A B a
    · exact (expPointMul_yes P A B N gx gy n a _ (fun C0 C1 C2 w B0 l0 B1 l1 B2 l2 => cloPointMul_yes P A B N gx gy n a _ C0 C1 C2 w B0 l0 B1 l1 B2 l2 (groupPt_yes P A B N gx gy hk) (foldPt_at gx gy hk.num hab.2.2 hab.1 hab.2.1)) w).mono fun r w' k => ⟨k.1 ▸ givesPt_yes ⟨hk, hab.2.2, hab.1, hab.2.1⟩, k.2⟩
    · exact (expPointMul_no P A B N gx gy n a (fun C0 C1 C2 w B0 l0 B1 l1 B2 l2 => cloPointMul_noF P A B N gx gy n a C0 C1 C2 w B0 l0 B1 l1 B2 l2 (groupPt_yes P A B N gx gy hk) (foldPt_no gx gy hk.num n hab)) w).mono fun r w' k => ⟨k.1 ▸ givesPt_no (fun k => hab ⟨k.2.2.1, k.2.2.2, k.2.1⟩), k.2⟩
  · exact (expPointMul_no P A B N gx gy n a (fun C0 C1 C2 w B0 l0 B1 l1 B2 l2 => cloPointMul_noG P A B N gx gy n a C0 C1 C2 w B0 l0 B1 l1 B2 l2 (groupPt_no P A B N gx gy hP1 hN1 hk)) w).mono fun r w' k => ⟨k.1 ▸ givesPt_no (fun k => hk k.1), k.2⟩

end Go.Proofs.YtejlgcnhfomadabDoor
