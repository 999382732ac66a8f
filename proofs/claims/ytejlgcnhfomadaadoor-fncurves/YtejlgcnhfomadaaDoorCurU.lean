/- What the program's functions over curves answer: CurveOk, PointOk, PointAdd, PointMul. -/
import Derived.Test.YtejlgcnhfomadaaDoorOkPt
import Derived.Test.YtejlgcnhfomadaaDoorExpPt
import Derived.Test.YtejlgcnhfomadaaDoorCurveP
namespace Go.Proofs.YtejlgcnhfomadaaDoor
set_option linter.unusedVariables false
open Go.RowKit

theorem exists_bool (Q : Prop) : ∃ ok : Bool, ok = true ↔ Q := by
  by_cases h : Q
  · exact ⟨true, ⟨fun _ => h, fun _ => rfl⟩⟩
  · exact ⟨false, ⟨fun k => by simp at k, fun k => absurd k h⟩⟩

theorem implCurveOk_any (P A B N gx gy : Int) (w : World) (hP1 : P ≤ 9223372036854775807) (hN1 : N ≤ 9223372036854775807) : Calls Tryd.prog 11 #[.agg #[.int .i64 P, .int .i64 A, .int .i64 B, .int .i64 N, .int .i64 gx, .int .i64 gy]] w fun r w' => GivesCv P A B N gx gy r ∧ Below w.heap.size w w' := by
  by_cases hk : CvOk P A B N gx gy
  · exact (expCurveOk_yes P A B N gx gy (groupPt_yes P A B N gx gy hk) w).mono fun r w' k => ⟨⟨true, k.1, ⟨fun _ => hk, fun _ => rfl⟩⟩, k.2⟩
  · exact (expCurveOk_no P A B N gx gy (groupPt_no P A B N gx gy hP1 hN1 hk) w).mono fun r w' k => ⟨k.1 ▸ givesCv_no hk, k.2⟩

theorem implCurveOk_at (P A B N gx gy : Int) (hP1 : P ≤ 9223372036854775807) (hN1 : N ≤ 9223372036854775807) (ok : Bool) (hk : ok = true ↔ CvOk P A B N gx gy) (w : World) : Calls Tryd.prog 11 #[.agg #[.int .i64 P, .int .i64 A, .int .i64 B, .int .i64 N, .int .i64 gx, .int .i64 gy]] w fun r w' => r = .returned (.bool ok) ∧ Below w.heap.size w w' := by
  refine (implCurveOk_any P A B N gx gy w hP1 hN1).mono ?_
  rintro r w' ⟨⟨k, rfl, hk'⟩, hw⟩
  refine ⟨?_, hw⟩
  have : k = ok := by rw [Bool.eq_iff_iff, hk', hk]
  rw [this]

theorem implPointOk_any (P A B N gx gy : Int) (a : Pt) (w : World) (hP1 : P ≤ 9223372036854775807) (hN1 : N ≤ 9223372036854775807) : Calls Tryd.prog 12 #[.agg #[.int .i64 P, .int .i64 A, .int .i64 B, .int .i64 N, .int .i64 gx, .int .i64 gy], .agg #[.int .i64 a.x, .int .i64 a.y, .bool a.far]] w fun r w' => GivesOk P A B N gx gy a r ∧ Below w.heap.size w w' := by
  by_cases hk : CvOk P A B N gx gy
  · by_cases ha : On P.toNat A B a
    · exact (expPointOk_yes P A B N gx gy a a (fun C0 C1 w B0 l0 B1 l1 => cloPointOk_yes P A B N gx gy a a C0 C1 w B0 l0 B1 l1 (groupPt_yes P A B N gx gy hk) (knownPt_yes gx gy hk.num ha)) w).mono fun r w' k => ⟨⟨true, k.1, ⟨fun _ => ⟨hk, ha⟩, fun _ => rfl⟩⟩, k.2⟩
    · exact (expPointOk_no P A B N gx gy a (fun C0 C1 w B0 l0 B1 l1 => cloPointOk_noF P A B N gx gy a C0 C1 w B0 l0 B1 l1 (groupPt_yes P A B N gx gy hk) (knownPt_no gx gy hk.num ha)) w).mono fun r w' k => ⟨⟨false, k.1, ⟨fun k => by simp at k, fun k => absurd k.2 ha⟩⟩, k.2⟩
  · exact (expPointOk_no P A B N gx gy a (fun C0 C1 w B0 l0 B1 l1 => cloPointOk_noG P A B N gx gy a C0 C1 w B0 l0 B1 l1 (groupPt_no P A B N gx gy hP1 hN1 hk)) w).mono fun r w' k => ⟨⟨false, k.1, ⟨fun k => by simp at k, fun k => absurd k.1 hk⟩⟩, k.2⟩

theorem implPointAdd_any (P A B N gx gy : Int) (a b : Pt) (w : World) (hP1 : P ≤ 9223372036854775807) (hN1 : N ≤ 9223372036854775807) :
    Calls Tryd.prog 13 #[.agg #[.int .i64 P, .int .i64 A, .int .i64 B, .int .i64 N, .int .i64 gx, .int .i64 gy], .agg #[.int .i64 a.x, .int .i64 a.y, .bool a.far], .agg #[.int .i64 b.x, .int .i64 b.y, .bool b.far]] w fun r w' => GivesPt (AddQ P A B N gx gy a b) (addF P.toNat A a b) r ∧ Below w.heap.size w w' := by
  by_cases hk : CvOk P A B N gx gy
  · by_cases hab : On P.toNat A B a ∧ On P.toNat A B b
    · exact (expPointAdd_yes P A B N gx gy a b _ (fun C0 C1 C2 w B0 l0 B1 l1 B2 l2 => cloPointAdd_yes P A B N gx gy a b _ C0 C1 C2 w B0 l0 B1 l1 B2 l2 (groupPt_yes P A B N gx gy hk) (sumPt_yes gx gy hk.num hab.1 hab.2 rfl)) w).mono fun r w' k => ⟨k.1 ▸ givesPt_yes ⟨hk, hab⟩, k.2⟩
    · exact (expPointAdd_no P A B N gx gy a b (fun C0 C1 C2 w B0 l0 B1 l1 B2 l2 => cloPointAdd_noF P A B N gx gy a b C0 C1 C2 w B0 l0 B1 l1 B2 l2 (groupPt_yes P A B N gx gy hk) (sumPt_no gx gy hk.num hab)) w).mono fun r w' k => ⟨k.1 ▸ givesPt_no (fun k => hab k.2), k.2⟩
  · exact (expPointAdd_no P A B N gx gy a b (fun C0 C1 C2 w B0 l0 B1 l1 B2 l2 => cloPointAdd_noG P A B N gx gy a b C0 C1 C2 w B0 l0 B1 l1 B2 l2 (groupPt_no P A B N gx gy hP1 hN1 hk)) w).mono fun r w' k => ⟨k.1 ▸ givesPt_no (fun k => hk k.1), k.2⟩

theorem foldPt_at {P A B N : Int} (gx gy : Int) (h : CvNum P A B N) {a : Pt} (ha : On P.toNat A B a) {n : Int} (n0 : 0 ≤ n) (n1 : n ≤ 1099511627776) (w : World) : Calls Tryd.prog 47 #[.agg #[.int .i64 0, .int .i64 0, .bool true, .int .i64 gx, .int .i64 gy, .bool false, .func (.func 87) #[.agg #[.int .i64 P, .int .i64 A, .int .i64 B, .int .i64 N, .int .i64 gx, .int .i64 gy]] #[], .func (.func 88) #[.agg #[.int .i64 P, .int .i64 A, .int .i64 B, .int .i64 N, .int .i64 gx, .int .i64 gy]] #[], .func (.func 89) #[.agg #[.int .i64 P, .int .i64 A, .int .i64 B, .int .i64 N, .int .i64 gx, .int .i64 gy]] #[], .func (.func 90) #[.agg #[.int .i64 P, .int .i64 A, .int .i64 B, .int .i64 N, .int .i64 gx, .int .i64 gy]] #[], .func (.func 91) #[] #[]], .int .i64 n, .agg #[.int .i64 a.x, .int .i64 a.y, .bool a.far]] w fun e w' => e = .returned (.agg #[.int .i64 (mulF P.toNat A n.toNat a).x, .int .i64 (mulF P.toNat A n.toNat a).y, .bool (mulF P.toNat A n.toNat a).far]) ∧ Ext w w' := by
  have := foldPt_yes gx gy h ha n.toNat (by omega) rfl w
  rwa [show ((n.toNat : Nat) : Int) = n by omega] at this

theorem implPointMul_any (P A B N gx gy n : Int) (a : Pt) (w : World) (hP1 : P ≤ 9223372036854775807) (hN1 : N ≤ 9223372036854775807) :
    Calls Tryd.prog 15 #[.agg #[.int .i64 P, .int .i64 A, .int .i64 B, .int .i64 N, .int .i64 gx, .int .i64 gy], .int .i64 n, .agg #[.int .i64 a.x, .int .i64 a.y, .bool a.far]] w fun r w' => GivesPt (MulQ P A B N gx gy n a) (mulF P.toNat A n.toNat a) r ∧ Below w.heap.size w w' := by
  by_cases hk : CvOk P A B N gx gy
  · by_cases hab : 0 ≤ n ∧ n ≤ 1099511627776 ∧ On P.toNat A B a
    · exact (expPointMul_yes P A B N gx gy n a _ (fun C0 C1 C2 w B0 l0 B1 l1 B2 l2 => cloPointMul_yes P A B N gx gy n a _ C0 C1 C2 w B0 l0 B1 l1 B2 l2 (groupPt_yes P A B N gx gy hk) (foldPt_at gx gy hk.num hab.2.2 hab.1 hab.2.1)) w).mono fun r w' k => ⟨k.1 ▸ givesPt_yes ⟨hk, hab.2.2, hab.1, hab.2.1⟩, k.2⟩
    · exact (expPointMul_no P A B N gx gy n a (fun C0 C1 C2 w B0 l0 B1 l1 B2 l2 => cloPointMul_noF P A B N gx gy n a C0 C1 C2 w B0 l0 B1 l1 B2 l2 (groupPt_yes P A B N gx gy hk) (foldPt_no gx gy hk.num n hab)) w).mono fun r w' k => ⟨k.1 ▸ givesPt_no (fun k => hab ⟨k.2.2.1, k.2.2.2, k.2.1⟩), k.2⟩
  · exact (expPointMul_no P A B N gx gy n a (fun C0 C1 C2 w B0 l0 B1 l1 B2 l2 => cloPointMul_noG P A B N gx gy n a C0 C1 C2 w B0 l0 B1 l1 B2 l2 (groupPt_no P A B N gx gy hP1 hN1 hk)) w).mono fun r w' k => ⟨k.1 ▸ givesPt_no (fun k => hk k.1), k.2⟩

end Go.Proofs.YtejlgcnhfomadaaDoor
