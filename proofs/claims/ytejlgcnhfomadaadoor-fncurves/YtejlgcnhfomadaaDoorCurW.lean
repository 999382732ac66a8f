/- Walks: TwoMul, of the model and of the program. -/
import Derived.Test.YtejlgcnhfomadaaDoorCurU
import Derived.Test.YtejlgcnhfomadaaDoorTwoPt
import Derived.Test.YtejlgcnhfomadaaDoorHeads
namespace Go.Proofs.YtejlgcnhfomadaaDoor
set_option linter.unusedVariables false
open Go.RowKit Go.Sort

/-- The condition of two multiples. -/
def TwoQ (P A B N gx gy u v : Int) (a : Pt) : Prop := CvOk P A B N gx gy ∧ On P.toNat A B a ∧ (0 ≤ u ∧ u ≤ 1099511627776) ∧ 0 ≤ v ∧ v ≤ 1099511627776

theorem implTwoMul_any (P A B N gx gy u v : Int) (a : Pt) (w : World) (hP1 : P ≤ 9223372036854775807) (hN1 : N ≤ 9223372036854775807) :
    Calls Tryd.prog 16 #[.agg #[.int .i64 P, .int .i64 A, .int .i64 B, .int .i64 N, .int .i64 gx, .int .i64 gy], .int .i64 u, .int .i64 v, .agg #[.int .i64 a.x, .int .i64 a.y, .bool a.far]] w fun r w' => GivesPt (TwoQ P A B N gx gy u v a) (addF P.toNat A (mulF P.toNat A u.toNat ⟨gx, gy, false⟩) (mulF P.toNat A v.toNat a)) r ∧ Below w.heap.size w w' := by
  by_cases hk : CvOk P A B N gx gy
  · by_cases hu : 0 ≤ u ∧ u ≤ 1099511627776
    · by_cases hv : 0 ≤ v ∧ v ≤ 1099511627776 ∧ On P.toNat A B a
      · have hs := hk.num.mulPt_on hk.g (n := u.toNat) (by omega)
        have ht := hk.num.mulPt_on hv.2.2 (n := v.toNat) (by omega)
        exact (expTwoMul_yes P A B N gx gy u v a _ (fun C0 C1 C2 C3 w B0 l0 B1 l1 B2 l2 B3 l3 => cloTwoMul_yes P A B N gx gy u v a _ _ _ C0 C1 C2 C3 w B0 l0 B1 l1 B2 l2 B3 l3 (groupPt_yes P A B N gx gy hk) (foldPt_at gx gy hk.num (a := ⟨gx, gy, false⟩) hk.g hu.1 hu.2) (foldPt_at gx gy hk.num hv.2.2 hv.1 hv.2.1) (addPt_at gx gy hk.num hs ht)) w).mono fun r w' k => ⟨k.1 ▸ givesPt_yes ⟨hk, hv.2.2, hu, hv.1, hv.2.1⟩, k.2⟩
      · exact (expTwoMul_no P A B N gx gy u v a (fun C0 C1 C2 C3 w B0 l0 B1 l1 B2 l2 B3 l3 => cloTwoMul_noV P A B N gx gy u v a _ C0 C1 C2 C3 w B0 l0 B1 l1 B2 l2 B3 l3 (groupPt_yes P A B N gx gy hk) (foldPt_at gx gy hk.num (a := ⟨gx, gy, false⟩) hk.g hu.1 hu.2) (foldPt_no gx gy hk.num v hv)) w).mono fun r w' k => ⟨k.1 ▸ givesPt_no (fun k => hv ⟨k.2.2.2.1, k.2.2.2.2, k.2.1⟩), k.2⟩
    · exact (expTwoMul_no P A B N gx gy u v a (fun C0 C1 C2 C3 w B0 l0 B1 l1 B2 l2 B3 l3 => cloTwoMul_noU P A B N gx gy u v a C0 C1 C2 C3 w B0 l0 B1 l1 B2 l2 B3 l3 (groupPt_yes P A B N gx gy hk) (foldPt_no gx gy hk.num (a := ⟨gx, gy, false⟩) u (fun k => hu ⟨k.1, k.2.1⟩))) w).mono fun r w' k => ⟨k.1 ▸ givesPt_no (fun k => hu k.2.2.1), k.2⟩
  · exact (expTwoMul_no P A B N gx gy u v a (fun C0 C1 C2 C3 w B0 l0 B1 l1 B2 l2 B3 l3 => cloTwoMul_noG P A B N gx gy u v a C0 C1 C2 C3 w B0 l0 B1 l1 B2 l2 B3 l3 (groupPt_no P A B N gx gy hP1 hN1 hk)) w).mono fun r w' k => ⟨k.1 ▸ givesPt_no (fun k => hk k.1), k.2⟩

end Go.Proofs.YtejlgcnhfomadaaDoor
