/- Walks: TwoMul, of the model and of the program. -/
import Derived.Test.YtejlgcnhfomadabDoorCurU
import Derived.Test.YtejlgcnhfomadabDoorTwoPt
import Derived.Test.YtejlgcnhfomadabDoorHeads
namespace Go.Proofs.YtejlgcnhfomadabDoor
set_option linter.unusedVariables false
open Go.RowKit Go.Sort

/-- The condition of two multiples. -/
def TwoQ (P A B N gx gy u v : Int) (a : Pt) : Prop := CvOk P A B N gx gy ∧ On P.toNat A B a ∧ (0 ≤ u ∧ u ≤ 1099511627776) ∧ 0 ≤ v ∧ v ≤ 1099511627776

set_option maxHeartbeats 1600000 in
set_option maxRecDepth 100000 in
theorem specTwoMul_any (P A B N gx gy u v : Int) (a : Pt) (w : World) (hP1 : P ≤ 9223372036854775807) (hN1 : N ≤ 9223372036854775807) :
    Calls Tryd.prog 14 #[.agg #[.int .i64 P, .int .i64 A, .int .i64 B, .int .i64 N, .int .i64 gx, .int .i64 gy], .int .i64 u, .int .i64 v, .agg #[.int .i64 a.x, .int .i64 a.y, .bool a.far]] w fun r w' => GivesPt (TwoQ P A B N gx gy u v a) (addF P.toNat A (mulF P.toNat A u.toNat ⟨gx, gy, false⟩) (mulF P.toNat A v.toNat a)) r ∧ Below w.heap.size w w' := by
  go_enter Tryd.func14, Tryd.ntmps14
  go_wp2_with fail
  refine (specPointOk_any P A B N gx gy a _ hP1 hN1).mono ?_
  rintro r w1 ⟨⟨ok, rfl, h1⟩, hw1⟩
  have F1 := (Fr2.box w P A B N gx gy a zeroP 29 26 26).call hw1
  have HF1 := hide F1
  clear hw1
  obtain ⟨⟨k0, k1, k2, k3, k4, k5⟩, ⟨a0, a1, a2, -, -, -⟩, ⟨r0, r1, r2, q0, q1, q2⟩, -, -⟩ := F1
  cases ok
  · have Hn : Hid (¬ TwoQ P A B N gx gy u v a) := fun k => by simpa using h1.2 ⟨k.1, k.2.1⟩
    clear h1
    go_wp2
    refine bodyPost_ret (v := .tuple #[.agg #[.int .i64 0, .int .i64 0, .bool false], .bool false]) (by simp [results, Tryd.results14, go_sem, r0, r1, r2]) rfl ⟨givesPt_no Hn.out, ?_⟩
    first | exact below_put HF1.out.below (C := w.heap.size + 1 + 1) (by omega) zeroP | exact HF1.out.below
  have Hc := hide (h1.1 rfl)
  clear h1
  go_wp2_with fail
  refine (l1In_int _ _ _ _).mono ?_
  rintro r w' ⟨rfl, hw⟩
  subst hw
  by_cases cu : 0 ≤ u ∧ u ≤ 1099511627776
  rotate_left
  · have Hn : Hid (¬ TwoQ P A B N gx gy u v a) := fun k => cu k.2.2.1
    rw [show (decide (0 ≤ u) && decide (u ≤ 1099511627776)) = false by simp; omega]
    clear cu
    go_wp2
    refine bodyPost_ret (v := .tuple #[.agg #[.int .i64 0, .int .i64 0, .bool false], .bool false]) (by simp [results, Tryd.results14, go_sem, r0, r1, r2]) rfl ⟨givesPt_no Hn.out, ?_⟩
    first | exact below_put HF1.out.below (C := w.heap.size + 1 + 1) (by omega) zeroP | exact HF1.out.below
  rw [show (decide (0 ≤ u) && decide (u ≤ 1099511627776)) = true by simp; omega]
  obtain ⟨cu0, cu1⟩ := cu
  go_wp2_with fail
  refine (l1In_int _ _ _ _).mono ?_
  rintro r w' ⟨rfl, hw⟩
  subst hw
  by_cases cv : 0 ≤ v ∧ v ≤ 1099511627776
  rotate_left
  · have Hn : Hid (¬ TwoQ P A B N gx gy u v a) := fun k => cv k.2.2.2
    rw [show (decide (0 ≤ v) && decide (v ≤ 1099511627776)) = false by simp; omega]
    clear cv
    go_wp2
    refine bodyPost_ret (v := .tuple #[.agg #[.int .i64 0, .int .i64 0, .bool false], .bool false]) (by simp [results, Tryd.results14, go_sem, r0, r1, r2]) rfl ⟨givesPt_no Hn.out, ?_⟩
    first | exact below_put HF1.out.below (C := w.heap.size + 1 + 1) (by omega) zeroP | exact HF1.out.below
  rw [show (decide (0 ≤ v) && decide (v ≤ 1099511627776)) = true by simp; omega]
  obtain ⟨cv0, cv1⟩ := cv
  obtain ⟨X, hX⟩ : ∃ X, mulF P.toNat A u.toNat ⟨gx, gy, false⟩ = X := ⟨_, rfl⟩
  obtain ⟨Y, hY⟩ : ∃ Y, mulF P.toNat A v.toNat a = Y := ⟨_, rfl⟩
  obtain ⟨G, hG⟩ : ∃ G, addF P.toNat A X Y = G := ⟨_, rfl⟩
  have HG : Hid (GivesPt (TwoQ P A B N gx gy u v a) (addF P.toNat A (mulF P.toNat A u.toNat ⟨gx, gy, false⟩) (mulF P.toNat A v.toNat a)) (.returned (.tuple #[ptV G, .bool true]))) := by rw [hX, hY, hG, ← hG, ← hX, ← hY]; exact givesPt_yes ⟨Hc.out.1, Hc.out.2, ⟨cu0, cu1⟩, cv0, cv1⟩
  have oX : On P.toNat A B X := by rw [← hX]; exact mulF_ok Hc.out.1.num Hc.out.1.g cu0 (by omega)
  have oY : On P.toNat A B Y := by rw [← hY]; exact mulF_ok Hc.out.1.num Hc.out.2 cv0 (by omega)
  have HX : Hid (∀ W : World, Calls Tryd.prog 32 #[.agg #[.int .i64 P, .int .i64 A, .int .i64 B, .int .i64 N, .int .i64 gx, .int .i64 gy], .int .i64 u, .agg #[.int .i64 gx, .int .i64 gy, .bool false]] W fun r w' => r = .returned (.agg #[.int .i64 X.x, .int .i64 X.y, .bool X.far]) ∧ Below W.heap.size W w') := fun W => by
    have := (by have := l3Mul_ok Hc.out.1 Hc.out.1.g u cu0 (by omega) W; rw [hX] at this; exact this : Calls Tryd.prog 32 #[.agg #[.int .i64 P, .int .i64 A, .int .i64 B, .int .i64 N, .int .i64 gx, .int .i64 gy], .int .i64 u, .agg #[.int .i64 gx, .int .i64 gy, .bool false]] W fun r w' => r = .returned (ptV X) ∧ Below W.heap.size W w')
    exact this
  have HY : Hid (∀ W : World, Calls Tryd.prog 32 #[.agg #[.int .i64 P, .int .i64 A, .int .i64 B, .int .i64 N, .int .i64 gx, .int .i64 gy], .int .i64 v, .agg #[.int .i64 a.x, .int .i64 a.y, .bool a.far]] W fun r w' => r = .returned (.agg #[.int .i64 Y.x, .int .i64 Y.y, .bool Y.far]) ∧ Below W.heap.size W w') := fun W => by
    have := (by have := l3Mul_ok Hc.out.1 Hc.out.2 v cv0 (by omega) W; rw [hY] at this; exact this : Calls Tryd.prog 32 #[.agg #[.int .i64 P, .int .i64 A, .int .i64 B, .int .i64 N, .int .i64 gx, .int .i64 gy], .int .i64 v, .agg #[.int .i64 a.x, .int .i64 a.y, .bool a.far]] W fun r w' => r = .returned (ptV Y) ∧ Below W.heap.size W w')
    exact this
  have HA : Hid (∀ W : World, Calls Tryd.prog 37 #[.agg #[.int .i64 P, .int .i64 A, .int .i64 B, .int .i64 N, .int .i64 gx, .int .i64 gy], .agg #[.int .i64 X.x, .int .i64 X.y, .bool X.far], .agg #[.int .i64 Y.x, .int .i64 Y.y, .bool Y.far]] W fun r w' => r = .returned (.agg #[.int .i64 G.x, .int .i64 G.y, .bool G.far]) ∧ Below W.heap.size W w') := fun W => by
    have := (by have := l3Add_ok Hc.out.1 oX oY W; rw [hG] at this; exact this : Calls Tryd.prog 37 #[.agg #[.int .i64 P, .int .i64 A, .int .i64 B, .int .i64 N, .int .i64 gx, .int .i64 gy], .agg #[.int .i64 X.x, .int .i64 X.y, .bool X.far], .agg #[.int .i64 Y.x, .int .i64 Y.y, .bool Y.far]] W fun r w' => r = .returned (ptV G) ∧ Below W.heap.size W w')
    exact this
  clear hX hY hG oX oY
  have e0 := cell_regrown k0
  have e1 := cell_regrown k1
  have e2 := cell_regrown k2
  have e3 := cell_regrown k3
  have e4 := cell_regrown k4
  have e5 := cell_regrown k5
  have f0 := cell_regrown a0
  have f1 := cell_regrown a1
  have f2 := cell_regrown a2
  clear k0 k1 k2 k3 k4 k5 a0 a1 a2 r0 r1 r2 q0 q1 q2
  go_wp2
  refine region_heads_tail 14 (by kernel_rfl) (by kernel_rfl) (fun _ _ d _ _ h => by cases d <;> exact h) ?_
  repeat (refine headS_step (fun K hK => ?_); go_simp; first | (refine hK _ ?_; clear hK K) | (apply Exists.intro; refine ⟨fun _ => ?_, hK _ ?_⟩; (first | (go_at_call 37; exact calls_head (HA.out _)) | (go_at_call_of 32 (u); exact calls_head (HX.out _)) | (go_at_call_of 32 (v); exact calls_head (HY.out _))); clear hK K))
  refine headS_nil ?_
  intro w5 hw5
  simp only [List.drop_succ_cons, List.drop_zero]
  clear e0 e1 e2 e3 e4 e5 f0 f1 f2
  have F2 := HF1.out.call hw5
  have HF2 := hide F2
  obtain ⟨-, -, ⟨r0, r1, r2, q0, q1, q2⟩, -, -⟩ := F2
  go_wp2
  refine bodyPost_ret (v := .tuple #[.agg #[.int .i64 G.x, .int .i64 G.y, .bool G.far], .bool true]) (by simp [results, Tryd.results14, go_sem, r0, r1, r2]) rfl ⟨HG.out, ?_⟩
  exact below_put HF2.out.below (C := w.heap.size + 1 + 1) (by omega) G

theorem implTwoMul_any (P A B N gx gy u v : Int) (a : Pt) (w : World) (hP1 : P ≤ 9223372036854775807) (hN1 : N ≤ 9223372036854775807) :
    Calls Tryd.prog 15 #[.agg #[.int .i64 P, .int .i64 A, .int .i64 B, .int .i64 N, .int .i64 gx, .int .i64 gy], .int .i64 u, .int .i64 v, .agg #[.int .i64 a.x, .int .i64 a.y, .bool a.far]] w fun r w' => GivesPt (TwoQ P A B N gx gy u v a) (addF P.toNat A (mulF P.toNat A u.toNat ⟨gx, gy, false⟩) (mulF P.toNat A v.toNat a)) r ∧ Below w.heap.size w w' := by
  by_cases hk : CvOk P A B N gx gy
  · by_cases hu : 0 ≤ u ∧ u ≤ 1099511627776
    · by_cases hv : 0 ≤ v ∧ v ≤ 1099511627776 ∧ On P.toNat A B a
      · have hs := hk.num.mulPt_on hk.g (n := u.toNat) (by omega)
        have ht := hk.num.mulPt_on hv.2.2 (n := v.toNat) (by omega)
        exact (expTwoMul_yes P A B N gx gy u v a _ (fun C0 C1 C2 C3 w B0 l0 B1 l1 B2 l2 B3 l3 => cloTwoMul_yes P A B N gx gy u v a _ _ _ C0 C1 C2 C3 w B0 l0 B1 l1 B2 l2 B3 l3 (groupPt_yes P A B N gx gy hk) (foldPt_at gx gy hk.num (a := ⟨gx, gy, false⟩) hk.g hu.1 hu.2) (foldPt_at gx gy hk.num hv.2.2 hv.1 hv.2.1) (addPt_at gx gy hk.num hs ht)) w).mono fun r w' k => ⟨k.1 ▸ givesPt_yes ⟨hk, hv.2.2, hu, hv.1, hv.2.1⟩, k.2⟩
      · exact (expTwoMul_no P A B N gx gy u v a (fun C0 C1 C2 C3 w B0 l0 B1 l1 B2 l2 B3 l3 => cloTwoMul_noV P A B N gx gy u v a _ C0 C1 C2 C3 w B0 l0 B1 l1 B2 l2 B3 l3 (groupPt_yes P A B N gx gy hk) (foldPt_at gx gy hk.num (a := ⟨gx, gy, false⟩) hk.g hu.1 hu.2) (foldPt_no gx gy hk.num v hv)) w).mono fun r w' k => ⟨k.1 ▸ givesPt_no (fun k => hv ⟨k.2.2.2.1, k.2.2.2.2, k.2.1⟩), k.2⟩
    · exact (expTwoMul_no P A B N gx gy u v a (fun C0 C1 C2 C3 w B0 l0 B1 l1 B2 l2 B3 l3 => cloTwoMul_noU P A B N gx gy u v a C0 C1 C2 C3 w B0 l0 B1 l1 B2 l2 B3 l3 (groupPt_yes P A B N gx gy hk) (foldPt_no gx gy hk.num (a := ⟨gx, gy, false⟩) u (fun k => hu ⟨k.1, k.2.1⟩))) w).mono fun r w' k => ⟨k.1 ▸ givesPt_no (fun k => hu k.2.2.1), k.2⟩
  · exact (expTwoMul_no P A B N gx gy u v a (fun C0 C1 C2 C3 w B0 l0 B1 l1 B2 l2 B3 l3 => cloTwoMul_noG P A B N gx gy u v a C0 C1 C2 C3 w B0 l0 B1 l1 B2 l2 B3 l3 (groupPt_no P A B N gx gy hP1 hN1 hk)) w).mono fun r w' k => ⟨k.1 ▸ givesPt_no (fun k => hk k.1), k.2⟩

end Go.Proofs.YtejlgcnhfomadabDoor
