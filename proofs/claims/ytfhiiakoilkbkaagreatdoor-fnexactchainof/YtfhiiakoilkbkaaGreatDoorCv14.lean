/- Walks: the group of a curve of the program (impl.Point): fold that panics, generated. -/
import Derived.Test.YtfhiiakoilkbkaaGreatDoorCv13
namespace Go.Proofs.YtfhiiakoilkbkaaGreatDoor
set_option linter.unusedVariables false
set_option linter.unusedSimpArgs false
open Go.RowKit
theorem run_nePt (x1 y1 x2 y2 : Int) (f1 f2 : Bool) (w : World) : (binOp .neq 47 (.agg #[.int .i64 x1, .int .i64 y1, .bool f1]) (.agg #[.int .i64 x2, .int .i64 y2, .bool f2])).run Tryz.prog w = .ok (.bool (!(x1 == x2 && (y1 == y2 && f1 == f2)))) w := by
 have u2 := ptHeld
 cases hx : (x1 == x2)
 ·simp [go_sem, u2, hx]
 ·cases hy : (y1 == y2)
  ·simp [go_sem, u2, hx, hy]
  ·cases hf : (f1 == f2)
   ·simp [go_sem, u2, hx, hy, hf]
   ·simp [go_sem, u2, hx, hy, hf]
theorem sepPt (gx gy : Int) (w : World) : (binOp .neq 47 (.agg #[.int .i64 gx, .int .i64 gy, .bool false]) (.agg #[.int .i64 0, .int .i64 0, .bool true])).run Tryz.prog w = .ok (.bool true) w := by
 rw [run_nePt]; simp
theorem sameUnitPt (w : World) : (binOp .eql 47 (.agg #[.int .i64 0, .int .i64 0, .bool true]) (.agg #[.int .i64 0, .int .i64 0, .bool true])).run Tryz.prog w = .ok (.bool true) w := by
 rw [run_eqPt]; simp
theorem otherUnitPt {R : Pt} (h : R ≠ farP) (w : World) : (binOp .eql 47 (.agg #[.int .i64 R.x, .int .i64 R.y, .bool R.far]) (.agg #[.int .i64 0, .int .i64 0, .bool true])).run Tryz.prog w = .ok (.bool false) w := by
 rw [run_eqPt]
 obtain ⟨x, y, f⟩ := R
 congr 2
 by_cases hx : x = 0
 ·by_cases hy : y = 0
  ·cases f
   ·simp
   ·exact absurd (by rw [hx, hy]; rfl) h
  ·simp [hy]
 ·simp [hx]
theorem CvNum.mulPt_on {P A B N : Int} (h : CvNum P A B N) {a : Pt} (ha : On P.toNat A B a) {n : Nat} (hn : n ≤ 1099511627776) : On P.toNat A B (mulF P.toNat A n a) := mulF_on h.cv (by omega) ha
theorem CvOk.parts {P A B N gx gy : Int} (h : CvOk P A B N gx gy) : On P.toNat A B ⟨gx, gy, false⟩ ∧ mulF P.toNat A N.toNat ⟨gx, gy, false⟩ = farP := by
 refine ⟨h.g, ?_⟩
 have k := h.num.mulPt_on h.g (n := N.toNat) (by have := h.nM; omega)
 have f := h.far
 generalize mulF P.toNat A N.toNat ⟨gx, gy, false⟩ = R at *
 rcases k with k | k
 ·obtain ⟨x, y, fr⟩ := R
  obtain ⟨k1, k2, k3⟩ := k
  simp only at k1 k2 k3
  subst k1 k2 k3
  rfl
 ·rw [k.1] at f; simp at f
theorem CvOk.of_parts {P A B N gx gy : Int} (h : CvNum P A B N) (k : On P.toNat A B ⟨gx, gy, false⟩ ∧ mulF P.toNat A N.toNat ⟨gx, gy, false⟩ = farP) : CvOk P A B N gx gy :=
 ⟨h.p5, h.pM, h.p4, h.pp, h.a0, h.a1, h.b0, h.b1, h.n5, h.nM, h.np, h.disc, k.1, by rw [k.2]; rfl⟩
set_option maxHeartbeats 1600000 in
set_option maxRecDepth 100000 in
theorem foldPt_no {P A B N : Int} (gx gy : Int) (h : CvNum P A B N) {a : Pt} (n : Int) (hn : ¬ (0 ≤ n ∧ n ≤ 1099511627776 ∧ On P.toNat A B a)) (w : World) :
  Calls Tryz.prog 162 #[.agg #[.int .i64 0, .int .i64 0, .bool true, .int .i64 gx, .int .i64 gy, .bool false, .func (.func 179) #[.agg #[.int .i64 P, .int .i64 A, .int .i64 B, .int .i64 N, .int .i64 gx, .int .i64 gy]] #[], .func (.func 180) #[.agg #[.int .i64 P, .int .i64 A, .int .i64 B, .int .i64 N, .int .i64 gx, .int .i64 gy]] #[], .func (.func 181) #[.agg #[.int .i64 P, .int .i64 A, .int .i64 B, .int .i64 N, .int .i64 gx, .int .i64 gy]] #[], .func (.func 182) #[.agg #[.int .i64 P, .int .i64 A, .int .i64 B, .int .i64 N, .int .i64 gx, .int .i64 gy]] #[], .func (.func 183) #[] #[]], .int .i64 n, .agg #[.int .i64 a.x, .int .i64 a.y, .bool a.far]] w fun e w' => e = .panicked [nrE] ∧ Ext w w' := by
 by_cases c1 : n < 0
 ·clear hn h
  go_enter Tryz.func162, Tryz.ntmps162
  go_wp2_with fail
  refine (want_no _).mono ?_
  rintro r w' ⟨rfl, rfl⟩
  exact ⟨rfl, rfl, (box3 w [.int .i64 0, .int .i64 0, .bool true, .int .i64 gx, .int .i64 gy, .bool false, .func (.func 179) #[.agg #[.int .i64 P, .int .i64 A, .int .i64 B, .int .i64 N, .int .i64 gx, .int .i64 gy]] #[], .func (.func 180) #[.agg #[.int .i64 P, .int .i64 A, .int .i64 B, .int .i64 N, .int .i64 gx, .int .i64 gy]] #[], .func (.func 181) #[.agg #[.int .i64 P, .int .i64 A, .int .i64 B, .int .i64 N, .int .i64 gx, .int .i64 gy]] #[], .func (.func 182) #[.agg #[.int .i64 P, .int .i64 A, .int .i64 B, .int .i64 N, .int .i64 gx, .int .i64 gy]] #[], .func (.func 183) #[] #[]] [.int .i64 a.x, .int .i64 a.y, .bool a.far] [.int .i64 0, .int .i64 0, .bool false] 176 47 47 (Ext.refl _)).2.2.2.1⟩
 by_cases c2 : 1099511627776 < n
 ·clear hn h
  have c3 : decide (n ≤ 1099511627776) = false := by simp; omega
  go_enter Tryz.func162, Tryz.ntmps162
  go_wp2_with fail
  refine (want_no _).mono ?_
  rintro r w' ⟨rfl, rfl⟩
  exact ⟨rfl, rfl, (box3 w [.int .i64 0, .int .i64 0, .bool true, .int .i64 gx, .int .i64 gy, .bool false, .func (.func 179) #[.agg #[.int .i64 P, .int .i64 A, .int .i64 B, .int .i64 N, .int .i64 gx, .int .i64 gy]] #[], .func (.func 180) #[.agg #[.int .i64 P, .int .i64 A, .int .i64 B, .int .i64 N, .int .i64 gx, .int .i64 gy]] #[], .func (.func 181) #[.agg #[.int .i64 P, .int .i64 A, .int .i64 B, .int .i64 N, .int .i64 gx, .int .i64 gy]] #[], .func (.func 182) #[.agg #[.int .i64 P, .int .i64 A, .int .i64 B, .int .i64 N, .int .i64 gx, .int .i64 gy]] #[], .func (.func 183) #[] #[]] [.int .i64 a.x, .int .i64 a.y, .bool a.far] [.int .i64 0, .int .i64 0, .bool false] 176 47 47 (Ext.refl _)).2.2.2.1⟩
 have HK := hide (knownPt_no gx gy h (fun k => hn ⟨by omega, by omega, k⟩))
 have n0 : 0 ≤ n := by omega
 have n2 : n ≤ 1099511627776 := by omega
 clear h hn c1 c2
 go_enter Tryz.func162, Tryz.ntmps162
 go_wp2_with fail
 refine (want_yes _).mono ?_
 rintro r w' ⟨rfl, rfl⟩
 obtain ⟨V, hV⟩ : ∃ V, ((w.alloc (.cells #[.int .i64 0, .int .i64 0, .bool true, .int .i64 gx, .int .i64 gy, .bool false, .func (.func 179) #[.agg #[.int .i64 P, .int .i64 A, .int .i64 B, .int .i64 N, .int .i64 gx, .int .i64 gy]] #[], .func (.func 180) #[.agg #[.int .i64 P, .int .i64 A, .int .i64 B, .int .i64 N, .int .i64 gx, .int .i64 gy]] #[], .func (.func 181) #[.agg #[.int .i64 P, .int .i64 A, .int .i64 B, .int .i64 N, .int .i64 gx, .int .i64 gy]] #[], .func (.func 182) #[.agg #[.int .i64 P, .int .i64 A, .int .i64 B, .int .i64 N, .int .i64 gx, .int .i64 gy]] #[], .func (.func 183) #[] #[]] 176)).alloc (.cells #[.int .i64 a.x, .int .i64 a.y, .bool a.far] 47)).alloc (.cells #[.int .i64 0, .int .i64 0, .bool false] 47) = V := ⟨_, rfl⟩
 obtain ⟨B1, B2, B3, hE, hz⟩ := box3 w [.int .i64 0, .int .i64 0, .bool true, .int .i64 gx, .int .i64 gy, .bool false, .func (.func 179) #[.agg #[.int .i64 P, .int .i64 A, .int .i64 B, .int .i64 N, .int .i64 gx, .int .i64 gy]] #[], .func (.func 180) #[.agg #[.int .i64 P, .int .i64 A, .int .i64 B, .int .i64 N, .int .i64 gx, .int .i64 gy]] #[], .func (.func 181) #[.agg #[.int .i64 P, .int .i64 A, .int .i64 B, .int .i64 N, .int .i64 gx, .int .i64 gy]] #[], .func (.func 182) #[.agg #[.int .i64 P, .int .i64 A, .int .i64 B, .int .i64 N, .int .i64 gx, .int .i64 gy]] #[], .func (.func 183) #[] #[]] [.int .i64 a.x, .int .i64 a.y, .bool a.far] [.int .i64 0, .int .i64 0, .bool false] 176 47 47 (hV ▸ Ext.refl _ : Ext (((w.alloc (.cells #[.int .i64 0, .int .i64 0, .bool true, .int .i64 gx, .int .i64 gy, .bool false, .func (.func 179) #[.agg #[.int .i64 P, .int .i64 A, .int .i64 B, .int .i64 N, .int .i64 gx, .int .i64 gy]] #[], .func (.func 180) #[.agg #[.int .i64 P, .int .i64 A, .int .i64 B, .int .i64 N, .int .i64 gx, .int .i64 gy]] #[], .func (.func 181) #[.agg #[.int .i64 P, .int .i64 A, .int .i64 B, .int .i64 N, .int .i64 gx, .int .i64 gy]] #[], .func (.func 182) #[.agg #[.int .i64 P, .int .i64 A, .int .i64 B, .int .i64 N, .int .i64 gx, .int .i64 gy]] #[], .func (.func 183) #[] #[]] 176)).alloc (.cells #[.int .i64 a.x, .int .i64 a.y, .bool a.far] 47)).alloc (.cells #[.int .i64 0, .int .i64 0, .bool false] 47)) V)
 simp only [hV]
 clear hV
 go_wp2
 obtain ⟨X, hX⟩ : ∃ X : Nat → Prop, X = fun _ => False := ⟨_, rfl⟩
 have x0 : ∀ k, k < V.heap.size → ¬ X k := fun k h => by rw [hX]; exact fun e => e
 clear hX
 have g0 := cell_reC (B1 0 _ rfl).1 (x0 _ (by first | omega | (simp only; omega)))
 have g1 := cell_reC (B1 1 _ rfl).1 (x0 _ (by first | omega | (simp only; omega)))
 have g2 := cell_reC (B1 2 _ rfl).1 (x0 _ (by first | omega | (simp only; omega)))
 have g3 := cell_reC (B1 3 _ rfl).1 (x0 _ (by first | omega | (simp only; omega)))
 have g4 := cell_reC (B1 4 _ rfl).1 (x0 _ (by first | omega | (simp only; omega)))
 have g5 := cell_reC (B1 5 _ rfl).1 (x0 _ (by first | omega | (simp only; omega)))
 have g6 := cell_reC (B1 6 _ rfl).1 (x0 _ (by first | omega | (simp only; omega)))
 have g7 := cell_reC (B1 7 _ rfl).1 (x0 _ (by first | omega | (simp only; omega)))
 have g8 := cell_reC (B1 8 _ rfl).1 (x0 _ (by first | omega | (simp only; omega)))
 have g9 := cell_reC (B1 9 _ rfl).1 (x0 _ (by first | omega | (simp only; omega)))
 have g10 := cell_reC (B1 10 _ rfl).1 (x0 _ (by first | omega | (simp only; omega)))
 have c0 := cell_reC (B2 0 _ rfl).1 (x0 _ (by first | omega | (simp only; omega)))
 have c1 := cell_reC (B2 1 _ rfl).1 (x0 _ (by first | omega | (simp only; omega)))
 have c2 := cell_reC (B2 2 _ rfl).1 (x0 _ (by first | omega | (simp only; omega)))
 refine anyK_begin X 9 rfl (by kernel_rfl) ?_
 refine anyK_take 0 4 5 rfl (by decide) (by kernel_rfl) (fun _ _ d _ _ h => by cases d <;> exact h) ?_
 repeat (refine headC_step (fun K hK => ?_); go_simp; refine hK _ ?_; clear hK K)
 refine headC_nil ?_
 clear g0 g1 g2 g3 g4 g5 g6 g7 g8 g9 g10 c0 c1 c2
 refine anyK_all [4, 5, 6] (by kernel_rfl) (by simp) ?_
 intro i hi
 have hi' : i = 4 ∨ i = 5 ∨ i = 6 := by simpa using hi
 rcases hi' with rfl | rfl | rfl
 ·refine stepK_run rfl ?_
  intro w2 h2 K hK
  go_simp
  refine (HK.out _).mono ?_
  rintro e w3 ⟨rfl, h3⟩
  exact ⟨rfl, rfl, (hE.trans h2).trans h3⟩
 ·refine stepK_run rfl ?_
  intro w2 h2 K hK
  go_simp
  refine hK _ _ (.of_ext (h2.trans (Ext.alloc _ _))) ?_
  clear hK K
  refine anyK_two 4 6 (by kernel_rfl) ?_ ?_
  ·refine stepK_run rfl ?_
   intro w3 h3 K hK
   go_simp
   refine (HK.out _).mono ?_
   rintro e w4 ⟨rfl, h4⟩
   exact ⟨rfl, rfl, (hE.trans ((h2.trans (Ext.alloc _ _)).trans h3)).trans h4⟩
  ·refine stepK_run rfl ?_
   intro w3 h3 K hK
   go_simp
   refine hK _ _ (.of_ext (((h2.trans (Ext.alloc _ _)).trans h3).trans (Ext.alloc _ _))) ?_
   clear hK K
   refine anyK_one 4 (by kernel_rfl) ?_
   refine stepK_run rfl ?_
   intro w4 h4 K hK
   go_simp
   refine (HK.out _).mono ?_
   rintro e w5 ⟨rfl, h5⟩
   exact ⟨rfl, rfl, (hE.trans ((((h2.trans (Ext.alloc _ _)).trans h3).trans (Ext.alloc _ _)).trans h4)).trans h5⟩
 ·refine stepK_run rfl ?_
  intro w2 h2 K hK
  go_simp
  refine hK _ _ (.of_ext (h2.trans (Ext.alloc _ _))) ?_
  clear hK K
  refine anyK_two 4 5 (by kernel_rfl) ?_ ?_
  ·refine stepK_run rfl ?_
   intro w3 h3 K hK
   go_simp
   refine (HK.out _).mono ?_
   rintro e w4 ⟨rfl, h4⟩
   exact ⟨rfl, rfl, (hE.trans ((h2.trans (Ext.alloc _ _)).trans h3)).trans h4⟩
  ·refine stepK_run rfl ?_
   intro w3 h3 K hK
   go_simp
   refine hK _ _ (.of_ext (((h2.trans (Ext.alloc _ _)).trans h3).trans (Ext.alloc _ _))) ?_
   clear hK K
   refine anyK_one 4 (by kernel_rfl) ?_
   refine stepK_run rfl ?_
   intro w4 h4 K hK
   go_simp
   refine (HK.out _).mono ?_
   rintro e w5 ⟨rfl, h5⟩
   exact ⟨rfl, rfl, (hE.trans ((((h2.trans (Ext.alloc _ _)).trans h3).trans (Ext.alloc _ _)).trans h4)).trans h5⟩
theorem want_ext (w : World) : Calls Tryz.prog 164 #[.bool true] w fun e w' => e = .returned (.tuple #[]) ∧ Ext w w' := (want_yes w).mono fun e w' k => ⟨k.1, k.2 ▸ Ext.refl _⟩
set_option maxHeartbeats 1600000 in
set_option maxRecDepth 100000 in
theorem genPt_yes {P A B N : Int} (gx gy : Int) (h : CvNum P A B N) (m : Nat) (m1 : m ≤ 1099511627776) (hp : On P.toNat A B ⟨gx, gy, false⟩ ∧ mulF P.toNat A m ⟨gx, gy, false⟩ = farP) (w : World) :
  Calls Tryz.prog 184 #[.agg #[.int .i64 0, .int .i64 0, .bool true, .int .i64 gx, .int .i64 gy, .bool false, .func (.func 179) #[.agg #[.int .i64 P, .int .i64 A, .int .i64 B, .int .i64 N, .int .i64 gx, .int .i64 gy]] #[], .func (.func 180) #[.agg #[.int .i64 P, .int .i64 A, .int .i64 B, .int .i64 N, .int .i64 gx, .int .i64 gy]] #[], .func (.func 181) #[.agg #[.int .i64 P, .int .i64 A, .int .i64 B, .int .i64 N, .int .i64 gx, .int .i64 gy]] #[], .func (.func 182) #[.agg #[.int .i64 P, .int .i64 A, .int .i64 B, .int .i64 N, .int .i64 gx, .int .i64 gy]] #[], .func (.func 183) #[] #[]], .int .i64 m] w fun e w' => e = .returned (.agg #[.int .i64 0, .int .i64 0, .bool true, .int .i64 gx, .int .i64 gy, .bool false, .func (.func 179) #[.agg #[.int .i64 P, .int .i64 A, .int .i64 B, .int .i64 N, .int .i64 gx, .int .i64 gy]] #[], .func (.func 180) #[.agg #[.int .i64 P, .int .i64 A, .int .i64 B, .int .i64 N, .int .i64 gx, .int .i64 gy]] #[], .func (.func 181) #[.agg #[.int .i64 P, .int .i64 A, .int .i64 B, .int .i64 N, .int .i64 gx, .int .i64 gy]] #[], .func (.func 182) #[.agg #[.int .i64 P, .int .i64 A, .int .i64 B, .int .i64 N, .int .i64 gx, .int .i64 gy]] #[], .func (.func 183) #[] #[]]) ∧ Ext w w' := by
 have HF : Hid (∀ w : World, Calls Tryz.prog 162 #[.agg #[.int .i64 0, .int .i64 0, .bool true, .int .i64 gx, .int .i64 gy, .bool false, .func (.func 179) #[.agg #[.int .i64 P, .int .i64 A, .int .i64 B, .int .i64 N, .int .i64 gx, .int .i64 gy]] #[], .func (.func 180) #[.agg #[.int .i64 P, .int .i64 A, .int .i64 B, .int .i64 N, .int .i64 gx, .int .i64 gy]] #[], .func (.func 181) #[.agg #[.int .i64 P, .int .i64 A, .int .i64 B, .int .i64 N, .int .i64 gx, .int .i64 gy]] #[], .func (.func 182) #[.agg #[.int .i64 P, .int .i64 A, .int .i64 B, .int .i64 N, .int .i64 gx, .int .i64 gy]] #[], .func (.func 183) #[] #[]], .int .i64 m, .agg #[.int .i64 gx, .int .i64 gy, .bool false]] w fun e w' => e = .returned (.agg #[.int .i64 0, .int .i64 0, .bool true]) ∧ Ext w w') := fun w => foldPt_yes gx gy h (a := ⟨gx, gy, false⟩) (R := farP) hp.1 m m1 hp.2 w
 have u1 := sepPt gx gy
 have u2 := sameUnitPt
 clear h hp
 go_enter Tryz.func184, Tryz.ntmps184
 go_wp2
 obtain ⟨V, hV⟩ : ∃ V, (w.alloc (.cells #[.int .i64 0, .int .i64 0, .bool true, .int .i64 gx, .int .i64 gy, .bool false, .func (.func 179) #[.agg #[.int .i64 P, .int .i64 A, .int .i64 B, .int .i64 N, .int .i64 gx, .int .i64 gy]] #[], .func (.func 180) #[.agg #[.int .i64 P, .int .i64 A, .int .i64 B, .int .i64 N, .int .i64 gx, .int .i64 gy]] #[], .func (.func 181) #[.agg #[.int .i64 P, .int .i64 A, .int .i64 B, .int .i64 N, .int .i64 gx, .int .i64 gy]] #[], .func (.func 182) #[.agg #[.int .i64 P, .int .i64 A, .int .i64 B, .int .i64 N, .int .i64 gx, .int .i64 gy]] #[], .func (.func 183) #[] #[]] 176)).alloc (.cells #[.int .i64 0, .int .i64 0, .bool false, .int .i64 0, .int .i64 0, .bool false, .nilFunc, .nilFunc, .nilFunc, .nilFunc, .nilFunc] 176) = V := ⟨_, rfl⟩
 obtain ⟨B1, B2, hE, hz⟩ := box2 w [.int .i64 0, .int .i64 0, .bool true, .int .i64 gx, .int .i64 gy, .bool false, .func (.func 179) #[.agg #[.int .i64 P, .int .i64 A, .int .i64 B, .int .i64 N, .int .i64 gx, .int .i64 gy]] #[], .func (.func 180) #[.agg #[.int .i64 P, .int .i64 A, .int .i64 B, .int .i64 N, .int .i64 gx, .int .i64 gy]] #[], .func (.func 181) #[.agg #[.int .i64 P, .int .i64 A, .int .i64 B, .int .i64 N, .int .i64 gx, .int .i64 gy]] #[], .func (.func 182) #[.agg #[.int .i64 P, .int .i64 A, .int .i64 B, .int .i64 N, .int .i64 gx, .int .i64 gy]] #[], .func (.func 183) #[] #[]] [.int .i64 0, .int .i64 0, .bool false, .int .i64 0, .int .i64 0, .bool false, .nilFunc, .nilFunc, .nilFunc, .nilFunc, .nilFunc] 176 176 (hV ▸ Ext.refl _ : Ext ((w.alloc (.cells #[.int .i64 0, .int .i64 0, .bool true, .int .i64 gx, .int .i64 gy, .bool false, .func (.func 179) #[.agg #[.int .i64 P, .int .i64 A, .int .i64 B, .int .i64 N, .int .i64 gx, .int .i64 gy]] #[], .func (.func 180) #[.agg #[.int .i64 P, .int .i64 A, .int .i64 B, .int .i64 N, .int .i64 gx, .int .i64 gy]] #[], .func (.func 181) #[.agg #[.int .i64 P, .int .i64 A, .int .i64 B, .int .i64 N, .int .i64 gx, .int .i64 gy]] #[], .func (.func 182) #[.agg #[.int .i64 P, .int .i64 A, .int .i64 B, .int .i64 N, .int .i64 gx, .int .i64 gy]] #[], .func (.func 183) #[] #[]] 176)).alloc (.cells #[.int .i64 0, .int .i64 0, .bool false, .int .i64 0, .int .i64 0, .bool false, .nilFunc, .nilFunc, .nilFunc, .nilFunc, .nilFunc] 176)) V)
 simp only [hV]
 clear hV
 obtain ⟨X, hX⟩ : ∃ X : Nat → Prop, X = fun _ => False := ⟨_, rfl⟩
 have x0 : ∀ k, k < V.heap.size → ¬ X k := fun k h => by rw [hX]; exact fun e => e
 clear hX
 have g0 := cell_reC (B1 0 _ rfl).1 (x0 _ (by first | omega | (simp only; omega)))
 have g1 := cell_reC (B1 1 _ rfl).1 (x0 _ (by first | omega | (simp only; omega)))
 have g2 := cell_reC (B1 2 _ rfl).1 (x0 _ (by first | omega | (simp only; omega)))
 have g3 := cell_reC (B1 3 _ rfl).1 (x0 _ (by first | omega | (simp only; omega)))
 have g4 := cell_reC (B1 4 _ rfl).1 (x0 _ (by first | omega | (simp only; omega)))
 have g5 := cell_reC (B1 5 _ rfl).1 (x0 _ (by first | omega | (simp only; omega)))
 have g6 := cell_reC (B1 6 _ rfl).1 (x0 _ (by first | omega | (simp only; omega)))
 have g7 := cell_reC (B1 7 _ rfl).1 (x0 _ (by first | omega | (simp only; omega)))
 have g8 := cell_reC (B1 8 _ rfl).1 (x0 _ (by first | omega | (simp only; omega)))
 have g9 := cell_reC (B1 9 _ rfl).1 (x0 _ (by first | omega | (simp only; omega)))
 have g10 := cell_reC (B1 10 _ rfl).1 (x0 _ (by first | omega | (simp only; omega)))
 refine anyK_begin X 16 rfl (by kernel_rfl) ?_
 refine anyK_take 0 16 0 rfl (by decide) (by kernel_rfl) (fun _ _ d _ _ h => by cases d <;> exact h) ?_
 repeat (refine headC_step (fun K hK => ?_); go_simp; first | (refine hK _ ?_; clear hK K) | (apply Exists.intro; refine ⟨fun _ => ?_, hK _ ?_⟩; (first | (go_at_call 162; exact Calls.re_of (HF.out _)) | (go_at_call 164; exact Calls.re_of (want_ext _))); clear hK K))
 refine headC_nil ?_
 clear g0 g1 g2 g3 g4 g5 g6 g7 g8 g9 g10
 refine anyK_done (by kernel_rfl) ?_ 0
 intro w1 h1
 have C1 := B1.ext h1 (by omega)
 have C2 := B2.ext h1 (by omega)
 have hE1 := hE.trans h1
 clear B1 B2 h1 x0 u1 u2 HF
 have g0 := (C1 0 _ rfl).1
 have g1 := (C1 1 _ rfl).1
 have g2 := (C1 2 _ rfl).1
 have g3 := (C1 3 _ rfl).1
 have g4 := (C1 4 _ rfl).1
 have g5 := (C1 5 _ rfl).1
 have g6 := (C1 6 _ rfl).1
 have g7 := (C1 7 _ rfl).1
 have g8 := (C1 8 _ rfl).1
 have g9 := (C1 9 _ rfl).1
 have g10 := (C1 10 _ rfl).1
 have d0 := (C2 0 _ rfl).1
 have d1 := (C2 1 _ rfl).1
 have d2 := (C2 2 _ rfl).1
 have d3 := (C2 3 _ rfl).1
 have d4 := (C2 4 _ rfl).1
 have d5 := (C2 5 _ rfl).1
 have d6 := (C2 6 _ rfl).1
 have d7 := (C2 7 _ rfl).1
 have d8 := (C2 8 _ rfl).1
 have d9 := (C2 9 _ rfl).1
 have d10 := (C2 10 _ rfl).1
 have z0 := (C2 0 _ rfl).2
 have z1 := (C2 1 _ rfl).2
 have z2 := (C2 2 _ rfl).2
 have z3 := (C2 3 _ rfl).2
 have z4 := (C2 4 _ rfl).2
 have z5 := (C2 5 _ rfl).2
 have z6 := (C2 6 _ rfl).2
 have z7 := (C2 7 _ rfl).2
 have z8 := (C2 8 _ rfl).2
 have z9 := (C2 9 _ rfl).2
 have z10 := (C2 10 _ rfl).2
 go_wp2
 obtain ⟨W, hW⟩ : ∃ W, putL (w.heap.size + 1) 0 [.int .i64 0, .int .i64 0, .bool true, .int .i64 gx, .int .i64 gy, .bool false, .func (.func 179) #[.agg #[.int .i64 P, .int .i64 A, .int .i64 B, .int .i64 N, .int .i64 gx, .int .i64 gy]] #[], .func (.func 180) #[.agg #[.int .i64 P, .int .i64 A, .int .i64 B, .int .i64 N, .int .i64 gx, .int .i64 gy]] #[], .func (.func 181) #[.agg #[.int .i64 P, .int .i64 A, .int .i64 B, .int .i64 N, .int .i64 gx, .int .i64 gy]] #[], .func (.func 182) #[.agg #[.int .i64 P, .int .i64 A, .int .i64 B, .int .i64 N, .int .i64 gx, .int .i64 gy]] #[], .func (.func 183) #[] #[]] w1 = W := ⟨_, rfl⟩
 have BW := Blk.put C2 [.int .i64 0, .int .i64 0, .bool true, .int .i64 gx, .int .i64 gy, .bool false, .func (.func 179) #[.agg #[.int .i64 P, .int .i64 A, .int .i64 B, .int .i64 N, .int .i64 gx, .int .i64 gy]] #[], .func (.func 180) #[.agg #[.int .i64 P, .int .i64 A, .int .i64 B, .int .i64 N, .int .i64 gx, .int .i64 gy]] #[], .func (.func 181) #[.agg #[.int .i64 P, .int .i64 A, .int .i64 B, .int .i64 N, .int .i64 gx, .int .i64 gy]] #[], .func (.func 182) #[.agg #[.int .i64 P, .int .i64 A, .int .i64 B, .int .i64 N, .int .i64 gx, .int .i64 gy]] #[], .func (.func 183) #[] #[]] rfl
 rw [hW] at BW
 have hF : Ext w W := hW ▸ hE1.putL (by omega) _
 simp only [putL, Nat.zero_add, Nat.reduceAdd] at hW
 simp only [hW]
 have q0 := (BW 0 _ rfl).1
 have q1 := (BW 1 _ rfl).1
 have q2 := (BW 2 _ rfl).1
 have q3 := (BW 3 _ rfl).1
 have q4 := (BW 4 _ rfl).1
 have q5 := (BW 5 _ rfl).1
 have q6 := (BW 6 _ rfl).1
 have q7 := (BW 7 _ rfl).1
 have q8 := (BW 8 _ rfl).1
 have q9 := (BW 9 _ rfl).1
 have q10 := (BW 10 _ rfl).1
 refine bodyPost_ret (v := .agg #[.int .i64 0, .int .i64 0, .bool true, .int .i64 gx, .int .i64 gy, .bool false, .func (.func 179) #[.agg #[.int .i64 P, .int .i64 A, .int .i64 B, .int .i64 N, .int .i64 gx, .int .i64 gy]] #[], .func (.func 180) #[.agg #[.int .i64 P, .int .i64 A, .int .i64 B, .int .i64 N, .int .i64 gx, .int .i64 gy]] #[], .func (.func 181) #[.agg #[.int .i64 P, .int .i64 A, .int .i64 B, .int .i64 N, .int .i64 gx, .int .i64 gy]] #[], .func (.func 182) #[.agg #[.int .i64 P, .int .i64 A, .int .i64 B, .int .i64 N, .int .i64 gx, .int .i64 gy]] #[], .func (.func 183) #[] #[]]) (by simp [results, Tryz.results184, go_sem, q0, q1, q2, q3, q4, q5, q6, q7, q8, q9, q10]) rfl ⟨rfl, hF⟩
end Go.Proofs.YtfhiiakoilkbkaaGreatDoor
