/- Walks: the group of a curve of the program (impl.Pair): fold that panics, generated. -/
import Derived.Test.YtfhiiakoilkbkaaGreatDoorCv24
namespace Go.Proofs.YtfhiiakoilkbkaaGreatDoor
set_option linter.unusedVariables false
set_option linter.unusedSimpArgs false
open Go.RowKit
theorem sepPr {bx cy : Int} (h : ¬ (bx = 0 ∧ cy = 1)) (w : World) : (binOp .neq 49 (.agg #[.int .i64 bx, .int .i64 cy]) (.agg #[.int .i64 0, .int .i64 1])).run Tryz.prog w = .ok (.bool true) w := nePr_yes h w
theorem samePr {bx cy : Int} (h : bx = 0 ∧ cy = 1) (w : World) : (binOp .neq 49 (.agg #[.int .i64 bx, .int .i64 cy]) (.agg #[.int .i64 0, .int .i64 1])).run Tryz.prog w = .ok (.bool false) w := nePr_no h w
theorem sameUnitPr (w : World) : (binOp .eql 49 (.agg #[.int .i64 0, .int .i64 1]) (.agg #[.int .i64 0, .int .i64 1])).run Tryz.prog w = .ok (.bool true) w := eqPr_yes w
theorem otherUnitPr {R : Pr} (h : R ≠ oneE) (w : World) : (binOp .eql 49 (.agg #[.int .i64 R.x, .int .i64 R.y]) (.agg #[.int .i64 0, .int .i64 1])).run Tryz.prog w = .ok (.bool false) w := eqPr_no h w
theorem EvOk.parts {P D L bx cy : Int} (h : EvOk P D L bx cy) : OnE P.toNat D ⟨bx, cy⟩ ∧ ¬ (bx = 0 ∧ cy = 1) ∧ mulE P.toNat D L.toNat ⟨bx, cy⟩ = oneE := ⟨h.on, h.ne, h.fold⟩
theorem EvOk.of_parts {P D L bx cy : Int} (h : EvNum P D L) (k : OnE P.toNat D ⟨bx, cy⟩ ∧ ¬ (bx = 0 ∧ cy = 1) ∧ mulE P.toNat D L.toNat ⟨bx, cy⟩ = oneE) : EvOk P D L bx cy :=
 ⟨h.p13, h.pM, h.p8, h.pp, h.d2, h.d1, h.pw, h.l5, h.lM, h.lp, k.1, k.2.1, k.2.2⟩
set_option maxHeartbeats 1600000 in
set_option maxRecDepth 100000 in
theorem foldPr_no {P D L : Int} (bx cy : Int) (h : EvNum P D L) {a : Pr} (n : Int) (hn : ¬ (0 ≤ n ∧ n ≤ 1099511627776 ∧ OnE P.toNat D a)) (w : World) :
  Calls Tryz.prog 194 #[.agg #[.int .i64 0, .int .i64 1, .int .i64 bx, .int .i64 cy, .func (.func 166) #[.agg #[.int .i64 P, .int .i64 D, .int .i64 L, .int .i64 bx, .int .i64 cy]] #[], .func (.func 167) #[.agg #[.int .i64 P, .int .i64 D, .int .i64 L, .int .i64 bx, .int .i64 cy]] #[], .func (.func 168) #[.agg #[.int .i64 P, .int .i64 D, .int .i64 L, .int .i64 bx, .int .i64 cy]] #[], .func (.func 169) #[.agg #[.int .i64 P, .int .i64 D, .int .i64 L, .int .i64 bx, .int .i64 cy]] #[], .func (.func 170) #[] #[]], .int .i64 n, .agg #[.int .i64 a.x, .int .i64 a.y]] w fun e w' => e = .panicked [nrE] ∧ Ext w w' := by
 by_cases c1 : n < 0
 ·clear hn h
  go_enter Tryz.func194, Tryz.ntmps194
  go_wp2_with fail
  refine (want_no _).mono ?_
  rintro r w' ⟨rfl, rfl⟩
  exact ⟨rfl, rfl, (box3 w [.int .i64 0, .int .i64 1, .int .i64 bx, .int .i64 cy, .func (.func 166) #[.agg #[.int .i64 P, .int .i64 D, .int .i64 L, .int .i64 bx, .int .i64 cy]] #[], .func (.func 167) #[.agg #[.int .i64 P, .int .i64 D, .int .i64 L, .int .i64 bx, .int .i64 cy]] #[], .func (.func 168) #[.agg #[.int .i64 P, .int .i64 D, .int .i64 L, .int .i64 bx, .int .i64 cy]] #[], .func (.func 169) #[.agg #[.int .i64 P, .int .i64 D, .int .i64 L, .int .i64 bx, .int .i64 cy]] #[], .func (.func 170) #[] #[]] [.int .i64 a.x, .int .i64 a.y] [.int .i64 0, .int .i64 0] 158 49 49 (Ext.refl _)).2.2.2.1⟩
 by_cases c2 : 1099511627776 < n
 ·clear hn h
  have c3 : decide (n ≤ 1099511627776) = false := by simp; omega
  go_enter Tryz.func194, Tryz.ntmps194
  go_wp2_with fail
  refine (want_no _).mono ?_
  rintro r w' ⟨rfl, rfl⟩
  exact ⟨rfl, rfl, (box3 w [.int .i64 0, .int .i64 1, .int .i64 bx, .int .i64 cy, .func (.func 166) #[.agg #[.int .i64 P, .int .i64 D, .int .i64 L, .int .i64 bx, .int .i64 cy]] #[], .func (.func 167) #[.agg #[.int .i64 P, .int .i64 D, .int .i64 L, .int .i64 bx, .int .i64 cy]] #[], .func (.func 168) #[.agg #[.int .i64 P, .int .i64 D, .int .i64 L, .int .i64 bx, .int .i64 cy]] #[], .func (.func 169) #[.agg #[.int .i64 P, .int .i64 D, .int .i64 L, .int .i64 bx, .int .i64 cy]] #[], .func (.func 170) #[] #[]] [.int .i64 a.x, .int .i64 a.y] [.int .i64 0, .int .i64 0] 158 49 49 (Ext.refl _)).2.2.2.1⟩
 have HK := hide (knownPr_no bx cy h (fun k => hn ⟨by omega, by omega, k⟩))
 have n0 : 0 ≤ n := by omega
 have n2 : n ≤ 1099511627776 := by omega
 clear h hn c1 c2
 go_enter Tryz.func194, Tryz.ntmps194
 go_wp2_with fail
 refine (want_yes _).mono ?_
 rintro r w' ⟨rfl, rfl⟩
 obtain ⟨V, hV⟩ : ∃ V, ((w.alloc (.cells #[.int .i64 0, .int .i64 1, .int .i64 bx, .int .i64 cy, .func (.func 166) #[.agg #[.int .i64 P, .int .i64 D, .int .i64 L, .int .i64 bx, .int .i64 cy]] #[], .func (.func 167) #[.agg #[.int .i64 P, .int .i64 D, .int .i64 L, .int .i64 bx, .int .i64 cy]] #[], .func (.func 168) #[.agg #[.int .i64 P, .int .i64 D, .int .i64 L, .int .i64 bx, .int .i64 cy]] #[], .func (.func 169) #[.agg #[.int .i64 P, .int .i64 D, .int .i64 L, .int .i64 bx, .int .i64 cy]] #[], .func (.func 170) #[] #[]] 158)).alloc (.cells #[.int .i64 a.x, .int .i64 a.y] 49)).alloc (.cells #[.int .i64 0, .int .i64 0] 49) = V := ⟨_, rfl⟩
 obtain ⟨B1, B2, B3, hE, hz⟩ := box3 w [.int .i64 0, .int .i64 1, .int .i64 bx, .int .i64 cy, .func (.func 166) #[.agg #[.int .i64 P, .int .i64 D, .int .i64 L, .int .i64 bx, .int .i64 cy]] #[], .func (.func 167) #[.agg #[.int .i64 P, .int .i64 D, .int .i64 L, .int .i64 bx, .int .i64 cy]] #[], .func (.func 168) #[.agg #[.int .i64 P, .int .i64 D, .int .i64 L, .int .i64 bx, .int .i64 cy]] #[], .func (.func 169) #[.agg #[.int .i64 P, .int .i64 D, .int .i64 L, .int .i64 bx, .int .i64 cy]] #[], .func (.func 170) #[] #[]] [.int .i64 a.x, .int .i64 a.y] [.int .i64 0, .int .i64 0] 158 49 49 (hV ▸ Ext.refl _ : Ext (((w.alloc (.cells #[.int .i64 0, .int .i64 1, .int .i64 bx, .int .i64 cy, .func (.func 166) #[.agg #[.int .i64 P, .int .i64 D, .int .i64 L, .int .i64 bx, .int .i64 cy]] #[], .func (.func 167) #[.agg #[.int .i64 P, .int .i64 D, .int .i64 L, .int .i64 bx, .int .i64 cy]] #[], .func (.func 168) #[.agg #[.int .i64 P, .int .i64 D, .int .i64 L, .int .i64 bx, .int .i64 cy]] #[], .func (.func 169) #[.agg #[.int .i64 P, .int .i64 D, .int .i64 L, .int .i64 bx, .int .i64 cy]] #[], .func (.func 170) #[] #[]] 158)).alloc (.cells #[.int .i64 a.x, .int .i64 a.y] 49)).alloc (.cells #[.int .i64 0, .int .i64 0] 49)) V)
 simp only [hV]
 clear hV
 go_wp2
 obtain ⟨X, hX⟩ : ∃ X : Nat → Prop, X = fun _ => False := ⟨_, rfl⟩
 have x0 : ∀ k, k < V.heap.size → ¬ X k := fun k h => by rw [hX]; exact fun e => e
 clear hX
 have g0 := cell_reC (B1 0 _ rfl).1 (x0 _ (by first | omega | (simp only; omega)))
 have g1 := cell_reC (B1 1 _ rfl).1 (x0 _ (by first | omega | (simp only; omega)))
 have g2 := cell_reC (B1 2 _ rfl).1 (x0 _ (by first | omega | (simp only; omega)))
 have g3 := cell_reC (B1 3 _ rfl).1 (x0 _ (by first | omega | (simp only; omega)))
 have g4 := cell_reC (B1 4 _ rfl).1 (x0 _ (by first | omega | (simp only; omega)))
 have g5 := cell_reC (B1 5 _ rfl).1 (x0 _ (by first | omega | (simp only; omega)))
 have g6 := cell_reC (B1 6 _ rfl).1 (x0 _ (by first | omega | (simp only; omega)))
 have g7 := cell_reC (B1 7 _ rfl).1 (x0 _ (by first | omega | (simp only; omega)))
 have g8 := cell_reC (B1 8 _ rfl).1 (x0 _ (by first | omega | (simp only; omega)))
 have c0 := cell_reC (B2 0 _ rfl).1 (x0 _ (by first | omega | (simp only; omega)))
 have c1 := cell_reC (B2 1 _ rfl).1 (x0 _ (by first | omega | (simp only; omega)))
 refine anyK_begin X 9 rfl (by kernel_rfl) ?_
 refine anyK_take 0 4 5 rfl (by decide) (by kernel_rfl) (fun _ _ d _ _ h => by cases d <;> exact h) ?_
 repeat (refine headC_step (fun K hK => ?_); go_simp; refine hK _ ?_; clear hK K)
 refine headC_nil ?_
 clear g0 g1 g2 g3 g4 g5 g6 g7 g8 c0 c1
 refine anyK_all [4, 5, 6] (by kernel_rfl) (by simp) ?_
 intro i hi
 have hi' : i = 4 ∨ i = 5 ∨ i = 6 := by simpa using hi
 rcases hi' with rfl | rfl | rfl
 ·refine stepK_run rfl ?_
  intro w2 h2 K hK
  go_simp
  refine (HK.out _).mono ?_
  rintro e w3 ⟨rfl, h3⟩
  exact ⟨rfl, rfl, (hE.trans h2).trans h3⟩
 ·refine stepK_run rfl ?_
  intro w2 h2 K hK
  go_simp
  refine hK _ _ (.of_ext (h2.trans (Ext.alloc _ _))) ?_
  clear hK K
  refine anyK_two 4 6 (by kernel_rfl) ?_ ?_
  ·refine stepK_run rfl ?_
   intro w3 h3 K hK
   go_simp
   refine (HK.out _).mono ?_
   rintro e w4 ⟨rfl, h4⟩
   exact ⟨rfl, rfl, (hE.trans ((h2.trans (Ext.alloc _ _)).trans h3)).trans h4⟩
  ·refine stepK_run rfl ?_
   intro w3 h3 K hK
   go_simp
   refine hK _ _ (.of_ext (((h2.trans (Ext.alloc _ _)).trans h3).trans (Ext.alloc _ _))) ?_
   clear hK K
   refine anyK_one 4 (by kernel_rfl) ?_
   refine stepK_run rfl ?_
   intro w4 h4 K hK
   go_simp
   refine (HK.out _).mono ?_
   rintro e w5 ⟨rfl, h5⟩
   exact ⟨rfl, rfl, (hE.trans ((((h2.trans (Ext.alloc _ _)).trans h3).trans (Ext.alloc _ _)).trans h4)).trans h5⟩
 ·refine stepK_run rfl ?_
  intro w2 h2 K hK
  go_simp
  refine hK _ _ (.of_ext (h2.trans (Ext.alloc _ _))) ?_
  clear hK K
  refine anyK_two 4 5 (by kernel_rfl) ?_ ?_
  ·refine stepK_run rfl ?_
   intro w3 h3 K hK
   go_simp
   refine (HK.out _).mono ?_
   rintro e w4 ⟨rfl, h4⟩
   exact ⟨rfl, rfl, (hE.trans ((h2.trans (Ext.alloc _ _)).trans h3)).trans h4⟩
  ·refine stepK_run rfl ?_
   intro w3 h3 K hK
   go_simp
   refine hK _ _ (.of_ext (((h2.trans (Ext.alloc _ _)).trans h3).trans (Ext.alloc _ _))) ?_
   clear hK K
   refine anyK_one 4 (by kernel_rfl) ?_
   refine stepK_run rfl ?_
   intro w4 h4 K hK
   go_simp
   refine (HK.out _).mono ?_
   rintro e w5 ⟨rfl, h5⟩
   exact ⟨rfl, rfl, (hE.trans ((((h2.trans (Ext.alloc _ _)).trans h3).trans (Ext.alloc _ _)).trans h4)).trans h5⟩
theorem want_extE (w : World) : Calls Tryz.prog 164 #[.bool true] w fun e w' => e = .returned (.tuple #[]) ∧ Ext w w' := (want_yes w).mono fun e w' k => ⟨k.1, k.2 ▸ Ext.refl _⟩
set_option maxHeartbeats 1600000 in
set_option maxRecDepth 100000 in
theorem genPr_yes {P D L : Int} (bx cy : Int) (h : EvNum P D L) (m : Nat) (m1 : m ≤ 1099511627776) (hp : OnE P.toNat D ⟨bx, cy⟩ ∧ ¬ (bx = 0 ∧ cy = 1) ∧ mulE P.toNat D m ⟨bx, cy⟩ = oneE) (w : World) :
  Calls Tryz.prog 171 #[.agg #[.int .i64 0, .int .i64 1, .int .i64 bx, .int .i64 cy, .func (.func 166) #[.agg #[.int .i64 P, .int .i64 D, .int .i64 L, .int .i64 bx, .int .i64 cy]] #[], .func (.func 167) #[.agg #[.int .i64 P, .int .i64 D, .int .i64 L, .int .i64 bx, .int .i64 cy]] #[], .func (.func 168) #[.agg #[.int .i64 P, .int .i64 D, .int .i64 L, .int .i64 bx, .int .i64 cy]] #[], .func (.func 169) #[.agg #[.int .i64 P, .int .i64 D, .int .i64 L, .int .i64 bx, .int .i64 cy]] #[], .func (.func 170) #[] #[]], .int .i64 m] w fun e w' => e = .returned (.agg #[.int .i64 0, .int .i64 1, .int .i64 bx, .int .i64 cy, .func (.func 166) #[.agg #[.int .i64 P, .int .i64 D, .int .i64 L, .int .i64 bx, .int .i64 cy]] #[], .func (.func 167) #[.agg #[.int .i64 P, .int .i64 D, .int .i64 L, .int .i64 bx, .int .i64 cy]] #[], .func (.func 168) #[.agg #[.int .i64 P, .int .i64 D, .int .i64 L, .int .i64 bx, .int .i64 cy]] #[], .func (.func 169) #[.agg #[.int .i64 P, .int .i64 D, .int .i64 L, .int .i64 bx, .int .i64 cy]] #[], .func (.func 170) #[] #[]]) ∧ Ext w w' := by
 have HF : Hid (∀ w : World, Calls Tryz.prog 194 #[.agg #[.int .i64 0, .int .i64 1, .int .i64 bx, .int .i64 cy, .func (.func 166) #[.agg #[.int .i64 P, .int .i64 D, .int .i64 L, .int .i64 bx, .int .i64 cy]] #[], .func (.func 167) #[.agg #[.int .i64 P, .int .i64 D, .int .i64 L, .int .i64 bx, .int .i64 cy]] #[], .func (.func 168) #[.agg #[.int .i64 P, .int .i64 D, .int .i64 L, .int .i64 bx, .int .i64 cy]] #[], .func (.func 169) #[.agg #[.int .i64 P, .int .i64 D, .int .i64 L, .int .i64 bx, .int .i64 cy]] #[], .func (.func 170) #[] #[]], .int .i64 m, .agg #[.int .i64 bx, .int .i64 cy]] w fun e w' => e = .returned (.agg #[.int .i64 0, .int .i64 1]) ∧ Ext w w') := fun w => foldPr_yes bx cy h (a := ⟨bx, cy⟩) (R := oneE) hp.1 m m1 hp.2.2 w
 have u1 := sepPr hp.2.1
 have u2 := sameUnitPr
 clear h hp
 go_enter Tryz.func171, Tryz.ntmps171
 go_wp2
 obtain ⟨V, hV⟩ : ∃ V, (w.alloc (.cells #[.int .i64 0, .int .i64 1, .int .i64 bx, .int .i64 cy, .func (.func 166) #[.agg #[.int .i64 P, .int .i64 D, .int .i64 L, .int .i64 bx, .int .i64 cy]] #[], .func (.func 167) #[.agg #[.int .i64 P, .int .i64 D, .int .i64 L, .int .i64 bx, .int .i64 cy]] #[], .func (.func 168) #[.agg #[.int .i64 P, .int .i64 D, .int .i64 L, .int .i64 bx, .int .i64 cy]] #[], .func (.func 169) #[.agg #[.int .i64 P, .int .i64 D, .int .i64 L, .int .i64 bx, .int .i64 cy]] #[], .func (.func 170) #[] #[]] 158)).alloc (.cells #[.int .i64 0, .int .i64 0, .int .i64 0, .int .i64 0, .nilFunc, .nilFunc, .nilFunc, .nilFunc, .nilFunc] 158) = V := ⟨_, rfl⟩
 obtain ⟨B1, B2, hE, hz⟩ := box2 w [.int .i64 0, .int .i64 1, .int .i64 bx, .int .i64 cy, .func (.func 166) #[.agg #[.int .i64 P, .int .i64 D, .int .i64 L, .int .i64 bx, .int .i64 cy]] #[], .func (.func 167) #[.agg #[.int .i64 P, .int .i64 D, .int .i64 L, .int .i64 bx, .int .i64 cy]] #[], .func (.func 168) #[.agg #[.int .i64 P, .int .i64 D, .int .i64 L, .int .i64 bx, .int .i64 cy]] #[], .func (.func 169) #[.agg #[.int .i64 P, .int .i64 D, .int .i64 L, .int .i64 bx, .int .i64 cy]] #[], .func (.func 170) #[] #[]] [.int .i64 0, .int .i64 0, .int .i64 0, .int .i64 0, .nilFunc, .nilFunc, .nilFunc, .nilFunc, .nilFunc] 158 158 (hV ▸ Ext.refl _ : Ext ((w.alloc (.cells #[.int .i64 0, .int .i64 1, .int .i64 bx, .int .i64 cy, .func (.func 166) #[.agg #[.int .i64 P, .int .i64 D, .int .i64 L, .int .i64 bx, .int .i64 cy]] #[], .func (.func 167) #[.agg #[.int .i64 P, .int .i64 D, .int .i64 L, .int .i64 bx, .int .i64 cy]] #[], .func (.func 168) #[.agg #[.int .i64 P, .int .i64 D, .int .i64 L, .int .i64 bx, .int .i64 cy]] #[], .func (.func 169) #[.agg #[.int .i64 P, .int .i64 D, .int .i64 L, .int .i64 bx, .int .i64 cy]] #[], .func (.func 170) #[] #[]] 158)).alloc (.cells #[.int .i64 0, .int .i64 0, .int .i64 0, .int .i64 0, .nilFunc, .nilFunc, .nilFunc, .nilFunc, .nilFunc] 158)) V)
 simp only [hV]
 clear hV
 obtain ⟨X, hX⟩ : ∃ X : Nat → Prop, X = fun _ => False := ⟨_, rfl⟩
 have x0 : ∀ k, k < V.heap.size → ¬ X k := fun k h => by rw [hX]; exact fun e => e
 clear hX
 have g0 := cell_reC (B1 0 _ rfl).1 (x0 _ (by first | omega | (simp only; omega)))
 have g1 := cell_reC (B1 1 _ rfl).1 (x0 _ (by first | omega | (simp only; omega)))
 have g2 := cell_reC (B1 2 _ rfl).1 (x0 _ (by first | omega | (simp only; omega)))
 have g3 := cell_reC (B1 3 _ rfl).1 (x0 _ (by first | omega | (simp only; omega)))
 have g4 := cell_reC (B1 4 _ rfl).1 (x0 _ (by first | omega | (simp only; omega)))
 have g5 := cell_reC (B1 5 _ rfl).1 (x0 _ (by first | omega | (simp only; omega)))
 have g6 := cell_reC (B1 6 _ rfl).1 (x0 _ (by first | omega | (simp only; omega)))
 have g7 := cell_reC (B1 7 _ rfl).1 (x0 _ (by first | omega | (simp only; omega)))
 have g8 := cell_reC (B1 8 _ rfl).1 (x0 _ (by first | omega | (simp only; omega)))
 refine anyK_begin X 16 rfl (by kernel_rfl) ?_
 refine anyK_take 0 16 0 rfl (by decide) (by kernel_rfl) (fun _ _ d _ _ h => by cases d <;> exact h) ?_
 repeat (refine headC_step (fun K hK => ?_); go_simp; first | (refine hK _ ?_; clear hK K) | (apply Exists.intro; refine ⟨fun _ => ?_, hK _ ?_⟩; (first | (go_at_call 194; exact Calls.re_of (HF.out _)) | (go_at_call 164; exact Calls.re_of (want_extE _))); clear hK K))
 refine headC_nil ?_
 clear g0 g1 g2 g3 g4 g5 g6 g7 g8
 refine anyK_done (by kernel_rfl) ?_ 0
 intro w1 h1
 have C1 := B1.ext h1 (by omega)
 have C2 := B2.ext h1 (by omega)
 have hE1 := hE.trans h1
 clear B1 B2 h1 x0 u1 u2 HF
 have g0 := (C1 0 _ rfl).1
 have g1 := (C1 1 _ rfl).1
 have g2 := (C1 2 _ rfl).1
 have g3 := (C1 3 _ rfl).1
 have g4 := (C1 4 _ rfl).1
 have g5 := (C1 5 _ rfl).1
 have g6 := (C1 6 _ rfl).1
 have g7 := (C1 7 _ rfl).1
 have g8 := (C1 8 _ rfl).1
 have d0 := (C2 0 _ rfl).1
 have d1 := (C2 1 _ rfl).1
 have d2 := (C2 2 _ rfl).1
 have d3 := (C2 3 _ rfl).1
 have d4 := (C2 4 _ rfl).1
 have d5 := (C2 5 _ rfl).1
 have d6 := (C2 6 _ rfl).1
 have d7 := (C2 7 _ rfl).1
 have d8 := (C2 8 _ rfl).1
 have z0 := (C2 0 _ rfl).2
 have z1 := (C2 1 _ rfl).2
 have z2 := (C2 2 _ rfl).2
 have z3 := (C2 3 _ rfl).2
 have z4 := (C2 4 _ rfl).2
 have z5 := (C2 5 _ rfl).2
 have z6 := (C2 6 _ rfl).2
 have z7 := (C2 7 _ rfl).2
 have z8 := (C2 8 _ rfl).2
 go_wp2
 obtain ⟨W, hW⟩ : ∃ W, putL (w.heap.size + 1) 0 [.int .i64 0, .int .i64 1, .int .i64 bx, .int .i64 cy, .func (.func 166) #[.agg #[.int .i64 P, .int .i64 D, .int .i64 L, .int .i64 bx, .int .i64 cy]] #[], .func (.func 167) #[.agg #[.int .i64 P, .int .i64 D, .int .i64 L, .int .i64 bx, .int .i64 cy]] #[], .func (.func 168) #[.agg #[.int .i64 P, .int .i64 D, .int .i64 L, .int .i64 bx, .int .i64 cy]] #[], .func (.func 169) #[.agg #[.int .i64 P, .int .i64 D, .int .i64 L, .int .i64 bx, .int .i64 cy]] #[], .func (.func 170) #[] #[]] w1 = W := ⟨_, rfl⟩
 have BW := Blk.put C2 [.int .i64 0, .int .i64 1, .int .i64 bx, .int .i64 cy, .func (.func 166) #[.agg #[.int .i64 P, .int .i64 D, .int .i64 L, .int .i64 bx, .int .i64 cy]] #[], .func (.func 167) #[.agg #[.int .i64 P, .int .i64 D, .int .i64 L, .int .i64 bx, .int .i64 cy]] #[], .func (.func 168) #[.agg #[.int .i64 P, .int .i64 D, .int .i64 L, .int .i64 bx, .int .i64 cy]] #[], .func (.func 169) #[.agg #[.int .i64 P, .int .i64 D, .int .i64 L, .int .i64 bx, .int .i64 cy]] #[], .func (.func 170) #[] #[]] rfl
 rw [hW] at BW
 have hF : Ext w W := hW ▸ hE1.putL (by omega) _
 simp only [putL, Nat.zero_add, Nat.reduceAdd] at hW
 simp only [hW]
 have q0 := (BW 0 _ rfl).1
 have q1 := (BW 1 _ rfl).1
 have q2 := (BW 2 _ rfl).1
 have q3 := (BW 3 _ rfl).1
 have q4 := (BW 4 _ rfl).1
 have q5 := (BW 5 _ rfl).1
 have q6 := (BW 6 _ rfl).1
 have q7 := (BW 7 _ rfl).1
 have q8 := (BW 8 _ rfl).1
 refine bodyPost_ret (v := .agg #[.int .i64 0, .int .i64 1, .int .i64 bx, .int .i64 cy, .func (.func 166) #[.agg #[.int .i64 P, .int .i64 D, .int .i64 L, .int .i64 bx, .int .i64 cy]] #[], .func (.func 167) #[.agg #[.int .i64 P, .int .i64 D, .int .i64 L, .int .i64 bx, .int .i64 cy]] #[], .func (.func 168) #[.agg #[.int .i64 P, .int .i64 D, .int .i64 L, .int .i64 bx, .int .i64 cy]] #[], .func (.func 169) #[.agg #[.int .i64 P, .int .i64 D, .int .i64 L, .int .i64 bx, .int .i64 cy]] #[], .func (.func 170) #[] #[]]) (by simp [results, Tryz.results171, go_sem, q0, q1, q2, q3, q4, q5, q6, q7, q8]) rfl ⟨rfl, hF⟩
end Go.Proofs.YtfhiiakoilkbkaaGreatDoor
