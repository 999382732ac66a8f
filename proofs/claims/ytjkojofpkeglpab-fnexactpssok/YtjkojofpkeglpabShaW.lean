/- Walks: the program's firstStream, Sha, Short. -/
import Derived.Test.YtjkojofpkeglpabShaV
namespace Go.Proofs.Ytjkojofpkeglpab
set_option linter.unusedVariables false
set_option linter.unusedSimpArgs false
open Go.RowKit

theorem firstV_mod (i : Nat) (hi : i < 8) : firstV i % 4294967296 = firstV i := by
  have := firstV_bound i hi
  omega

set_option maxHeartbeats 1600000 in
set_option maxRecDepth 100000 in
theorem firstStream_any (w : World) : Calls Try.prog 48 #[] w fun e w' => e = .returned (.agg #[.int .i64 (firstV 0), .int .i64 (firstV 1), .int .i64 (firstV 2), .int .i64 (firstV 3), .int .i64 (firstV 4), .int .i64 (firstV 5), .int .i64 (firstV 6), .int .i64 (firstV 7), .slice none 0 0, .int .i64 0]) ∧ Ext w w' := by
  have HW : Hid (∀ w, Calls Try.prog 84 #[.agg firstC.toArray] w fun e w' => e = .returned (.agg #[.int .i64 (firstV 0), .int .i64 (firstV 1), .int .i64 (firstV 2), .int .i64 (firstV 3), .int .i64 (firstV 4), .int .i64 (firstV 5), .int .i64 (firstV 6), .int .i64 (firstV 7)]) ∧ Ext w w') := hide (fun w => by
    have := words_any firstV w
    rw [firstV_mod 0 (by omega), firstV_mod 1 (by omega), firstV_mod 2 (by omega), firstV_mod 3 (by omega), firstV_mod 4 (by omega), firstV_mod 5 (by omega), firstV_mod 6 (by omega), firstV_mod 7 (by omega)] at this
    exact this)
  go_enter Try.func48, Try.ntmps48
  go_wp2_with fail
  refine (madeConstants_any _).mono ?_
  rintro e w1 ⟨rfl, h1⟩
  obtain ⟨V, hV⟩ : ∃ V, w.alloc (.cells #[.int .i64 0, .int .i64 0, .int .i64 0, .int .i64 0, .int .i64 0, .int .i64 0, .int .i64 0, .int .i64 0, .slice none 0 0, .int .i64 0] 62) = V := ⟨_, rfl⟩
  obtain ⟨B1, hE, hz⟩ := box1 w [.int .i64 0, .int .i64 0, .int .i64 0, .int .i64 0, .int .i64 0, .int .i64 0, .int .i64 0, .int .i64 0, .slice none 0 0, .int .i64 0] 62 (hV ▸ Ext.refl _ : Ext _ V)
  simp only [hV] at h1
  clear hV
  rename_i hKK
  apply hKK
  clear hKK
  refine wpList_step (by kernel_rfl) (wp_value (v := .agg firstC.toArray) (w' := w1) (by kernel_rfl) ?_)
  generalize Value.agg conC.toArray = ZC
  generalize Value.agg firstC.toArray = ZF at *
  go_wp2_with fail
  refine (HW.out _).mono ?_
  rintro e w2 ⟨rfl, h2⟩
  have B2 := B1.ext (h1.trans h2) (by omega)
  have hE2 := (hE.trans h1).trans h2
  clear B1 hE h1 h2 HW
  obtain ⟨c0, f0⟩ := B2 0 _ rfl
  obtain ⟨c1, f1⟩ := B2 1 _ rfl
  obtain ⟨c2, f2⟩ := B2 2 _ rfl
  obtain ⟨c3, f3⟩ := B2 3 _ rfl
  obtain ⟨c4, f4⟩ := B2 4 _ rfl
  obtain ⟨c5, f5⟩ := B2 5 _ rfl
  obtain ⟨c6, f6⟩ := B2 6 _ rfl
  obtain ⟨c7, f7⟩ := B2 7 _ rfl
  obtain ⟨c8, f8⟩ := B2 8 _ rfl
  obtain ⟨c9, f9⟩ := B2 9 _ rfl
  have HB := hide B2
  have HE := hide hE2
  clear B2 hE2
  go_wp2
  have BR := HB.out.put [.int .i64 (firstV 0), .int .i64 (firstV 1), .int .i64 (firstV 2), .int .i64 (firstV 3), .int .i64 (firstV 4), .int .i64 (firstV 5), .int .i64 (firstV 6), .int .i64 (firstV 7), .slice none 0 0, .int .i64 0] rfl
  have hW := HE.out.putL (C := w.heap.size) (by omega) [.int .i64 (firstV 0), .int .i64 (firstV 1), .int .i64 (firstV 2), .int .i64 (firstV 3), .int .i64 (firstV 4), .int .i64 (firstV 5), .int .i64 (firstV 6), .int .i64 (firstV 7), .slice none 0 0, .int .i64 0]
  simp only [putL] at BR hW
  generalize World.setCell _ ⟨w.heap.size, 9, none⟩ _ = WE at *
  have hl := run_load10 _ rfl _ _ (fun j v h => (BR j v h).1)
  refine bodyPost_ret (v := .agg #[.int .i64 (firstV 0), .int .i64 (firstV 1), .int .i64 (firstV 2), .int .i64 (firstV 3), .int .i64 (firstV 4), .int .i64 (firstV 5), .int .i64 (firstV 6), .int .i64 (firstV 7), .slice none 0 0, .int .i64 0]) ?_ rfl ⟨rfl, hW⟩
  exact results_cell Try.results48 rfl hl

/-- What Sha tells: the state's bytes. -/
def shaF (fd : Nat → Int) (m : Nat) : Nat → Int := stB (endV (fun i => blocksV firstV fd (m / 64) i % 4294967296) (fun i => fd (64 * (m / 64) + i)) (m % 64) m)

end Go.Proofs.Ytjkojofpkeglpab
