/- Walks: streams: StreamOk of the model and of the program, the law's helpers. -/
import Derived.Test.YtjkojofpkeglpabStrX
import Derived.Test.YtjkojofpkeglpabIn
import Derived.Handy
namespace Go.Proofs.Ytjkojofpkeglpab
set_option linter.unusedVariables false
set_option linter.unusedSimpArgs false
open Go.RowKit

set_option maxHeartbeats 1600000 in
set_option maxRecDepth 100000 in
theorem stateOf_any (h : Nat → Int) (w : World) : Calls Try.prog 82 #[.agg #[.int .i64 (h 0), .int .i64 (h 1), .int .i64 (h 2), .int .i64 (h 3), .int .i64 (h 4), .int .i64 (h 5), .int .i64 (h 6), .int .i64 (h 7)]] w fun e w' => e = .returned (.agg #[.int .u32 (h 0 % 4294967296), .int .u32 (h 1 % 4294967296), .int .u32 (h 2 % 4294967296), .int .u32 (h 3 % 4294967296), .int .u32 (h 4 % 4294967296), .int .u32 (h 5 % 4294967296), .int .u32 (h 6 % 4294967296), .int .u32 (h 7 % 4294967296)]) ∧ Ext w w' := by
  generalize h 0 = h0
  generalize h 1 = h1
  generalize h 2 = h2
  generalize h 3 = h3
  generalize h 4 = h4
  generalize h 5 = h5
  generalize h 6 = h6
  generalize h 7 = h7
  have i0 := ixI0
  have i1 := ixI1
  have i2 := ixI2
  have i3 := ixI3
  have i4 := ixI4
  have i5 := ixI5
  have i6 := ixI6
  have i7 := ixI7
  go_enter Try.func82, Try.ntmps82
  go_wp2
  go_rounds 9
  refine bodyPost_ret (v := .agg #[.int .u32 (h0 % 4294967296), .int .u32 (h1 % 4294967296), .int .u32 (h2 % 4294967296), .int .u32 (h3 % 4294967296), .int .u32 (h4 % 4294967296), .int .u32 (h5 % 4294967296), .int .u32 (h6 % 4294967296), .int .u32 (h7 % 4294967296)]) (by simp [results, Try.results82, go_sem]) rfl ⟨rfl, ?_⟩
  show Below _ _ _
  repeat (first | exact Below.refl _ _ | refine Below.setCell ?_ (by simp <;> omega) _ | refine Below.alloc ?_ (by simp <;> omega) _)

set_option maxHeartbeats 1600000 in
set_option maxRecDepth 100000 in
theorem words_any (h : Nat → Int) (w : World) : Calls Try.prog 84 #[.agg #[.int .u32 (h 0 % 4294967296), .int .u32 (h 1 % 4294967296), .int .u32 (h 2 % 4294967296), .int .u32 (h 3 % 4294967296), .int .u32 (h 4 % 4294967296), .int .u32 (h 5 % 4294967296), .int .u32 (h 6 % 4294967296), .int .u32 (h 7 % 4294967296)]] w fun e w' => e = .returned (.agg #[.int .i64 (h 0 % 4294967296), .int .i64 (h 1 % 4294967296), .int .i64 (h 2 % 4294967296), .int .i64 (h 3 % 4294967296), .int .i64 (h 4 % 4294967296), .int .i64 (h 5 % 4294967296), .int .i64 (h 6 % 4294967296), .int .i64 (h 7 % 4294967296)]) ∧ Ext w w' := by
  generalize h 0 = h0
  generalize h 1 = h1
  generalize h 2 = h2
  generalize h 3 = h3
  generalize h 4 = h4
  generalize h 5 = h5
  generalize h 6 = h6
  generalize h 7 = h7
  have b0 := Int.emod_nonneg h0 (show (4294967296 : Int) ≠ 0 by omega)
  have d0 := Int.emod_lt_of_pos h0 (show (0 : Int) < 4294967296 by omega)
  generalize h0 % 4294967296 = g0 at *
  have b1 := Int.emod_nonneg h1 (show (4294967296 : Int) ≠ 0 by omega)
  have d1 := Int.emod_lt_of_pos h1 (show (0 : Int) < 4294967296 by omega)
  generalize h1 % 4294967296 = g1 at *
  have b2 := Int.emod_nonneg h2 (show (4294967296 : Int) ≠ 0 by omega)
  have d2 := Int.emod_lt_of_pos h2 (show (0 : Int) < 4294967296 by omega)
  generalize h2 % 4294967296 = g2 at *
  have b3 := Int.emod_nonneg h3 (show (4294967296 : Int) ≠ 0 by omega)
  have d3 := Int.emod_lt_of_pos h3 (show (0 : Int) < 4294967296 by omega)
  generalize h3 % 4294967296 = g3 at *
  have b4 := Int.emod_nonneg h4 (show (4294967296 : Int) ≠ 0 by omega)
  have d4 := Int.emod_lt_of_pos h4 (show (0 : Int) < 4294967296 by omega)
  generalize h4 % 4294967296 = g4 at *
  have b5 := Int.emod_nonneg h5 (show (4294967296 : Int) ≠ 0 by omega)
  have d5 := Int.emod_lt_of_pos h5 (show (0 : Int) < 4294967296 by omega)
  generalize h5 % 4294967296 = g5 at *
  have b6 := Int.emod_nonneg h6 (show (4294967296 : Int) ≠ 0 by omega)
  have d6 := Int.emod_lt_of_pos h6 (show (0 : Int) < 4294967296 by omega)
  generalize h6 % 4294967296 = g6 at *
  have b7 := Int.emod_nonneg h7 (show (4294967296 : Int) ≠ 0 by omega)
  have d7 := Int.emod_lt_of_pos h7 (show (0 : Int) < 4294967296 by omega)
  generalize h7 % 4294967296 = g7 at *
  have i0 := ixU0
  have i1 := ixU1
  have i2 := ixU2
  have i3 := ixU3
  have i4 := ixU4
  have i5 := ixU5
  have i6 := ixU6
  have i7 := ixU7
  go_enter Try.func84, Try.ntmps84
  go_wp2
  go_rounds 9
  refine bodyPost_ret (v := .agg #[.int .i64 g0, .int .i64 g1, .int .i64 g2, .int .i64 g3, .int .i64 g4, .int .i64 g5, .int .i64 g6, .int .i64 g7]) (by simp [results, Try.results84, go_sem]) rfl ⟨rfl, ?_⟩
  show Below _ _ _
  repeat (first | exact Below.refl _ _ | refine Below.setCell ?_ (by simp <;> omega) _ | refine Below.alloc ?_ (by simp <;> omega) _)


/-- What StreamOk asks. -/
def StrOk (h : Nat → Int) (n : Nat) (many : Int) : Prop := (∀ i, i < 8 → 0 ≤ h i ∧ h i ≤ 4294967295) ∧ 0 ≤ many ∧ many ≤ 20000 ∧ (n : Int) = many % 64

theorem words_iff (h : Nat → Int) : (h 0 % 4294967296 == h 0 && (h 1 % 4294967296 == h 1 && (h 2 % 4294967296 == h 2 && (h 3 % 4294967296 == h 3 && (h 4 % 4294967296 == h 4 && (h 5 % 4294967296 == h 5 && (h 6 % 4294967296 == h 6 && (h 7 % 4294967296 == h 7)))))))) = true ↔ ∀ i, i < 8 → 0 ≤ h i ∧ h i ≤ 4294967295 := by
  have one : ∀ x : Int, (x % 4294967296 == x) = true ↔ 0 ≤ x ∧ x ≤ 4294967295 := fun x => by
    rw [beq_iff_eq]; omega
  simp only [Bool.and_eq_true, one]
  constructor
  · rintro ⟨h0, h1, h2, h3, h4, h5, h6, h7⟩ i hi
    have : i = 0 ∨ i = 1 ∨ i = 2 ∨ i = 3 ∨ i = 4 ∨ i = 5 ∨ i = 6 ∨ i = 7 := by omega
    rcases this with rfl | rfl | rfl | rfl | rfl | rfl | rfl | rfl <;> assumption
  · intro k
    exact ⟨k 0 (by omega), k 1 (by omega), k 2 (by omega), k 3 (by omega), k 4 (by omega), k 5 (by omega), k 6 (by omega), k 7 (by omega)⟩

set_option maxHeartbeats 3200000 in
set_option maxRecDepth 100000 in
theorem iStr_words (h : Nat → Int) (r : Option Addr) (n cap : Nat) (many : Int) (he : (h 0 % 4294967296 == h 0 && (h 1 % 4294967296 == h 1 && (h 2 % 4294967296 == h 2 && (h 3 % 4294967296 == h 3 && (h 4 % 4294967296 == h 4 && (h 5 % 4294967296 == h 5 && (h 6 % 4294967296 == h 6 && (h 7 % 4294967296 == h 7)))))))) = false) (w : World) : Calls Try.prog 81 #[.agg #[.int .i64 (h 0), .int .i64 (h 1), .int .i64 (h 2), .int .i64 (h 3), .int .i64 (h 4), .int .i64 (h 5), .int .i64 (h 6), .int .i64 (h 7), .slice r n cap, .int .i64 many]] w fun e w' => e = .returned (.bool false) ∧ Ext w w' := by
  have HS := hide (stateOf_any h)
  have HW := hide (words_any h)
  have hq := run_eqA8
  go_enter Try.func81, Try.ntmps81
  go_wp2
  obtain ⟨V, hV⟩ : ∃ V, w.alloc (.cells #[.int .i64 (h 0), .int .i64 (h 1), .int .i64 (h 2), .int .i64 (h 3), .int .i64 (h 4), .int .i64 (h 5), .int .i64 (h 6), .int .i64 (h 7), .slice r n cap, .int .i64 many] 62) = V := ⟨_, rfl⟩
  obtain ⟨B1, hE, hz⟩ := box1 w [.int .i64 (h 0), .int .i64 (h 1), .int .i64 (h 2), .int .i64 (h 3), .int .i64 (h 4), .int .i64 (h 5), .int .i64 (h 6), .int .i64 (h 7), .slice r n cap, .int .i64 many] 62 (hV ▸ Ext.refl _ : Ext (w.alloc (.cells #[.int .i64 (h 0), .int .i64 (h 1), .int .i64 (h 2), .int .i64 (h 3), .int .i64 (h 4), .int .i64 (h 5), .int .i64 (h 6), .int .i64 (h 7), .slice r n cap, .int .i64 many] 62)) V)
  simp only [hV]
  clear hV
  obtain ⟨X, hX⟩ : ∃ X : Nat → Prop, X = fun _ => False := ⟨_, rfl⟩
  have x0 : ∀ k, k < V.heap.size → ¬ X k := fun k h => by rw [hX]; exact fun e => e
  clear hX
  have k0 := cell_reC (B1 0 _ rfl).1 (x0 _ (by first | omega | (simp only; omega)))
  have k1 := cell_reC (B1 1 _ rfl).1 (x0 _ (by first | omega | (simp only; omega)))
  have k2 := cell_reC (B1 2 _ rfl).1 (x0 _ (by first | omega | (simp only; omega)))
  have k3 := cell_reC (B1 3 _ rfl).1 (x0 _ (by first | omega | (simp only; omega)))
  have k4 := cell_reC (B1 4 _ rfl).1 (x0 _ (by first | omega | (simp only; omega)))
  have k5 := cell_reC (B1 5 _ rfl).1 (x0 _ (by first | omega | (simp only; omega)))
  have k6 := cell_reC (B1 6 _ rfl).1 (x0 _ (by first | omega | (simp only; omega)))
  have k7 := cell_reC (B1 7 _ rfl).1 (x0 _ (by first | omega | (simp only; omega)))
  have k8 := cell_reC (B1 8 _ rfl).1 (x0 _ (by first | omega | (simp only; omega)))
  have k9 := cell_reC (B1 9 _ rfl).1 (x0 _ (by first | omega | (simp only; omega)))
  refine anyK_begin X 27 rfl (by kernel_rfl) ?_
  refine anyK_take 0 27 0 rfl (by decide) (by kernel_rfl) (fun _ _ d _ _ h => by cases d <;> exact h) ?_
  repeat (refine headC_step (fun K hK => ?_); go_simp; first | (refine hK _ ?_; clear hK K) | (apply Exists.intro; refine ⟨fun _ => ?_, hK _ ?_⟩; (first | (go_at_call 82; exact Calls.re_of (HS.out _)) | (go_at_call 84; exact Calls.re_of (HW.out _))); clear hK K))
  refine headC_nil ?_
  refine anyK_done (by kernel_rfl) ?_ 0
  intro w2 h2
  go_wp2
  go_ret
  exact ⟨rfl, hE.trans h2⟩

set_option maxHeartbeats 3200000 in
set_option maxRecDepth 100000 in
theorem iStr_low (h : Nat → Int) (r : Option Addr) (n cap : Nat) (many : Int) (he : (h 0 % 4294967296 == h 0 && (h 1 % 4294967296 == h 1 && (h 2 % 4294967296 == h 2 && (h 3 % 4294967296 == h 3 && (h 4 % 4294967296 == h 4 && (h 5 % 4294967296 == h 5 && (h 6 % 4294967296 == h 6 && (h 7 % 4294967296 == h 7)))))))) = true) (hm : many < 0) (w : World) : Calls Try.prog 81 #[.agg #[.int .i64 (h 0), .int .i64 (h 1), .int .i64 (h 2), .int .i64 (h 3), .int .i64 (h 4), .int .i64 (h 5), .int .i64 (h 6), .int .i64 (h 7), .slice r n cap, .int .i64 many]] w fun e w' => e = .returned (.bool false) ∧ Ext w w' := by
  have c1 : (0 ≤ many) = False := eq_false (by omega)
  have c1' : decide (0 ≤ many) = false := decide_eq_false (by omega)
  clear hm
  have HS := hide (stateOf_any h)
  have HW := hide (words_any h)
  have hq := run_eqA8
  go_enter Try.func81, Try.ntmps81
  go_wp2
  obtain ⟨V, hV⟩ : ∃ V, w.alloc (.cells #[.int .i64 (h 0), .int .i64 (h 1), .int .i64 (h 2), .int .i64 (h 3), .int .i64 (h 4), .int .i64 (h 5), .int .i64 (h 6), .int .i64 (h 7), .slice r n cap, .int .i64 many] 62) = V := ⟨_, rfl⟩
  obtain ⟨B1, hE, hz⟩ := box1 w [.int .i64 (h 0), .int .i64 (h 1), .int .i64 (h 2), .int .i64 (h 3), .int .i64 (h 4), .int .i64 (h 5), .int .i64 (h 6), .int .i64 (h 7), .slice r n cap, .int .i64 many] 62 (hV ▸ Ext.refl _ : Ext (w.alloc (.cells #[.int .i64 (h 0), .int .i64 (h 1), .int .i64 (h 2), .int .i64 (h 3), .int .i64 (h 4), .int .i64 (h 5), .int .i64 (h 6), .int .i64 (h 7), .slice r n cap, .int .i64 many] 62)) V)
  simp only [hV]
  clear hV
  obtain ⟨X, hX⟩ : ∃ X : Nat → Prop, X = fun _ => False := ⟨_, rfl⟩
  have x0 : ∀ k, k < V.heap.size → ¬ X k := fun k h => by rw [hX]; exact fun e => e
  clear hX
  have k0 := cell_reC (B1 0 _ rfl).1 (x0 _ (by first | omega | (simp only; omega)))
  have k1 := cell_reC (B1 1 _ rfl).1 (x0 _ (by first | omega | (simp only; omega)))
  have k2 := cell_reC (B1 2 _ rfl).1 (x0 _ (by first | omega | (simp only; omega)))
  have k3 := cell_reC (B1 3 _ rfl).1 (x0 _ (by first | omega | (simp only; omega)))
  have k4 := cell_reC (B1 4 _ rfl).1 (x0 _ (by first | omega | (simp only; omega)))
  have k5 := cell_reC (B1 5 _ rfl).1 (x0 _ (by first | omega | (simp only; omega)))
  have k6 := cell_reC (B1 6 _ rfl).1 (x0 _ (by first | omega | (simp only; omega)))
  have k7 := cell_reC (B1 7 _ rfl).1 (x0 _ (by first | omega | (simp only; omega)))
  have k8 := cell_reC (B1 8 _ rfl).1 (x0 _ (by first | omega | (simp only; omega)))
  have k9 := cell_reC (B1 9 _ rfl).1 (x0 _ (by first | omega | (simp only; omega)))
  refine anyK_begin X 27 rfl (by kernel_rfl) ?_
  refine anyK_take 0 27 0 rfl (by decide) (by kernel_rfl) (fun _ _ d _ _ h => by cases d <;> exact h) ?_
  repeat (refine headC_step (fun K hK => ?_); go_simp; first | (refine hK _ ?_; clear hK K) | (apply Exists.intro; refine ⟨fun _ => ?_, hK _ ?_⟩; (first | (go_at_call 82; exact Calls.re_of (HS.out _)) | (go_at_call 84; exact Calls.re_of (HW.out _))); clear hK K))
  refine headC_nil ?_
  refine anyK_done (by kernel_rfl) ?_ 0
  intro w2 h2
  go_wp2
  go_ret
  exact ⟨rfl, hE.trans h2⟩

set_option maxHeartbeats 3200000 in
set_option maxRecDepth 100000 in
theorem iStr_high (h : Nat → Int) (r : Option Addr) (n cap : Nat) (many : Int) (he : (h 0 % 4294967296 == h 0 && (h 1 % 4294967296 == h 1 && (h 2 % 4294967296 == h 2 && (h 3 % 4294967296 == h 3 && (h 4 % 4294967296 == h 4 && (h 5 % 4294967296 == h 5 && (h 6 % 4294967296 == h 6 && (h 7 % 4294967296 == h 7)))))))) = true) (hm : 20000 < many) (w : World) : Calls Try.prog 81 #[.agg #[.int .i64 (h 0), .int .i64 (h 1), .int .i64 (h 2), .int .i64 (h 3), .int .i64 (h 4), .int .i64 (h 5), .int .i64 (h 6), .int .i64 (h 7), .slice r n cap, .int .i64 many]] w fun e w' => e = .returned (.bool false) ∧ Ext w w' := by
  have c1 : 0 ≤ many := by omega
  have c2 : (many ≤ 20000) = False := eq_false (by omega)
  have c2' : decide (many ≤ 20000) = false := decide_eq_false (by omega)
  clear hm
  have HS := hide (stateOf_any h)
  have HW := hide (words_any h)
  have hq := run_eqA8
  go_enter Try.func81, Try.ntmps81
  go_wp2
  obtain ⟨V, hV⟩ : ∃ V, w.alloc (.cells #[.int .i64 (h 0), .int .i64 (h 1), .int .i64 (h 2), .int .i64 (h 3), .int .i64 (h 4), .int .i64 (h 5), .int .i64 (h 6), .int .i64 (h 7), .slice r n cap, .int .i64 many] 62) = V := ⟨_, rfl⟩
  obtain ⟨B1, hE, hz⟩ := box1 w [.int .i64 (h 0), .int .i64 (h 1), .int .i64 (h 2), .int .i64 (h 3), .int .i64 (h 4), .int .i64 (h 5), .int .i64 (h 6), .int .i64 (h 7), .slice r n cap, .int .i64 many] 62 (hV ▸ Ext.refl _ : Ext (w.alloc (.cells #[.int .i64 (h 0), .int .i64 (h 1), .int .i64 (h 2), .int .i64 (h 3), .int .i64 (h 4), .int .i64 (h 5), .int .i64 (h 6), .int .i64 (h 7), .slice r n cap, .int .i64 many] 62)) V)
  simp only [hV]
  clear hV
  obtain ⟨X, hX⟩ : ∃ X : Nat → Prop, X = fun _ => False := ⟨_, rfl⟩
  have x0 : ∀ k, k < V.heap.size → ¬ X k := fun k h => by rw [hX]; exact fun e => e
  clear hX
  have k0 := cell_reC (B1 0 _ rfl).1 (x0 _ (by first | omega | (simp only; omega)))
  have k1 := cell_reC (B1 1 _ rfl).1 (x0 _ (by first | omega | (simp only; omega)))
  have k2 := cell_reC (B1 2 _ rfl).1 (x0 _ (by first | omega | (simp only; omega)))
  have k3 := cell_reC (B1 3 _ rfl).1 (x0 _ (by first | omega | (simp only; omega)))
  have k4 := cell_reC (B1 4 _ rfl).1 (x0 _ (by first | omega | (simp only; omega)))
  have k5 := cell_reC (B1 5 _ rfl).1 (x0 _ (by first | omega | (simp only; omega)))
  have k6 := cell_reC (B1 6 _ rfl).1 (x0 _ (by first | omega | (simp only; omega)))
  have k7 := cell_reC (B1 7 _ rfl).1 (x0 _ (by first | omega | (simp only; omega)))
  have k8 := cell_reC (B1 8 _ rfl).1 (x0 _ (by first | omega | (simp only; omega)))
  have k9 := cell_reC (B1 9 _ rfl).1 (x0 _ (by first | omega | (simp only; omega)))
  refine anyK_begin X 27 rfl (by kernel_rfl) ?_
  refine anyK_take 0 27 0 rfl (by decide) (by kernel_rfl) (fun _ _ d _ _ h => by cases d <;> exact h) ?_
  repeat (refine headC_step (fun K hK => ?_); go_simp; first | (refine hK _ ?_; clear hK K) | (apply Exists.intro; refine ⟨fun _ => ?_, hK _ ?_⟩; (first | (go_at_call 82; exact Calls.re_of (HS.out _)) | (go_at_call 84; exact Calls.re_of (HW.out _))); clear hK K))
  refine headC_nil ?_
  refine anyK_done (by kernel_rfl) ?_ 0
  intro w2 h2
  go_wp2
  go_ret
  exact ⟨rfl, hE.trans h2⟩

set_option maxHeartbeats 3200000 in
set_option maxRecDepth 100000 in
theorem iStr_in (h : Nat → Int) (r : Option Addr) (n cap : Nat) (many : Int) (he : (h 0 % 4294967296 == h 0 && (h 1 % 4294967296 == h 1 && (h 2 % 4294967296 == h 2 && (h 3 % 4294967296 == h 3 && (h 4 % 4294967296 == h 4 && (h 5 % 4294967296 == h 5 && (h 6 % 4294967296 == h 6 && (h 7 % 4294967296 == h 7)))))))) = true) (hm0 : 0 ≤ many) (hm1 : many ≤ 20000) (m : Int) (hm : many % 64 = m) (w : World) : Calls Try.prog 81 #[.agg #[.int .i64 (h 0), .int .i64 (h 1), .int .i64 (h 2), .int .i64 (h 3), .int .i64 (h 4), .int .i64 (h 5), .int .i64 (h 6), .int .i64 (h 7), .slice r n cap, .int .i64 many]] w fun e w' => e = .returned (.bool ((n : Int) == m)) ∧ Ext w w' := by
  have hm' : Int.tmod many 64 = m := by rw [Int.tmod_eq_emod_of_nonneg hm0]; exact hm
  have hw : IntKind.i64.wrap m = m := by rw [IntKind.wrap_i64]; omega
  have hw' : wrap64 m = m := by unfold wrap64; omega
  have HS := hide (stateOf_any h)
  have HW := hide (words_any h)
  have hq := run_eqA8
  go_enter Try.func81, Try.ntmps81
  go_wp2
  obtain ⟨V, hV⟩ : ∃ V, w.alloc (.cells #[.int .i64 (h 0), .int .i64 (h 1), .int .i64 (h 2), .int .i64 (h 3), .int .i64 (h 4), .int .i64 (h 5), .int .i64 (h 6), .int .i64 (h 7), .slice r n cap, .int .i64 many] 62) = V := ⟨_, rfl⟩
  obtain ⟨B1, hE, hz⟩ := box1 w [.int .i64 (h 0), .int .i64 (h 1), .int .i64 (h 2), .int .i64 (h 3), .int .i64 (h 4), .int .i64 (h 5), .int .i64 (h 6), .int .i64 (h 7), .slice r n cap, .int .i64 many] 62 (hV ▸ Ext.refl _ : Ext (w.alloc (.cells #[.int .i64 (h 0), .int .i64 (h 1), .int .i64 (h 2), .int .i64 (h 3), .int .i64 (h 4), .int .i64 (h 5), .int .i64 (h 6), .int .i64 (h 7), .slice r n cap, .int .i64 many] 62)) V)
  simp only [hV]
  clear hV
  obtain ⟨X, hX⟩ : ∃ X : Nat → Prop, X = fun _ => False := ⟨_, rfl⟩
  have x0 : ∀ k, k < V.heap.size → ¬ X k := fun k h => by rw [hX]; exact fun e => e
  clear hX
  have k0 := cell_reC (B1 0 _ rfl).1 (x0 _ (by first | omega | (simp only; omega)))
  have k1 := cell_reC (B1 1 _ rfl).1 (x0 _ (by first | omega | (simp only; omega)))
  have k2 := cell_reC (B1 2 _ rfl).1 (x0 _ (by first | omega | (simp only; omega)))
  have k3 := cell_reC (B1 3 _ rfl).1 (x0 _ (by first | omega | (simp only; omega)))
  have k4 := cell_reC (B1 4 _ rfl).1 (x0 _ (by first | omega | (simp only; omega)))
  have k5 := cell_reC (B1 5 _ rfl).1 (x0 _ (by first | omega | (simp only; omega)))
  have k6 := cell_reC (B1 6 _ rfl).1 (x0 _ (by first | omega | (simp only; omega)))
  have k7 := cell_reC (B1 7 _ rfl).1 (x0 _ (by first | omega | (simp only; omega)))
  have k8 := cell_reC (B1 8 _ rfl).1 (x0 _ (by first | omega | (simp only; omega)))
  have k9 := cell_reC (B1 9 _ rfl).1 (x0 _ (by first | omega | (simp only; omega)))
  refine anyK_begin X 27 rfl (by kernel_rfl) ?_
  refine anyK_take 0 27 0 rfl (by decide) (by kernel_rfl) (fun _ _ d _ _ h => by cases d <;> exact h) ?_
  repeat (refine headC_step (fun K hK => ?_); go_simp; first | (refine hK _ ?_; clear hK K) | (apply Exists.intro; refine ⟨fun _ => ?_, hK _ ?_⟩; (first | (go_at_call 82; exact Calls.re_of (HS.out _)) | (go_at_call 84; exact Calls.re_of (HW.out _))); clear hK K))
  refine headC_nil ?_
  refine anyK_done (by kernel_rfl) ?_ 0
  intro w2 h2
  go_wp2
  go_ret
  exact ⟨rfl, hE.trans h2⟩

theorem implStreamOk_at (h : Nat → Int) (r : Option Addr) (n cap : Nat) (many : Int) (ok : Bool) (hk : ok = true ↔ StrOk h n many) (w : World) : Calls Try.prog 81 #[.agg #[.int .i64 (h 0), .int .i64 (h 1), .int .i64 (h 2), .int .i64 (h 3), .int .i64 (h 4), .int .i64 (h 5), .int .i64 (h 6), .int .i64 (h 7), .slice r n cap, .int .i64 many]] w fun e w' => e = .returned (.bool ok) ∧ Ext w w' := by
  have no : ¬ StrOk h n many → ok = false := fun q => by cases ok; rfl; exact absurd (hk.1 rfl) q
  cases he : (h 0 % 4294967296 == h 0 && (h 1 % 4294967296 == h 1 && (h 2 % 4294967296 == h 2 && (h 3 % 4294967296 == h 3 && (h 4 % 4294967296 == h 4 && (h 5 % 4294967296 == h 5 && (h 6 % 4294967296 == h 6 && (h 7 % 4294967296 == h 7))))))))
  · rw [no (fun q => by have := (words_iff h).2 q.1; rw [he] at this; cases this)]
    exact iStr_words h r n cap many he w
  by_cases m0 : 0 ≤ many
  rotate_left
  · rw [no (fun q => m0 q.2.1)]
    exact iStr_low h r n cap many he (by omega) w
  by_cases m1 : many ≤ 20000
  rotate_left
  · rw [no (fun q => m1 q.2.2.1)]
    exact iStr_high h r n cap many he (by omega) w
  have := iStr_in h r n cap many he m0 m1 _ rfl w
  rwa [show ((n : Int) == many % 64) = ok by rw [Bool.eq_iff_iff, hk, beq_iff_eq]; exact ⟨fun q => ⟨(words_iff h).1 he, m0, m1, q⟩, fun q => q.2.2.2⟩] at this

end Go.Proofs.Ytjkojofpkeglpab
