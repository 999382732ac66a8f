/- Proved: at every twisted curve and pair the law FnExactEdBytes answers true: the program's EdBytes answers as the model's, and its answer owns its memory, behind another call too; a tied card: the two tables of math/bits lie as the program's text lays them. No other condition. -/
import Derived.Test.YtcfpmillbdkpcaaDoorRows
import Derived.WalkKit
import Derived.ProofKit
import Derived.OpenShut
import Derived.ShutString
import Derived.Test.YtcfpmillbdkpcaaDoorCards
import Derived.Test.YtcfpmillbdkpcaaDoorTie
import Derived.Test.YtcfpmillbdkpcaaDoorAggsE
import Derived.Test.YtcfpmillbdkpcaaDoorBytPr
import Derived.Test.YtcfpmillbdkpcaaDoorEdL
import Derived.Test.YtcfpmillbdkpcaaDoorBLAll
import Derived.Test.YtcfpmillbdkpcaaDoorTz
import Derived.Below
import Derived.ChangeOld
import Derived.LaidMore
import Derived.Stop.Joined
import Derived.SevenTiedAt
namespace Go.Proofs.YtcfpmillbdkpcaaDoor.fnExactEdBytes
open Go.ChangeShapes Go.WideShapes Go.ChangeAt Go.RowKit
open Go.ChangeMaps (open_string shut_string)
set_option linter.unusedVariables false

theorem own : ownKnob Tryd.prog.godebug = none := by kernel_rfl

set_option maxHeartbeats 4000000 in
set_option maxRecDepth 100000 in
theorem law (P D L bx cy : Int) (a : Pr) (hP1 : P ≤ 9223372036854775807) (hL1 : L ≤ 9223372036854775807) (w : World) :
    Calls Tryd.prog 7 #[.agg #[.int .i64 P, .int .i64 D, .int .i64 L, .int .i64 bx, .int .i64 cy], .agg #[.int .i64 a.x, .int .i64 a.y]] w fun e w' => e = .returned (.bool true) ∧ Below w.heap.size w w' := by
  obtain ⟨ok, hok⟩ : ∃ ok : Bool, ok = true ↔ (EvOk P D L bx cy ∧ OnE P.toNat D a) := by
    by_cases h : EvOk P D L bx cy ∧ OnE P.toNat D a
    · exact ⟨true, fun _ => h, fun _ => rfl⟩
    · exact ⟨false, fun e => (by cases e), fun e => absurd e h⟩
  obtain ⟨M, eM⟩ : ∃ M, (if ok then 3 else 0 : Nat) = M := ⟨_, rfl⟩
  obtain ⟨F, eF⟩ : ∃ F, prByte a = F := ⟨_, rfl⟩
  have hM : M ≤ 1048576 := by
    rw [← eM]
    (repeat' split) <;> omega
  have HU : Hid (∀ w e w', GivesEB P D L bx cy a w e w' → GivesBs w M F ok e w') := by
    rintro w e w' ⟨ok', h', hg⟩
    obtain rfl : ok' = ok := by rw [Bool.eq_iff_iff, h', hok]
    rw [← eM, ← eF]
    exact hg
  have HS := hide (fun w => (specEdBytes_any P D L bx cy a w hP1 hL1).mono (HU.out w))
  have HI := hide (fun w => (implEdBytes_any P D L bx cy a w hP1 hL1).mono (HU.out w))
  clear HU hok eM eF
  go_enter Tryd.func7, Tryd.ntmps7
  go_wp2
  obtain ⟨V, hV⟩ : ∃ V, ((w.alloc (.cells #[.int .i64 P, .int .i64 D, .int .i64 L, .int .i64 bx, .int .i64 cy] 62)).alloc (.cells #[.int .i64 a.x, .int .i64 a.y] 63)) = V := ⟨_, rfl⟩
  obtain ⟨B0, B1, hE, hz⟩ := box2 w [.int .i64 P, .int .i64 D, .int .i64 L, .int .i64 bx, .int .i64 cy] [.int .i64 a.x, .int .i64 a.y] 62 63 (hV ▸ Ext.refl _ : Ext ((w.alloc (.cells #[.int .i64 P, .int .i64 D, .int .i64 L, .int .i64 bx, .int .i64 cy] 62)).alloc (.cells #[.int .i64 a.x, .int .i64 a.y] 63)) V)
  simp only [hV]
  clear hV
  obtain ⟨X, hX⟩ : ∃ X : Nat → Prop, X = fun _ => False := ⟨_, rfl⟩
  have x0 : ∀ k, k < V.heap.size → ¬ X k := fun k h => by rw [hX]; exact fun e => e
  clear hX
  have k0 := cell_reC (B0 0 _ rfl).1 (x0 _ (by first | omega | (simp only; omega)))
  have k1 := cell_reC (B0 1 _ rfl).1 (x0 _ (by first | omega | (simp only; omega)))
  have k2 := cell_reC (B0 2 _ rfl).1 (x0 _ (by first | omega | (simp only; omega)))
  have k3 := cell_reC (B0 3 _ rfl).1 (x0 _ (by first | omega | (simp only; omega)))
  have k4 := cell_reC (B0 4 _ rfl).1 (x0 _ (by first | omega | (simp only; omega)))
  have f0 := cell_reC (B1 0 _ rfl).1 (x0 _ (by first | omega | (simp only; omega)))
  have f1 := cell_reC (B1 1 _ rfl).1 (x0 _ (by first | omega | (simp only; omega)))
  refine anyK_begin X 10 rfl (by kernel_rfl) ?_
  refine anyK_take 0 4 6 rfl (by decide) (by kernel_rfl) (fun _ _ d _ _ h => by cases d <;> exact h) ?_
  repeat (refine headC_step (fun K hK => ?_); go_simp; first | (refine hK _ ?_; clear hK K) | (apply Exists.intro; refine ⟨fun _ => ?_, hK _ ?_⟩; (first | (go_at_call 34; exact Calls.re_of (toEd_any _ _ _ _ _ _)) | (go_at_call 35; exact Calls.re_of (toPair_any _ _ _))); clear hK K))
  refine headC_nil ?_
  clear k0 k1 k2 k3 k4 f0 f1
  refine anyK_one 4 (by kernel_rfl) ?_
  refine stepK_run rfl ?_
  intro w1a hw1a K hK
  go_simp
  refine (HS.out _).mono ?_
  rintro e w1b ⟨aw1, gw1, capw1, rfl, hgw1, hOw1, hbw1, -, -⟩
  have hxw1 : Ext V w1b := Ext.trans hw1a hbw1
  have hsw1 : V.heap.size ≤ gw1 := Nat.le_trans (Below.size hw1a) hgw1
  go_simp
  refine hK _ _ (.of_ext hxw1) ?_
  clear hK K hw1a hbw1 hgw1
  refine anyK_take 5 5 0 rfl (by decide) (by kernel_rfl) (fun _ _ d _ _ h => by cases d <;> exact h) ?_
  repeat (refine headC_step (fun K hK => ?_); go_simp; first | (refine hK _ ?_; clear hK K) | (apply Exists.intro; refine ⟨fun _ => ?_, hK _ ?_⟩; (fail); clear hK K))
  refine headC_nil ?_
  refine anyK_done (by kernel_rfl) ?_ 0
  intro w1 hyw1
  clear x0 X
  have Xw1 : Ext V w1 := Ext.trans hxw1 hyw1
  replace hOw1 := hOw1.of_all hyw1
  clear hxw1 hyw1
  replace B0 := B0.ext Xw1 (by omega)
  replace B1 := B1.ext Xw1 (by omega)
  replace hE := hE.trans Xw1
  have z1 : w.heap.size + 2 ≤ w1.heap.size := Nat.le_trans hz (Below.size Xw1)
  clear Xw1 hsw1 hz
  go_wp2
  obtain ⟨X, hX⟩ : ∃ X : Nat → Prop, X = fun _ => False := ⟨_, rfl⟩
  have x0 : ∀ k, k < w1.heap.size → ¬ X k := fun k h => by rw [hX]; exact fun e => e
  clear hX
  have k0 := cell_reC (B0 0 _ rfl).1 (x0 _ (by first | omega | (simp only; omega)))
  have k1 := cell_reC (B0 1 _ rfl).1 (x0 _ (by first | omega | (simp only; omega)))
  have k2 := cell_reC (B0 2 _ rfl).1 (x0 _ (by first | omega | (simp only; omega)))
  have k3 := cell_reC (B0 3 _ rfl).1 (x0 _ (by first | omega | (simp only; omega)))
  have k4 := cell_reC (B0 4 _ rfl).1 (x0 _ (by first | omega | (simp only; omega)))
  have f0 := cell_reC (B1 0 _ rfl).1 (x0 _ (by first | omega | (simp only; omega)))
  have f1 := cell_reC (B1 1 _ rfl).1 (x0 _ (by first | omega | (simp only; omega)))
  refine anyK_begin X 10 rfl (by kernel_rfl) ?_
  refine anyK_take 0 4 6 rfl (by decide) (by kernel_rfl) (fun _ _ d _ _ h => by cases d <;> exact h) ?_
  repeat (refine headC_step (fun K hK => ?_); go_simp; first | (refine hK _ ?_; clear hK K) | (apply Exists.intro; refine ⟨fun _ => ?_, hK _ ?_⟩; (first | (go_at_call 34; exact Calls.re_of (toEd_any _ _ _ _ _ _)) | (go_at_call 35; exact Calls.re_of (toPair_any _ _ _))); clear hK K))
  refine headC_nil ?_
  clear k0 k1 k2 k3 k4 f0 f1
  refine anyK_one 4 (by kernel_rfl) ?_
  refine stepK_run rfl ?_
  intro w2a hw2a K hK
  go_simp
  refine (HI.out _).mono ?_
  rintro e w2b ⟨aw2, gw2, capw2, rfl, hgw2, hOw2, hbw2, -, -⟩
  have hxw2 : Ext w1 w2b := Ext.trans hw2a hbw2
  have hsw2 : w1.heap.size ≤ gw2 := Nat.le_trans (Below.size hw2a) hgw2
  go_simp
  refine hK _ _ (.of_ext hxw2) ?_
  clear hK K hw2a hbw2 hgw2
  refine anyK_take 5 5 0 rfl (by decide) (by kernel_rfl) (fun _ _ d _ _ h => by cases d <;> exact h) ?_
  repeat (refine headC_step (fun K hK => ?_); go_simp; first | (refine hK _ ?_; clear hK K) | (apply Exists.intro; refine ⟨fun _ => ?_, hK _ ?_⟩; (fail); clear hK K))
  refine headC_nil ?_
  refine anyK_done (by kernel_rfl) ?_ 0
  intro w2 hyw2
  clear x0 X
  have Xw2 : Ext w1 w2 := Ext.trans hxw2 hyw2
  replace hOw2 := hOw2.of_all hyw2
  clear hxw2 hyw2
  have z2 : w1.heap.size ≤ w2.heap.size := Below.size Xw2
  have lt1 : 0 < M → gw1 < w1.heap.size := fun h => hOw1.lt h
  replace hOw1 := hOw1.of_all Xw2
  replace B0 := B0.ext Xw2 (by omega)
  replace B1 := B1.ext Xw2 (by omega)
  replace hE := hE.trans Xw2
  clear Xw2
  go_wp2_with fail
  refine (eqByteS_any aw2 gw2 0 M capw2 F aw1 gw1 0 M capw1 F _ hOw2.toBSeg hOw1.toBSeg hM).mono ?_
  rintro e w3 ⟨rfl, qw3, rfl⟩
  rw [alike_refl]
  have hokk : (ok != ok) = false := by simp
  have D3 : Ext w2 (w2.drewN qw3) := below_drewN (Below.refl _ _) qw3
  replace B0 := B0.ext D3 (by omega)
  replace B1 := B1.ext D3 (by omega)
  replace hE := hE.trans D3
  have z3 : w1.heap.size ≤ (w2.drewN qw3).heap.size := Nat.le_trans z2 (Below.size D3)
  replace hOw1 := hOw1.of_all D3
  replace hOw2 := hOw2.of_all D3
  clear D3 z2
  generalize w2.drewN qw3 = w3 at *
  go_wp2_with fail
  refine (markByteS_any aw2 gw2 0 M capw2 F 1 _ hOw2 hM (by omega) (by omega)).mono ?_
  rintro e w4 ⟨rfl, hO4, hT'⟩
  have s4 := hOw1.touch hT' (fun h => by have := lt1 h; omega)
  have b4 : Below w1.heap.size w3 w4 := below_touch (Below.refl _ _) hT' hsw2
  replace B0 := B0.below b4 (by omega)
  replace B1 := B1.below b4 (by omega)
  replace hE : Ext w w4 := Below.trans (show Below w.heap.size w w3 from hE) (b4.mono (by omega))
  have z4 : w1.heap.size ≤ w4.heap.size := Nat.le_trans z3 hT'.grown.size
  clear z3 hOw1 hOw2 hT' b4
  go_wp2_with fail
  refine (heldByteS_any aw2 gw2 0 M capw2 1 _ hO4.toBSeg hM (by omega) (by omega)).mono ?_
  rintro e w5 ⟨rfl, hw5⟩
  obtain rfl := hw5.symm
  have hp : ¬ (1 + (M : Int) < 0) := by omega
  go_wp2
  obtain ⟨X, hX⟩ : ∃ X : Nat → Prop, X = fun _ => False := ⟨_, rfl⟩
  have x0 : ∀ k, k < w4.heap.size → ¬ X k := fun k h => by rw [hX]; exact fun e => e
  clear hX
  have k0 := cell_reC (B0 0 _ rfl).1 (x0 _ (by first | omega | (simp only; omega)))
  have k1 := cell_reC (B0 1 _ rfl).1 (x0 _ (by first | omega | (simp only; omega)))
  have k2 := cell_reC (B0 2 _ rfl).1 (x0 _ (by first | omega | (simp only; omega)))
  have k3 := cell_reC (B0 3 _ rfl).1 (x0 _ (by first | omega | (simp only; omega)))
  have k4 := cell_reC (B0 4 _ rfl).1 (x0 _ (by first | omega | (simp only; omega)))
  have f0 := cell_reC (B1 0 _ rfl).1 (x0 _ (by first | omega | (simp only; omega)))
  have f1 := cell_reC (B1 1 _ rfl).1 (x0 _ (by first | omega | (simp only; omega)))
  refine anyK_begin X 10 rfl (by kernel_rfl) ?_
  refine anyK_take 0 4 6 rfl (by decide) (by kernel_rfl) (fun _ _ d _ _ h => by cases d <;> exact h) ?_
  repeat (refine headC_step (fun K hK => ?_); go_simp; first | (refine hK _ ?_; clear hK K) | (apply Exists.intro; refine ⟨fun _ => ?_, hK _ ?_⟩; (first | (go_at_call 34; exact Calls.re_of (toEd_any _ _ _ _ _ _)) | (go_at_call 35; exact Calls.re_of (toPair_any _ _ _))); clear hK K))
  refine headC_nil ?_
  clear k0 k1 k2 k3 k4 f0 f1
  refine anyK_one 4 (by kernel_rfl) ?_
  refine stepK_run rfl ?_
  intro w6a hw6a K hK
  go_simp
  refine (HI.out _).mono ?_
  rintro e w6b ⟨aw6, gw6, capw6, rfl, hgw6, hOw6, hbw6, -, -⟩
  have hxw6 : Ext w4 w6b := Ext.trans hw6a hbw6
  have hsw6 : w4.heap.size ≤ gw6 := Nat.le_trans (Below.size hw6a) hgw6
  go_simp
  refine hK _ _ (.of_ext hxw6) ?_
  clear hK K hw6a hbw6 hgw6
  refine anyK_take 5 5 0 rfl (by decide) (by kernel_rfl) (fun _ _ d _ _ h => by cases d <;> exact h) ?_
  repeat (refine headC_step (fun K hK => ?_); go_simp; first | (refine hK _ ?_; clear hK K) | (apply Exists.intro; refine ⟨fun _ => ?_, hK _ ?_⟩; (fail); clear hK K))
  refine headC_nil ?_
  refine anyK_done (by kernel_rfl) ?_ 0
  intro w6 hyw6
  clear x0 X
  have Xw6 : Ext w4 w6 := Ext.trans hxw6 hyw6
  replace hOw6 := hOw6.of_all hyw6
  clear hxw6 hyw6
  replace s4 := s4.of_all Xw6
  replace hO4 := hO4.of_all Xw6
  replace hE := hE.trans Xw6
  clear Xw6
  go_wp2_with fail
  refine (eqByteS_any aw6 gw6 0 M capw6 F aw1 gw1 0 M capw1 F _ hOw6.toBSeg s4.toBSeg hM).mono ?_
  rintro e w7 ⟨rfl, q, rfl⟩
  rw [alike_refl]
  go_wp2_with fail
  refine (heldByteS_any aw2 gw2 0 M capw2 1 _ (hO4.toBSeg.of_all (below_drewN (Below.refl _ _) q)) hM (by omega) (by omega)).mono ?_
  rintro e w8 ⟨rfl, hw⟩
  obtain rfl := hw.symm
  go_wp2
  go_ret
  exact ⟨rfl, below_drewN hE q⟩

theorem walk (a0_0 a0_1 a0_2 a0_3 a0_4 : Int) (a1_0 a1_1 : Int) (w : World) (w0_0 : (Lit.int .i64 a0_0).wf = true) (w0_1 : (Lit.int .i64 a0_1).wf = true) (w0_2 : (Lit.int .i64 a0_2).wf = true) (w0_3 : (Lit.int .i64 a0_3).wf = true) (w0_4 : (Lit.int .i64 a0_4).wf = true) (w1_0 : (Lit.int .i64 a1_0).wf = true) (w1_1 : (Lit.int .i64 a1_1).wf = true) (hT : Tab w) :
    Calls Tryd.prog 7 #[.agg #[.int .i64 a0_0, .int .i64 a0_1, .int .i64 a0_2, .int .i64 a0_3, .int .i64 a0_4], .agg #[.int .i64 a1_0, .int .i64 a1_1]] w fun e w' => e = .returned (.bool true) ∧ Below w.heap.size w w' := by
  exact law a0_0 a0_1 a0_2 a0_3 a0_4 ⟨a1_0, a1_1⟩ (by have := bounds_i64 w0_0; omega) (by have := bounds_i64 w0_2; omega) w

theorem laidL : Rows.fnExactEdBytesRow.laid = [("math/bits.deBruijn32tab", Rows.laid_math_bits_deBruijn32tab), ("math/bits.deBruijn64tab", Rows.laid_math_bits_deBruijn64tab)] := rfl

theorem g_math_bits_deBruijn32tab : Tryd.prog.globalNamed "math/bits.deBruijn32tab" = some 0 := by kernel_rfl
theorem t_math_bits_deBruijn32tab : (Tryd.prog.globals[0]?).map (·.type) = some 150 := by kernel_rfl
theorem g_math_bits_deBruijn64tab : Tryd.prog.globalNamed "math/bits.deBruijn64tab" = some 1 := by kernel_rfl
theorem t_math_bits_deBruijn64tab : (Tryd.prog.globals[1]?).map (·.type) = some 151 := by kernel_rfl

/-- The door's own heap meets the condition. -/
theorem door_met (os : Os) (args : Array Value) : laidMetH Tryd.prog [("math/bits.deBruijn32tab", Rows.laid_math_bits_deBruijn32tab), ("math/bits.deBruijn64tab", Rows.laid_math_bits_deBruijn64tab)] ((World.doorLaid Tryd.prog 400 os).forCall (fun _ _ => 0) ⟨#[], args, []⟩).memory :=
  laidMetH_of_parts3 (fuel := 8) (laidMet_of_run' 8 (by kernel_rfl) (by kernel_rfl)) (by kernel_rfl) (by kernel_rfl)

set_option maxRecDepth 100000 in
/-- What the condition gives the walks: the table's cells. -/
theorem of_laid {W : World} (h : laidMetH Tryd.prog [("math/bits.deBruijn32tab", Rows.laid_math_bits_deBruijn32tab), ("math/bits.deBruijn64tab", Rows.laid_math_bits_deBruijn64tab)] W) : Tab W := by
  rw [MakeChecks.laidMetH_plain _ _ _ (by kernel_rfl)] at h
  obtain ⟨ps, ⟨g0, t0, cs0, f0, p0, q0, hg0, ht0, hv0, hd0, ⟨g1, t1, cs1, f1, p1, q1, hg1, ht1, hv1, hd1, _, _⟩, _⟩, _, _⟩ := h
  obtain rfl := Option.some.inj (g_math_bits_deBruijn64tab.symm.trans hg1)
  obtain rfl := Option.some.inj (t_math_bits_deBruijn64tab.symm.trans ht1)
  obtain ⟨xs, m1, rfl, hx1, hlen, hn3, hel⟩ := DataW.trod_array Tryd.underlying151 hd1
  have c5 : Tryd.prog.cellsOf 5 = 1 := by kernel_rfl
  simp only [Prod.mk.injEq] at hx1
  have hxs : xs.map (·.1) = (Lib.deBruijn64tab.map fun (z : Nat) => (.lit (.int .u8 (z : Int)) : DataW Unit)) := by
    have e : (Rows.laid_math_bits_deBruijn64tab : DataW Unit) = .agg (Lib.deBruijn64tab.map fun (z : Nat) => (.lit (.int .u8 (z : Int)) : DataW Unit)) := rfl
    have h2 := hx1.1
    rw [e] at h2
    injection h2 with h3
    exact h3.symm
  intro j hj
  have h0 := hel j hj
  obtain ⟨y, hy⟩ : ∃ y, xs[j]? = some y := ⟨xs[j]'(by omega), List.getElem?_eq_getElem _⟩
  rw [hy] at h0
  obtain ⟨k, e1, e2, _⟩ := DataW.trod_int Tryd.underlying5 h0
  rw [c5, Nat.mul_one] at e1
  have hcell := World.var?_cell hg1 hv1 j
  have e3 : cs1[j]? = some (.int .u8 k) := by
    have : (cs1.toList.drop j)[0]? = some (.int .u8 k) := by
      have h4 := congrArg (fun l => l[0]?) e1
      simpa [List.getElem?_take] using h4
    simpa using this
  rw [hcell, e3]
  have e4 : (xs.map (·.1))[j]? = some y.1 := by simp [hy]
  rw [hxs, e2] at e4
  have hl : Lib.deBruijn64tab.length = 64 := by decide
  simp only [List.getElem?_map] at e4
  cases h6 : Lib.deBruijn64tab[j]? with
  | none => rw [h6] at e4; simp at e4
  | some z =>
    rw [h6] at e4
    simp only [Option.map_some, Option.some.injEq, DataW.lit.injEq, Lit.int.injEq, true_and] at e4
    rw [← e4, List.getD_eq_getElem?_getD, h6]
    rfl

/-! ### THE ROW's STEP -/
set_option maxRecDepth 100000 in
theorem lifted (os : Os) (started : os.Started) (H : Type) (enc : TypeId × Value → H) :
    ReturnsInHanded {} Tryd.checked os 7 .any (fun w args => (Rows.fnExactEdBytesSpec.pre enc Tryd.prog Tryd.f7 [] false w args ∧ laidMetH Tryd.prog [("math/bits.deBruijn32tab", Rows.laid_math_bits_deBruijn32tab), ("math/bits.deBruijn64tab", Rows.laid_math_bits_deBruijn64tab)] w) ∧ sizedMet enc Tryd.prog Tryd.f7 (OpenSpec.ofChange Rows.fnExactEdBytesSpec) false w args)
      (Rows.fnExactEdBytesSpec.post enc Tryd.prog Tryd.f7 false true false false) := by
  refine returnsInHanded_of_change_and (C := Tryd.checked) (X := fun w _ => laidMetH Tryd.prog [("math/bits.deBruijn32tab", Rows.laid_math_bits_deBruijn32tab), ("math/bits.deBruijn64tab", Rows.laid_math_bits_deBruijn64tab)] w) (fun _ _ _ hh h => h.of_heap hh) own started (by kernel_rfl) Tryd.func7
    (ChangeSpec.witness_shaped (enc := enc) (C := Tryd.checked) (os := os) (X := fun w _ => laidMetH Tryd.prog [("math/bits.deBruijn32tab", Rows.laid_math_bits_deBruijn32tab), ("math/bits.deBruijn64tab", Rows.laid_math_bits_deBruijn64tab)] w) false (World.doorLaid Tryd.prog 400 os) #[.agg #[.int .i64 0, .int .i64 0, .int .i64 0, .int .i64 0, .int .i64 0], .agg #[.int .i64 0, .int .i64 0]] 8 rfl (World.shaped_of_RefB (by kernel_rfl) (by kernel_rfl)) (by kernel_rfl) (by kernel_rfl) (by kernel_rfl) (door_met os _)) ?_
  intro W base args ds gs before hval0 hW _ _ hL _
  have hval : ∀ (j : Nat) t v, Tryd.f7.params[j]? = some t → args[j]? = some v → Value.okWide Tryd.prog W .any base t v := hval0
  have hW' := hW
  obtain ⟨p, q, hA0, hV, rfl, hfz, hnd⟩ := hW
  have hA : DataW.TrodAll enc Tryd.prog W 0 (fun _ => true) true Tryd.f7.params.toList args.toList ds p := hA0
  rw [Tryd.params7] at hA hval
  obtain ⟨v0, vs0, d0, ds0, p0, q0, hargs, rfl, rfl, h0, r0⟩ := trodAll_cons hA
  obtain ⟨v1, vs1, d1, ds1, p1, q1, rfl, rfl, rfl, h1, r1⟩ := trodAll_cons r0
  obtain ⟨rfl, rfl, rfl⟩ := trodAll_nil r1
  obtain rfl : args = #[v0, v1] := by cases args; simp_all
  obtain ⟨rfl, rfl⟩ := trodVars_none hV
  obtain ⟨a0_0, a0_1, a0_2, a0_3, a0_4, rfl, rfl, rfl, w0_0, w0_1, w0_2, w0_3, w0_4⟩ := open_ed (hval 0 62 v0 rfl rfl) h0
  obtain ⟨a1_0, a1_1, rfl, rfl, rfl, w1_0, w1_1⟩ := open_pair (hval 1 63 v1 rfl rfl) h1
  clear hA0 hval0
  have hTab := of_laid hL
  refine (walk a0_0 a0_1 a0_2 a0_3 a0_4 a1_0 a1_1 W w0_0 w0_1 w0_2 w0_3 w0_4 w1_0 w1_1 hTab).mono fun e W' ⟨he, hg⟩ => ?_
  subst he
  exact ⟨_, rfl, _, _, _, [], _, [], hW', (trodAll_cons_mk (shut_bool Tryd.underlying4 _) trodAll_mk0), (trodAll_cons_mk (shut_ed w0_0 w0_1 w0_2 w0_3 w0_4) (trodAll_cons_mk (shut_pair w1_0 w1_1) trodAll_mk0)), rfl, hg.frame _, fun h => by cases h⟩

theorem over : Rows.fnExactEdBytesRow.holds Tryd.pinned (OpenSpec.ofChange Rows.fnExactEdBytesSpec) :=
  OpenClaim.holds_of_wide 7 Tryd.f7 rfl rfl rfl rfl rfl rfl rfl ⟨rfl, rfl, rfl, rfl, rfl⟩ rfl rfl rfl rfl rfl (by kernel_rfl) Tryd.func7 (by kernel_rfl)
    (of_decide_eq_true (by kernel_rfl)) (by unfold Func.isWrapper; first | (rw [if_pos (by decide +kernel)]; kernel_rfl) | (rw [if_neg (by decide +kernel)]; exact ⟨rfl, rfl⟩))
    (fun os started H enc _ => lifted os started H enc)

theorem proved : Rows.FnExactEdBytesSaid :=
  over
end Go.Proofs.YtcfpmillbdkpcaaDoor.fnExactEdBytes

namespace Go.Proofs.YtcfpmillbdkpcaaDoor
/-- The given statement: the tied card. -/
theorem fnExactEdBytes_holds : Rows.FnExactEdBytesCardSaid :=
  Claim7.holds_tied_plain_at .later [] [.data, .data] true (true, "25a62ed51089c22e423a4319e082d636c49192e0c4575145cc2ac4d339ffa0b5") true
    fnExactEdBytes.proved (fun _ h => by cases h) (by kernel_rfl) (fun _ h => by cases h) fnExactEdBytes_row_tie rfl ⟨rfl, rfl⟩ (by kernel_rfl) rfl
    (fun f fn hf hfn => by
      obtain rfl : f = 7 := Option.some.inj ((show Tryd.prog.funcNamed "loop.example/g00148/laws.FnExactEdBytes" = some 7 by kernel_rfl).symm.trans hf) |>.symm
      obtain rfl : fn = Tryd.f7 := (Option.some.inj (Tryd.func7.symm.trans hfn)).symm
      exact ⟨by kernel_rfl, fun j t ht => by
        rw [Tryd.params7] at ht
        have hm : t ∈ [62, 63] := by have := Array.mem_of_getElem? ht; simpa using this
        have hall : ([62, 63].all fun u => !Tryd.prog.wantsStandIn u) = true := by kernel_rfl
        exact (show Tryd.prog.wantsStandIn t = false by simpa using List.all_eq_true.1 hall t hm)⟩)
    (by kernel_rfl)
#print axioms fnExactEdBytes_holds
end Go.Proofs.YtcfpmillbdkpcaaDoor
