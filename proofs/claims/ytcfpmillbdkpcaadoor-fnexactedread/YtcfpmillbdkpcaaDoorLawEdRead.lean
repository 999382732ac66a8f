/- Proved: at every twisted curve and every list of bytes the law FnExactEdRead answers true: the program's EdRead answers as the model's at every list of at most 1048576 bytes and writes into none (beyond that length the law itself answers true at once); a tied card: the two tables of math/bits lie as the program's text lays them. No other condition. -/
import Derived.Test.YtcfpmillbdkpcaaDoorRows
import Derived.WalkKit
import Derived.ProofKit
import Derived.OpenShut
import Derived.ShutString
import Derived.Test.YtcfpmillbdkpcaaDoorCards
import Derived.Test.YtcfpmillbdkpcaaDoorTie
import Derived.Test.YtcfpmillbdkpcaaDoorAggsE
import Derived.Test.YtcfpmillbdkpcaaDoorBytPr
import Derived.Test.YtcfpmillbdkpcaaDoorEdL
import Derived.Test.YtcfpmillbdkpcaaDoorBLAll
import Derived.Test.YtcfpmillbdkpcaaDoorTz
import Derived.Below
import Derived.ChangeOld
import Derived.LaidMore
import Derived.Stop.Joined
import Derived.SevenTiedAt
import Derived.Carry
import Derived.Handed
namespace Go.Proofs.YtcfpmillbdkpcaaDoor.fnExactEdRead
open Go.ChangeShapes Go.WideShapes Go.ChangeAt Go.RowKit
open Go.ChangeMaps (open_string shut_string)
set_option linter.unusedVariables false

theorem own : ownKnob Tryd.prog.godebug = none := by kernel_rfl
theorem laidOut : laidOutB Tryd.prog = true := by kernel_rfl

/-- A slice of integers that came in: nil, or a row of cap cells, the numbers zs. -/
def IsRow (k : IntKind) (w : World) (a : Option Addr) (len cap : Nat) (zs : List Int) : Prop :=
  (a = none ∧ len = 0 ∧ cap = 0 ∧ zs = []) ∨
  ∃ x, a = some x ∧ len ≤ cap ∧ cap ≤ maxLen ∧ zs.length = cap ∧ (∀ i, i < zs.length → w.cell? (x.add i) = some (.int k (zs.getD i 0))) ∧ ∀ n ∈ zs, (Lit.int k n).wf = true

theorem row_bseg {w : World} {a : Option Addr} {len cap : Nat} {zs : List Int} (h : IsRow .u8 w a len cap zs) : ∃ b off, BSeg w a b off len (fun i => zs.getD i 0) ∧ (∀ i, i < len → 0 ≤ zs.getD i 0 ∧ zs.getD i 0 ≤ 255) ∧ len ≤ cap := by
  rcases h with ⟨rfl, rfl, rfl, rfl⟩ | ⟨x, rfl, hl, hm, hz, hcell, hwz⟩
  · exact ⟨0, 0, ⟨fun h => absurd h (Nat.lt_irrefl _), fun i hi => absurd hi (Nat.not_lt_zero _)⟩, fun i hi => absurd hi (Nat.not_lt_zero _), Nat.le_refl _⟩
  · obtain ⟨b, off, spot⟩ := x
    have hbd : ∀ i, i < len → 0 ≤ zs.getD i 0 ∧ zs.getD i 0 ≤ 255 := fun i hi => by
      have hm : zs.getD i 0 ∈ zs := by
        rw [List.getD_eq_getElem?_getD, List.getElem?_eq_getElem (show i < zs.length by omega)]
        exact List.getElem_mem _
      have := bounds_u8 (hwz _ hm)
      show 0 ≤ zs.getD i 0 ∧ zs.getD i 0 ≤ 255
      omega
    by_cases h0 : len = 0
    · subst h0
      exact ⟨0, 0, ⟨fun h => absurd h (Nat.lt_irrefl _), fun i hi => absurd hi (Nat.not_lt_zero _)⟩, hbd, hl⟩
    · have hspot : spot = none := by simpa [Addr.add] using World.cell?_spot (hcell 0 (by omega))
      subst hspot
      exact ⟨b, off, ⟨fun _ => rfl, fun i hi => by
        have h := hcell i (by omega)
        have e : Addr.add ⟨b, off, none⟩ i = ⟨b, off + i, none⟩ := by
          by_cases h0 : i = 0
          · subst h0; simp [Addr.add]
          · simp [Addr.add, h0]
        rwa [e] at h⟩, hbd, hl⟩

set_option maxHeartbeats 3200000 in
set_option maxRecDepth 100000 in
theorem law (P D L bx cy : Int) (a : Option Addr) (b off n cap : Nat) (f : Nat → Int) (hP1 : P ≤ 9223372036854775807) (hL1 : L ≤ 9223372036854775807) (w : World) (hT : Tab w) (hs : BSeg w a b off n f) (hr : ∀ i, i < n → 0 ≤ f i ∧ f i ≤ 255) (hn : n ≤ 1048576) :
    Calls Tryd.prog 8 #[.agg #[.int .i64 P, .int .i64 D, .int .i64 L, .int .i64 bx, .int .i64 cy], .slice a n cap] w fun e w' => e = .returned (.bool true) ∧ Below w.heap.size w w' := by
  obtain ⟨c, ok, hA⟩ := optRdE_some P D L bx cy n f
  have HS : Hid (∀ W g, BSeg W (some ⟨g, 0, none⟩) g 0 n f → Calls Tryd.prog 36 #[.agg #[.int .i64 P, .int .i64 D, .int .i64 L, .int .i64 bx, .int .i64 cy], .slice (some ⟨g, 0, none⟩) n n] W fun r w' => r = .returned (.tuple #[.agg #[.int .i64 c.x, .int .i64 c.y], .bool ok]) ∧ Ext W w') := fun W g h => by
    refine (specEdRead_any P D L bx cy _ g 0 n n f W hP1 hL1 h hr).mono ?_
    rintro r w' ⟨⟨d, ok', rfl, hA'⟩, hw⟩
    obtain ⟨rfl, rfl⟩ := hA.unique hA'
    exact ⟨rfl, hw⟩
  have HI : Hid (∀ W g, Tab W → BSeg W (some ⟨g, 0, none⟩) g 0 n f → Calls Tryd.prog 22 #[.agg #[.int .i64 P, .int .i64 D, .int .i64 L, .int .i64 bx, .int .i64 cy], .slice (some ⟨g, 0, none⟩) n n] W fun r w' => r = .returned (.tuple #[.agg #[.int .i64 c.x, .int .i64 c.y], .bool ok]) ∧ Ext W w') := fun W g hW h => by
    refine (implEdRead_any P D L bx cy _ g 0 n n f W hP1 hL1 hW h hr (Nat.le_refl _)).mono ?_
    rintro r w' ⟨⟨d, ok', rfl, hA'⟩, hw⟩
    obtain ⟨rfl, rfl⟩ := hA.unique hA'
    exact ⟨rfl, hw⟩
  clear hA
  have hz : ¬ (1048576 : Int) < (n : Int) := by omega
  go_enter Tryd.func8, Tryd.ntmps8
  go_wp2_with fail
  refine (toEd_any _ _ _ _ _ _).mono ?_
  rintro e w1 ⟨rfl, hw1⟩
  obtain ⟨B0, hE, z1⟩ := box1 w [.int .i64 P, .int .i64 D, .int .i64 L, .int .i64 bx, .int .i64 cy] 62 hw1
  have S1 := hide (hs.of_all hE)
  clear hw1
  go_wp2_with fail
  refine (toByteS_any _ b off _ _ f _ S1.out hn).mono ?_
  rintro e w2 ⟨rfl, hz2, hr2, hw2⟩
  replace hw2 : Ext w1 w2 := hw2
  replace B0 := B0.ext hw2 (by omega)
  replace hE := hE.trans hw2
  have S2 := hide (S1.out.of_all hw2)
  have R2 := hide (BSeg.of_row hr2 (Nat.le_refl _))
  have z2 : w.heap.size + 1 ≤ w2.heap.size := Nat.le_trans z1 (Below.size hw2)
  clear S1 hw2 hr2 hz2 z1
  go_wp2_with fail
  refine (HS.out _ _ R2.out).mono ?_
  rintro e w3 ⟨rfl, hw3⟩
  have X3 := Ext.alloc w3 (.cells #[.int .i64 c.x, .int .i64 c.y] 39)
  have T3 : Blk (w3.alloc (.cells #[.int .i64 c.x, .int .i64 c.y] 39)) w3.heap.size [.int .i64 c.x, .int .i64 c.y] := Blk.alloc w3 [.int .i64 c.x, .int .i64 c.y] 39
  replace B0 := B0.ext (hw3.trans X3) (by omega)
  replace hE := hE.trans (hw3.trans X3)
  have S4 := hide (S2.out.of_all (hw3.trans X3))
  have z3 : w.heap.size + 1 ≤ w3.heap.size := Nat.le_trans z2 (Below.size hw3)
  clear S2 R2 hw3 X3 z2 HS
  go_wp2_with fail
  refine (toByteS_any _ b off _ _ f _ S4.out hn).mono ?_
  rintro e w5 ⟨rfl, hz5, hr5, hw5⟩
  replace hw5 : Ext (w3.alloc (.cells #[.int .i64 c.x, .int .i64 c.y] 39)) w5 := hw5
  have S5 := hide (S4.out.of_all hw5)
  replace B0 := B0.ext hw5 (by simp; omega)
  replace T3 := T3.ext hw5 (by simp)
  replace hE := hE.trans hw5
  have R5 := hide (BOwn.of_row hr5 (Nat.le_refl _))
  have g5 : w3.heap.size + 1 < w5.heap.size := by simp at hz5; omega
  simp only [World.size_alloc] at R5
  clear S4 hw5 hr5 hz5
  have k0 := (B0 0 _ rfl).1
  have k1 := (B0 1 _ rfl).1
  have k2 := (B0 2 _ rfl).1
  have k3 := (B0 3 _ rfl).1
  have k4 := (B0 4 _ rfl).1
  go_wp2_with fail
  refine (toEd_any _ _ _ _ _ _).mono ?_
  rintro e w6 ⟨rfl, hw6⟩
  clear k0 k1 k2 k3 k4 B0
  have S6 := hide (S5.out.of_all hw6)
  replace T3 := T3.ext hw6 (by omega)
  have R6 := hide (R5.out.of_all hw6)
  replace hE := hE.trans hw6
  have hT6 := hide (hT.ext hE)
  have g6 : w3.heap.size + 1 < w6.heap.size := Nat.lt_of_lt_of_le g5 (Below.size hw6)
  clear S5 R5 hw6 g5
  go_wp2_with fail
  refine (HI.out _ _ hT6.out R6.out.toBSeg).mono ?_
  rintro e w7 ⟨rfl, hw7⟩
  have X8 := Ext.alloc w7 (.cells #[.int .i64 c.x, .int .i64 c.y] 39)
  have T8 : Blk (w7.alloc (.cells #[.int .i64 c.x, .int .i64 c.y] 39)) w7.heap.size [.int .i64 c.x, .int .i64 c.y] := Blk.alloc w7 [.int .i64 c.x, .int .i64 c.y] 39
  have h78 := hw7.trans X8
  have S8 := hide (S6.out.of_all h78)
  replace T3 := T3.ext h78 (by omega)
  have R8 := hide (R6.out.of_all h78)
  replace hE := hE.trans h78
  clear S6 R6 hT6 hw7 g6 HI X8 h78
  have t0 := (T8 0 _ rfl).1
  have t1 := (T8 1 _ rfl).1
  have u0 := (T3 0 _ rfl).1
  have u1 := (T3 1 _ rfl).1
  have hb : (ok != ok) = false := by simp
  go_wp2_with fail
  refine (eqPair_same c.x c.y _).mono ?_
  rintro e w9 ⟨rfl, hw9⟩
  have S9 := hide (S8.out.of_all hw9)
  have R9 := hide (R8.out.of_all hw9)
  replace hE := hE.trans hw9
  clear t0 t1 u0 u1 S8 R8 hw9 T3 T8
  go_wp2_with fail
  refine (toByteS_any _ b off _ _ f _ S9.out hn).mono ?_
  rintro e w10 ⟨rfl, hz10, hr10, hw10⟩
  have R10 := hide (R9.out.of_all hw10)
  replace hE := hE.trans hw10
  clear hz10 hw10 S9 R9
  go_wp2_with fail
  refine (eqByteS_any _ (w3.heap.size + 1) 0 n _ f _ w9.heap.size 0 n _ f _ R10.out.toBSeg (BSeg.of_row hr10 (Nat.le_refl _)) hn).mono ?_
  rintro e w11 ⟨rfl, q, rfl⟩
  rw [alike_refl]
  go_wp2
  go_ret
  exact ⟨rfl, below_drewN hE q⟩

theorem law_long (P D L bx cy : Int) (a : Option Addr) (n cap : Nat) (w : World) (hn : ¬ n ≤ 1048576) :
    Calls Tryd.prog 8 #[.agg #[.int .i64 P, .int .i64 D, .int .i64 L, .int .i64 bx, .int .i64 cy], .slice a n cap] w fun e w' => e = .returned (.bool true) ∧ Below w.heap.size w w' := by
  have hz : (1048576 : Int) < (n : Int) := by omega
  go_enter Tryd.func8, Tryd.ntmps8
  go_wp2
  go_ret
  exact ⟨rfl, (Below.refl _ _).alloc (Nat.le_refl _) _⟩

theorem walk (a0_0 a0_1 a0_2 a0_3 a0_4 : Int) (a1 : Option Addr) (len1 cap1 : Nat) (z1 : List Int) (w : World) (w0_0 : (Lit.int .i64 a0_0).wf = true) (w0_1 : (Lit.int .i64 a0_1).wf = true) (w0_2 : (Lit.int .i64 a0_2).wf = true) (w0_3 : (Lit.int .i64 a0_3).wf = true) (w0_4 : (Lit.int .i64 a0_4).wf = true) (w1 : IsRow .u8 w a1 len1 cap1 z1) (hT : Tab w) :
    Calls Tryd.prog 8 #[.agg #[.int .i64 a0_0, .int .i64 a0_1, .int .i64 a0_2, .int .i64 a0_3, .int .i64 a0_4], .slice a1 len1 cap1] w fun e w' => e = .returned (.bool true) ∧ Below w.heap.size w w' := by
  obtain ⟨b, off, hs, hr, hcap⟩ := row_bseg w1
  by_cases hn : len1 ≤ 1048576
  · exact law a0_0 a0_1 a0_2 a0_3 a0_4 a1 b off len1 cap1 _ (by have := bounds_i64 w0_0; omega) (by have := bounds_i64 w0_2; omega) w hT hs hr hn
  · exact law_long a0_0 a0_1 a0_2 a0_3 a0_4 a1 len1 cap1 w hn

theorem laidL : Rows.fnExactEdReadRow.laid = [("math/bits.deBruijn32tab", Rows.laid_math_bits_deBruijn32tab), ("math/bits.deBruijn64tab", Rows.laid_math_bits_deBruijn64tab)] := rfl

theorem g_math_bits_deBruijn32tab : Tryd.prog.globalNamed "math/bits.deBruijn32tab" = some 0 := by kernel_rfl
theorem t_math_bits_deBruijn32tab : (Tryd.prog.globals[0]?).map (·.type) = some 150 := by kernel_rfl
theorem g_math_bits_deBruijn64tab : Tryd.prog.globalNamed "math/bits.deBruijn64tab" = some 1 := by kernel_rfl
theorem t_math_bits_deBruijn64tab : (Tryd.prog.globals[1]?).map (·.type) = some 151 := by kernel_rfl

/-- The door's own heap meets the condition. -/
theorem door_met (os : Os) (args : Array Value) : laidMetH Tryd.prog [("math/bits.deBruijn32tab", Rows.laid_math_bits_deBruijn32tab), ("math/bits.deBruijn64tab", Rows.laid_math_bits_deBruijn64tab)] ((World.doorLaid Tryd.prog 400 os).forCall (fun _ _ => 0) ⟨#[], args, []⟩).memory :=
  laidMetH_of_parts3 (fuel := 8) (laidMet_of_run' 8 (by kernel_rfl) (by kernel_rfl)) (by kernel_rfl) (by kernel_rfl)

set_option maxRecDepth 100000 in
/-- What the condition gives the walks: the table's cells. -/
theorem of_laid {W : World} (h : laidMetH Tryd.prog [("math/bits.deBruijn32tab", Rows.laid_math_bits_deBruijn32tab), ("math/bits.deBruijn64tab", Rows.laid_math_bits_deBruijn64tab)] W) : Tab W := by
  rw [MakeChecks.laidMetH_plain _ _ _ (by kernel_rfl)] at h
  obtain ⟨ps, ⟨g0, t0, cs0, f0, p0, q0, hg0, ht0, hv0, hd0, ⟨g1, t1, cs1, f1, p1, q1, hg1, ht1, hv1, hd1, _, _⟩, _⟩, _, _⟩ := h
  obtain rfl := Option.some.inj (g_math_bits_deBruijn64tab.symm.trans hg1)
  obtain rfl := Option.some.inj (t_math_bits_deBruijn64tab.symm.trans ht1)
  obtain ⟨xs, m1, rfl, hx1, hlen, hn3, hel⟩ := DataW.trod_array Tryd.underlying151 hd1
  have c5 : Tryd.prog.cellsOf 5 = 1 := by kernel_rfl
  simp only [Prod.mk.injEq] at hx1
  have hxs : xs.map (·.1) = (Lib.deBruijn64tab.map fun (z : Nat) => (.lit (.int .u8 (z : Int)) : DataW Unit)) := by
    have e : (Rows.laid_math_bits_deBruijn64tab : DataW Unit) = .agg (Lib.deBruijn64tab.map fun (z : Nat) => (.lit (.int .u8 (z : Int)) : DataW Unit)) := rfl
    have h2 := hx1.1
    rw [e] at h2
    injection h2 with h3
    exact h3.symm
  intro j hj
  have h0 := hel j hj
  obtain ⟨y, hy⟩ : ∃ y, xs[j]? = some y := ⟨xs[j]'(by omega), List.getElem?_eq_getElem _⟩
  rw [hy] at h0
  obtain ⟨k, e1, e2, _⟩ := DataW.trod_int Tryd.underlying5 h0
  rw [c5, Nat.mul_one] at e1
  have hcell := World.var?_cell hg1 hv1 j
  have e3 : cs1[j]? = some (.int .u8 k) := by
    have : (cs1.toList.drop j)[0]? = some (.int .u8 k) := by
      have h4 := congrArg (fun l => l[0]?) e1
      simpa [List.getElem?_take] using h4
    simpa using this
  rw [hcell, e3]
  have e4 : (xs.map (·.1))[j]? = some y.1 := by simp [hy]
  rw [hxs, e2] at e4
  have hl : Lib.deBruijn64tab.length = 64 := by decide
  simp only [List.getElem?_map] at e4
  cases h6 : Lib.deBruijn64tab[j]? with
  | none => rw [h6] at e4; simp at e4
  | some z =>
    rw [h6] at e4
    simp only [Option.map_some, Option.some.injEq, DataW.lit.injEq, Lit.int.injEq, true_and] at e4
    rw [← e4, List.getD_eq_getElem?_getD, h6]
    rfl

/-! ### THE ROW's STEP -/
set_option maxRecDepth 100000 in
theorem lifted (os : Os) (started : os.Started) (H : Type) (enc : TypeId × Value → H) :
    ReturnsInHanded {} Tryd.checked os 8 .any (fun w args => (Rows.fnExactEdReadSpec.pre enc Tryd.prog Tryd.f8 [] false w args ∧ laidMetH Tryd.prog [("math/bits.deBruijn32tab", Rows.laid_math_bits_deBruijn32tab), ("math/bits.deBruijn64tab", Rows.laid_math_bits_deBruijn64tab)] w) ∧ sizedMet enc Tryd.prog Tryd.f8 (OpenSpec.ofChange Rows.fnExactEdReadSpec) false w args)
      (Rows.fnExactEdReadSpec.post enc Tryd.prog Tryd.f8 false true false false) := by
  refine returnsInHanded_of_change_and (C := Tryd.checked) (X := fun w _ => laidMetH Tryd.prog [("math/bits.deBruijn32tab", Rows.laid_math_bits_deBruijn32tab), ("math/bits.deBruijn64tab", Rows.laid_math_bits_deBruijn64tab)] w) (fun _ _ _ hh h => h.of_heap hh) own started (by kernel_rfl) Tryd.func8
    (ChangeSpec.witness_shaped (enc := enc) (C := Tryd.checked) (os := os) (X := fun w _ => laidMetH Tryd.prog [("math/bits.deBruijn32tab", Rows.laid_math_bits_deBruijn32tab), ("math/bits.deBruijn64tab", Rows.laid_math_bits_deBruijn64tab)] w) false (World.doorLaid Tryd.prog 400 os) #[.agg #[.int .i64 0, .int .i64 0, .int .i64 0, .int .i64 0, .int .i64 0], .slice none 0 0] 8 rfl (World.shaped_of_RefB (by kernel_rfl) (by kernel_rfl)) (by kernel_rfl) (by kernel_rfl) (by kernel_rfl) (door_met os _)) ?_
  intro W base args ds gs before hval0 hW _ _ hL _
  have hval : ∀ (j : Nat) t v, Tryd.f8.params[j]? = some t → args[j]? = some v → Value.okWide Tryd.prog W .any base t v := hval0
  have hW' := hW
  obtain ⟨p, q, hA0, hV, rfl, hfz, hnd⟩ := hW
  have hA : DataW.TrodAll enc Tryd.prog W 0 (fun _ => true) true Tryd.f8.params.toList args.toList ds p := hA0
  rw [Tryd.params8] at hA hval
  obtain ⟨v0, vs0, d0, ds0, p0, q0, hargs, rfl, rfl, h0, r0⟩ := trodAll_cons hA
  obtain ⟨v1, vs1, d1, ds1, p1, q1, rfl, rfl, rfl, h1, r1⟩ := trodAll_cons r0
  obtain ⟨rfl, rfl, rfl⟩ := trodAll_nil r1
  obtain rfl : args = #[v0, v1] := by cases args; simp_all
  obtain ⟨rfl, rfl⟩ := trodVars_none hV
  obtain ⟨a0_0, a0_1, a0_2, a0_3, a0_4, rfl, rfl, rfl, w0_0, w0_1, w0_2, w0_3, w0_4⟩ := open_ed (hval 0 62 v0 rfl rfl) h0
  obtain ⟨a1, len1, cap1, rfl⟩ := okWide_slice Tryd.underlying22 (hval 1 22 v1 rfl rfl)
  have k1 := h1
  have lt1 : ∀ x ∈ p1, x.block < W.heap.size := by obtain ⟨m, hm⟩ := k1; exact DataW.trod_lt m _ _ _ hm
  obtain ⟨z1, w1⟩ : ∃ zs, IsRow .u8 W a1 len1 cap1 zs := by
    obtain ⟨fuel, hf⟩ := h1
    rcases open_ints Tryd.underlying22 Tryd.underlying5 (by kernel_rfl) hf with ⟨hcs, _⟩ | ⟨x, l, c, zs, hcs, _, hl, hm, hz, _, hcell, hwz⟩
    · simp [Value.cells] at hcs
      obtain ⟨rfl, rfl, rfl⟩ := hcs
      exact ⟨[], .inl ⟨rfl, rfl, rfl, rfl⟩⟩
    · simp [Value.cells] at hcs
      obtain ⟨rfl, rfl, rfl⟩ := hcs
      exact ⟨zs, .inr ⟨_, rfl, hl, hm, by simpa using hz, hcell, hwz⟩⟩
  clear hA0 hval0
  have hTab := of_laid hL
  refine (walk a0_0 a0_1 a0_2 a0_3 a0_4 a1 len1 cap1 z1 W w0_0 w0_1 w0_2 w0_3 w0_4 w1 hTab).mono fun e W' ⟨he, hg⟩ => ?_
  subst he
  exact ⟨_, rfl, _, _, _, [], _, [], hW', (trodAll_cons_mk (shut_bool Tryd.underlying4 _) trodAll_mk0), (trodAll_cons_mk (shut_ed w0_0 w0_1 w0_2 w0_3 w0_4) (trodAll_cons_mk (Below.trod laidOut (by kernel_rfl) (of_decide_eq_true (by kernel_rfl)) k1 hg lt1) trodAll_mk0)), rfl, hg.frame _, fun h => by cases h⟩

theorem over : Rows.fnExactEdReadRow.holds Tryd.pinned (OpenSpec.ofChange Rows.fnExactEdReadSpec) :=
  OpenClaim.holds_of_wide 8 Tryd.f8 rfl rfl rfl rfl rfl rfl rfl ⟨rfl, rfl, rfl, rfl, rfl⟩ rfl rfl rfl rfl rfl (by kernel_rfl) Tryd.func8 (by kernel_rfl)
    (of_decide_eq_true (by kernel_rfl)) (by unfold Func.isWrapper; first | (rw [if_pos (by decide +kernel)]; kernel_rfl) | (rw [if_neg (by decide +kernel)]; exact ⟨rfl, rfl⟩))
    (fun os started H enc _ => lifted os started H enc)

theorem proved : Rows.FnExactEdReadSaid :=
  over
end Go.Proofs.YtcfpmillbdkpcaaDoor.fnExactEdRead

namespace Go.Proofs.YtcfpmillbdkpcaaDoor
/-- The given statement: the tied card. -/
theorem fnExactEdRead_holds : Rows.FnExactEdReadCardSaid :=
  Claim7.holds_tied_plain_at .later [] [.data, .data] true (true, "25a62ed51089c22e423a4319e082d636c49192e0c4575145cc2ac4d339ffa0b5") true
    fnExactEdRead.proved (fun _ h => by cases h) (by kernel_rfl) (fun _ h => by cases h) fnExactEdRead_row_tie rfl ⟨rfl, rfl⟩ (by kernel_rfl) rfl
    (fun f fn hf hfn => by
      obtain rfl : f = 8 := Option.some.inj ((show Tryd.prog.funcNamed "loop.example/g00148/laws.FnExactEdRead" = some 8 by kernel_rfl).symm.trans hf) |>.symm
      obtain rfl : fn = Tryd.f8 := (Option.some.inj (Tryd.func8.symm.trans hfn)).symm
      exact ⟨by kernel_rfl, fun j t ht => by
        rw [Tryd.params8] at ht
        have hm : t ∈ [62, 22] := by have := Array.mem_of_getElem? ht; simpa using this
        have hall : ([62, 22].all fun u => !Tryd.prog.wantsStandIn u) = true := by kernel_rfl
        exact (show Tryd.prog.wantsStandIn t = false by simpa using List.all_eq_true.1 hall t hm)⟩)
    (by kernel_rfl)
#print axioms fnExactEdRead_holds
end Go.Proofs.YtcfpmillbdkpcaaDoor
