/- Proved: at every argument the law FnExactPadded answers true and leaves its arguments as they were: the program's Padded answers as the model's at every list of at most 1048576 bytes and every number, writes into no argument, and its answer owns its memory, behind another call too (beyond 1048576 bytes the law itself answers true at once). No condition. -/
import Derived.Test.YtjkojofpkeglpabRows
import Derived.WalkKit
import Derived.ProofKit
import Derived.OpenShut
import Derived.ShutString
import Derived.ChangeOld
import Derived.Below
import Derived.Test.YtjkojofpkeglpabPad
import Derived.Test.YtjkojofpkeglpabBMarks
namespace Go.Proofs.Ytjkojofpkeglpab.fnExactPadded
open Go.ChangeShapes Go.WideShapes Go.ChangeAt Go.RowKit
open Go.ChangeMaps (open_string shut_string)
set_option linter.unusedVariables false

theorem own : ownKnob Try.prog.godebug = none := by kernel_rfl
theorem laidOut : laidOutB Try.prog = true := by kernel_rfl

/-- WHAT THE WALK IS TOLD OF A SLICE OF INTEGERS THAT CAME IN: it is nil; or it leads to a row of 'cap' cells, the numbers 'zs' (the first 'len' are its elements, the rest its spare room), each fitting its kind. -/
def IsRow (k : IntKind) (w : World) (a : Option Addr) (len cap : Nat) (zs : List Int) : Prop :=
  (a = none ∧ len = 0 ∧ cap = 0 ∧ zs = []) ∨
  ∃ x, a = some x ∧ len ≤ cap ∧ cap ≤ maxLen ∧ zs.length = cap ∧ (∀ i, i < zs.length → w.cell? (x.add i) = some (.int k (zs.getD i 0))) ∧ ∀ n ∈ zs, (Lit.int k n).wf = true

theorem IsRow.seg {w : World} {a : Option Addr} {len cap : Nat} {zs : List Int} (h : IsRow .u8 w a len cap zs) : ∃ b off, BSeg w a b off len (fun i => zs.getD i 0) ∧ ∀ i, i < len → 0 ≤ zs.getD i 0 ∧ zs.getD i 0 < 256 := by
  rcases h with ⟨rfl, rfl, rfl, rfl⟩ | ⟨x, rfl, hl, hm, hz, hcell, hwz⟩
  · exact ⟨0, 0, ⟨fun h => absurd h (Nat.lt_irrefl _), fun i hi => absurd hi (Nat.not_lt_zero _)⟩, fun i hi => absurd hi (Nat.not_lt_zero _)⟩
  · obtain ⟨b, off, spot⟩ := x
    by_cases h0 : len = 0
    · subst h0
      exact ⟨0, 0, ⟨fun h => absurd h (Nat.lt_irrefl _), fun i hi => absurd hi (Nat.not_lt_zero _)⟩, fun i hi => absurd hi (Nat.not_lt_zero _)⟩
    · have hspot : spot = none := by simpa [Addr.add] using World.cell?_spot (hcell 0 (by omega))
      subst hspot
      exact ⟨b, off, ⟨fun _ => rfl, fun i hi => by
        have h := hcell i (by omega)
        have e : Addr.add ⟨b, off, none⟩ i = ⟨b, off + i, none⟩ := by
          by_cases h0 : i = 0
          · subst h0; simp [Addr.add]
          · simp [Addr.add, h0]
        rwa [e] at h⟩, fun i hi => by
        have hm : zs.getD i 0 ∈ zs := by
          rw [List.getD_eq_getElem?_getD, List.getElem?_eq_getElem (show i < zs.length by omega)]
          exact List.getElem_mem _
        have := bounds_u8 (hwz _ hm)
        omega⟩

set_option maxHeartbeats 4000000 in
set_option maxRecDepth 100000 in
theorem law (a : Option Addr) (b off n cap : Nat) (f : Nat → Int) (z0 : Int) (M : Nat) (F : Nat → Int) (ok : Bool) (hM : M ≤ 1048576) (w : World) (hs : BSeg w a b off n f) (hn : n ≤ 1048576)
    (Hsp : Hid (∀ (a : Option Addr) (b off cap : Nat) (w : World), BSeg w a b off n f → Calls Try.prog 21 #[.slice a n cap, .int .i64 z0] w fun e w' => GivesBo w M F ok e w'))
    (Him : Hid (∀ (a : Option Addr) (b off cap : Nat) (w : World), BSeg w a b off n f → Calls Try.prog 16 #[.slice a n cap, .int .i64 z0] w fun e w' => GivesBo w M F ok e w')) :
    Calls Try.prog 5 #[.slice a n cap, .int .i64 z0] w fun e w' => e = .returned (.bool true) ∧ Below w.heap.size w w' := by
  have hz : ¬ (1048576 : Int) < (n : Int) := by omega
  go_enter Try.func5, Try.ntmps5
  go_wp2_with fail
  refine (toByteS_any _ b off _ _ f _ hs hn).mono ?_
  rintro e w1 ⟨rfl, hz1, hr1, B1⟩
  clear hz1
  go_wp2_with fail
  refine (Hsp.out _ w.heap.size 0 _ _ (BSeg.of_row hr1 (Nat.le_refl _))).mono ?_
  rintro e w3 ⟨a3, g3, cap3, rfl, hg3, hO3, hb3⟩
  have B3 := B1.trans (hb3.mono B1.size)
  have lt3 : 0 < M → g3 < w3.heap.size := fun h => hO3.lt h
  have s3 := hO3.toBSeg
  have ge4 : w.heap.size ≤ w3.heap.size := B3.size
  clear hr1 hb3 hO3 hg3 B1
  go_wp2_with fail
  refine (toByteS_any _ b off _ _ f _ (hs.of_all B3) hn).mono ?_
  rintro e w4 ⟨rfl, hz1, hr4, hb4⟩
  have lt4 : w3.heap.size < w4.heap.size := by omega
  clear hz1
  have B4 := B3.trans (hb4.mono B3.size)
  have s4 := s3.of_all hb4
  have x4 : BOwn w4 (some ⟨w3.heap.size, 0, none⟩) w3.heap.size 0 n f := BOwn.of_row hr4 (Nat.le_refl _)
  clear hr4 hb4 s3 B3
  go_wp2_with fail
  refine (Him.out _ w3.heap.size 0 _ _ x4.toBSeg).mono ?_
  rintro e w6 ⟨a6, g6, cap6, rfl, hg6, hO6, hb6⟩
  have B6 := B4.trans (hb6.mono B4.size)
  have s6 := s4.of_all hb6
  have x6 := x4.of_all hb6
  clear hb6 s4 x4 B4
  go_wp2_with fail
  refine (eqByteS_any a6 g6 0 M cap6 F a3 g3 0 M cap3 F _ hO6.toBSeg s6 hM).mono ?_
  rintro e w7 ⟨rfl, q, rfl⟩
  rw [alike_refl]
  have D : Below w6.heap.size w6 (w6.drewN q) := below_drewN (Below.refl _ _) q
  have B7 : Below w.heap.size w (w6.drewN q) := below_drewN B6 q
  have s7 := s6.of_all D
  have x7 := x6.of_all D
  have z7 := hO6.of_all D
  clear D s6 x6 hO6 B6
  generalize w6.drewN q = w7 at *
  have hokk : (ok != ok) = false := by simp
  go_wp2_with fail
  refine (toByteS_any _ b off _ _ f _ (hs.of_all B7) hn).mono ?_
  rintro e w8 ⟨rfl, hz1, hr8, hb8⟩
  clear hz1
  have B8 := B7.trans (hb8.mono B7.size)
  have s8 := s7.of_all hb8
  have x8 := x7.of_all hb8
  have z8 := z7.of_all hb8
  clear hb8 s7 x7 z7 B7
  go_wp2_with fail
  refine (eqByteS_any _ w3.heap.size 0 _ _ f _ w7.heap.size 0 _ _ f _ x8.toBSeg (BSeg.of_row hr8 (Nat.le_refl _)) hn).mono ?_
  rintro e w9 ⟨rfl, q, rfl⟩
  rw [alike_refl]
  have D : Below w8.heap.size w8 (w8.drewN q) := below_drewN (Below.refl _ _) q
  have B9 : Below w.heap.size w (w8.drewN q) := below_drewN B8 q
  have s9 := s8.of_all D
  have x9 := x8.of_all D
  have z9 := z8.of_all D
  clear D s8 x8 z8 B8 hr8
  generalize w8.drewN q = w9 at *
  go_wp2_with fail
  refine (markByteS_any _ w3.heap.size 0 n _ f 1 _ x9 hn (by omega) (by omega)).mono ?_
  rintro e w12 ⟨rfl, _, hT⟩
  have s12 := s9.touch hT (fun h => by have := lt3 h; omega)
  have z12 := z9.touch hT (fun _ => by omega)
  have B12 := below_touch B9 hT ge4
  clear s9 x9 z9 B9 hT
  have hk0 : ¬ (1 + (n : Int) < 0) := by omega
  go_wp2_with fail
  refine (eqByteS_any a6 g6 0 M cap6 F a3 g3 0 M cap3 F _ z12.toBSeg s12 hM).mono ?_
  rintro e w14 ⟨rfl, q, rfl⟩
  rw [alike_refl]
  have D : Below w12.heap.size w12 (w12.drewN q) := below_drewN (Below.refl _ _) q
  have B14 : Below w.heap.size w (w12.drewN q) := below_drewN B12 q
  have s14 := s12.of_all D
  have z14 := z12.of_all D
  clear D s12 z12 B12
  generalize w12.drewN q = w14 at *
  go_wp2_with fail
  refine (markByteS_any a6 g6 0 M cap6 F 1 _ z14 hM (by omega) (by omega)).mono ?_
  rintro e w15 ⟨rfl, z15, hT⟩
  have s15 := s14.touch hT (fun h => by have := lt3 h; omega)
  have B15 := below_touch B14 hT (by omega)
  clear s14 z14 B14 hT
  go_wp2_with fail
  refine (heldByteS_any a6 g6 0 M cap6 1 _ z15.toBSeg hM (by omega) (by omega)).mono ?_
  rintro e w16 ⟨rfl, hw⟩
  obtain rfl := hw.symm
  have hp : ¬ (1 + (M : Int) < 0) := by omega
  go_wp2_with fail
  refine (toByteS_any _ b off _ _ f _ (hs.of_all B15) hn).mono ?_
  rintro e w17 ⟨rfl, hz1, hr17, hb17⟩
  clear hz1
  have B17 := B15.trans (hb17.mono B15.size)
  have s17 := s15.of_all hb17
  have z17 := z15.of_all hb17
  clear hb17 s15 z15
  go_wp2_with fail
  refine (Him.out _ w15.heap.size 0 _ _ (BSeg.of_row hr17 (Nat.le_refl _))).mono ?_
  rintro e w19 ⟨a19, g19, cap19, rfl, hg19, hO19, hb19⟩
  have B19 := B17.trans (hb19.mono B17.size)
  have s19 := s17.of_all hb19
  have z19 := z17.of_all hb19
  clear hb19 s17 z17 B17 B15 hr17
  go_wp2_with fail
  refine (eqByteS_any a19 g19 0 M cap19 F a3 g3 0 M cap3 F _ hO19.toBSeg s19 hM).mono ?_
  rintro e w20 ⟨rfl, q, rfl⟩
  rw [alike_refl]
  go_wp2_with fail
  refine (heldByteS_any a6 g6 0 M cap6 1 _ (z19.toBSeg.of_all (below_drewN (Below.refl _ _) q)) hM (by omega) (by omega)).mono ?_
  rintro e w21 ⟨rfl, hw⟩
  obtain rfl := hw.symm
  go_wp2
  go_ret
  exact ⟨rfl, below_drewN B19 q⟩

theorem law_long (a : Option Addr) (n cap : Nat) (z0 : Int) (w : World) (hn : ¬ n ≤ 1048576) :
    Calls Try.prog 5 #[.slice a n cap, .int .i64 z0] w fun e w' => e = .returned (.bool true) ∧ Below w.heap.size w w' := by
  have hz : (1048576 : Int) < (n : Int) := by omega
  go_enter Try.func5, Try.ntmps5
  go_wp2
  go_ret
  exact ⟨rfl, Below.refl _ _⟩

theorem walk (a0 : Option Addr) (len0 cap0 : Nat) (z0 : List Int) (a1 : Int) (w : World) (w0 : IsRow .u8 w a0 len0 cap0 z0) (w1 : (Lit.int .i64 a1).wf = true) :
    Calls Try.prog 5 #[.slice a0 len0 cap0, .int .i64 a1] w fun e w' => e = .returned (.bool true) ∧ Below w.heap.size w w' := by
  obtain ⟨b, off, hs, hy⟩ := w0.seg
  by_cases hn : len0 ≤ 1048576
  · exact law a0 b off len0 cap0 _ a1 (padLen len0 a1) _ (padOk len0 a1) (padLen_le _ _) w hs hn (hide (fun a b off cap w h => specPadded_any a b off len0 cap _ a1 w h)) (hide (fun a b off cap w h => implPadded_any a b off len0 cap _ a1 w h))
  · exact law_long a0 len0 cap0 a1 w hn

/-! ### THE ROW's STEP: WRITTEN OUT: LEAVE IT -/
set_option maxRecDepth 100000 in
theorem lifted (os : Os) (started : os.Started) (H : Type) (enc : TypeId × Value → H) :
    ReturnsInHanded {} Try.checked os 5 .any (Rows.fnExactPaddedSpec.pre6 enc Try.prog Try.f5 Rows.fnExactPaddedRow.domain false) (Rows.fnExactPaddedSpec.post enc Try.prog Try.f5 false true false false) := by
  refine returnsInHanded_of_change (C := Try.checked) own started (by kernel_rfl) Try.func5
    (ChangeSpec.witness6 (enc := enc) (C := Try.checked) false ⟨#[], #[.slice none 0 0, .int .i64 0], []⟩ 8 (by kernel_rfl) (by kernel_rfl) (by kernel_rfl) (by kernel_rfl)) ?_
  intro W base args ds gs before hval0 hW hcnd _
  have hval : ∀ (j : Nat) t v, Try.f5.params[j]? = some t → args[j]? = some v → Value.okWide Try.prog W .any base t v := hval0
  have hW' := hW
  obtain ⟨p, q, hA0, hV, rfl, hfz, hnd⟩ := hW
  have hA : DataW.TrodAll enc Try.prog W 0 (fun _ => true) true Try.f5.params.toList args.toList ds p := hA0
  rw [Try.params5] at hA hval
  obtain ⟨v0, vs0, d0, ds0, p0, q0, hargs, rfl, rfl, h0, r0⟩ := trodAll_cons hA
  obtain ⟨v1, vs1, d1, ds1, p1, q1, rfl, rfl, rfl, h1, r1⟩ := trodAll_cons r0
  obtain ⟨rfl, rfl, rfl⟩ := trodAll_nil r1
  obtain rfl : args = #[v0, v1] := by cases args; simp_all
  obtain ⟨rfl, rfl⟩ := trodVars_none hV
  obtain ⟨a0, len0, cap0, rfl⟩ := okWide_slice Try.underlying22 (hval 0 22 v0 rfl rfl)
  have k0 := h0
  have lt0 : ∀ x ∈ p0, x.block < W.heap.size := by obtain ⟨m, hm⟩ := k0; exact DataW.trod_lt m _ _ _ hm
  obtain ⟨z0, w0⟩ : ∃ zs, IsRow .u8 W a0 len0 cap0 zs := by
    obtain ⟨fuel, hf⟩ := h0
    rcases open_ints Try.underlying22 Try.underlying5 (by kernel_rfl) hf with ⟨hcs, _⟩ | ⟨x, l, c, zs, hcs, _, hl, hm, hz, _, hcell, hwz⟩
    · simp [Value.cells] at hcs
      obtain ⟨rfl, rfl, rfl⟩ := hcs
      exact ⟨[], .inl ⟨rfl, rfl, rfl, rfl⟩⟩
    · simp [Value.cells] at hcs
      obtain ⟨rfl, rfl, rfl⟩ := hcs
      exact ⟨zs, .inr ⟨_, rfl, hl, hm, by simpa using hz, hcell, hwz⟩⟩
  obtain ⟨a1, rfl, rfl, rfl, w1⟩ := open_int Try.underlying3 (hval 1 3 v1 rfl rfl) h1
  clear hA0 hval0
  refine (walk a0 len0 cap0 z0 a1 W w0 w1).mono fun e W' ⟨he, bel⟩ => ?_
  subst he
  exact ⟨_, rfl, _, _, _, [], _, [], hW', trodAll_mk1 (shut_bool Try.underlying4 _), (trodAll_cons_mk (Below.trod laidOut (by kernel_rfl) (of_decide_eq_true (by kernel_rfl)) k0 bel lt0) (trodAll_cons_mk (shut_int Try.underlying3 w1) trodAll_mk0)), rfl, bel.frame _, fun h => by cases h⟩

theorem over : Rows.fnExactPaddedRow.holds Try.pinned (OpenSpec.ofChange Rows.fnExactPaddedSpec) :=
  OpenClaim.holds_of_wide 5 Try.f5 rfl rfl rfl rfl rfl rfl rfl ⟨rfl, rfl, rfl, rfl, rfl⟩ rfl rfl rfl rfl rfl (by kernel_rfl) Try.func5 (by kernel_rfl)
    (of_decide_eq_true (by kernel_rfl)) (by unfold Func.isWrapper; first | (rw [if_pos (by decide +kernel)]; kernel_rfl) | (rw [if_neg (by decide +kernel)]; exact ⟨rfl, rfl⟩))
    (fun os started H enc _ => lifted os started H enc)

/-- ████ THE STATEMENT ████ -/
theorem proved : Rows.FnExactPaddedSaid := over
end Go.Proofs.Ytjkojofpkeglpab.fnExactPadded

namespace Go.Proofs.Ytjkojofpkeglpab
/-- The given statement. -/
theorem fnExactPadded_holds : Rows.FnExactPaddedSaid := fnExactPadded.proved
#print axioms fnExactPadded_holds
end Go.Proofs.Ytjkojofpkeglpab
