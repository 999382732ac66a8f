/- Proved: at every two lists of ints handed to it the law FnExactNatSub answers true and leaves its arguments as they were: the program's NatSub answers as the model's at every two lists of at most 1048576 ints each, writes into neither, and its answer owns its memory, behind another call too (beyond that length the law itself answers true at once). No condition. -/
import Derived.Test.YtmkmojcefgcmlaaRows
import Derived.WalkKit
import Derived.ProofKit
import Derived.OpenShut
import Derived.ShutString
import Derived.ChangeOld
import Derived.Below
import Derived.Test.YtmkmojcefgcmlaaNatSub
import Derived.Test.YtmkmojcefgcmlaaLists
import Derived.Test.YtmkmojcefgcmlaaMarks
namespace Go.Proofs.Ytmkmojcefgcmlaa.fnExactNatSub
open Go.ChangeShapes Go.WideShapes Go.ChangeAt Go.RowKit
open Go.ChangeMaps (open_string shut_string)
set_option linter.unusedVariables false

theorem own : ownKnob Try.prog.godebug = none := by kernel_rfl
theorem laidOut : laidOutB Try.prog = true := by kernel_rfl

/-- WHAT THE WALK IS TOLD OF A SLICE OF INTEGERS THAT CAME IN: it is nil; or it leads to a row of 'cap' cells, the numbers 'zs' (the first 'len' are its elements, the rest its spare room), each fitting its kind. -/
def IsRow (k : IntKind) (w : World) (a : Option Addr) (len cap : Nat) (zs : List Int) : Prop :=
  (a = none ∧ len = 0 ∧ cap = 0 ∧ zs = []) ∨
  ∃ x, a = some x ∧ len ≤ cap ∧ cap ≤ maxLen ∧ zs.length = cap ∧ (∀ i, i < zs.length → w.cell? (x.add i) = some (.int k (zs.getD i 0))) ∧ ∀ n ∈ zs, (Lit.int k n).wf = true

theorem IsRow.seg {w : World} {a : Option Addr} {len cap : Nat} {zs : List Int} (h : IsRow .i64 w a len cap zs) : ∃ b off, Seg w a b off len (fun i => zs.getD i 0) := by
  rcases h with ⟨rfl, rfl, rfl, rfl⟩ | ⟨x, rfl, hl, hm, hz, hcell, hwz⟩
  · exact ⟨0, 0, fun h => absurd h (Nat.lt_irrefl _), fun i hi => absurd hi (Nat.not_lt_zero _)⟩
  · obtain ⟨b, off, spot⟩ := x
    by_cases h0 : len = 0
    · subst h0
      exact ⟨0, 0, fun h => absurd h (Nat.lt_irrefl _), fun i hi => absurd hi (Nat.not_lt_zero _)⟩
    · have hspot : spot = none := by simpa [Addr.add] using World.cell?_spot (hcell 0 (by omega))
      subst hspot
      exact ⟨b, off, fun _ => rfl, fun i hi => by
        have h := hcell i (by omega)
        have e : Addr.add ⟨b, off, none⟩ i = ⟨b, off + i, none⟩ := by
          by_cases h0 : i = 0
          · subst h0; simp [Addr.add]
          · simp [Addr.add, h0]
        rwa [e] at h⟩

/-- Two lists alike, told the other way about. -/
theorem alike_of {n : Nat} {f g : Nat → Int} (h : ∀ i, i < n → f i = g i) : (n == n && alike g f n) = true := by simp [(alike_iff g f n).2 (fun i hi => (h i hi).symm)]

set_option maxHeartbeats 4000000 in
theorem law (a : Option Addr) (b off n cap : Nat) (f : Nat → Int) (a2 : Option Addr) (b2 off2 n2 cap2 : Nat) (g : Nat → Int) (w : World) (hs : Seg w a b off n f) (hs2 : Seg w a2 b2 off2 n2 g) :
    Calls Try.prog 7 #[.slice a n cap, .slice a2 n2 cap2] w fun e w' => e = .returned (.bool true) ∧ Below w.heap.size w w' := by
  by_cases hn : n ≤ 1048576
  · have hz : ¬ (1048576 : Int) < (n : Int) := by omega
    by_cases hn2 : n2 ≤ 1048576
    · have hz2 : ¬ (1048576 : Int) < (n2 : Int) := by omega
      go_enter Try.func7, Try.ntmps7
      go_wp2_with fail
      refine (toIntS_any _ b off _ _ f _ hs hn).mono ?_
      rintro e w1 ⟨rfl, hz1, hr1, B1⟩
      clear hz1
      go_wp2_with fail
      refine (toIntS_any _ b2 off2 _ _ g _ (hs2.of_all B1) hn2).mono ?_
      rintro e w2 ⟨rfl, hz2, hr2, hb2⟩
      clear hz2
      have B2 := B1.trans (hb2.mono B1.size)
      go_wp2_with fail
      refine (specNatSub_any _ w.heap.size 0 _ _ f _ w1.heap.size 0 _ _ g _ (Seg.of_row (rowIs_below hr1 hb2 hr1.lt) (Nat.le_refl _)) (Seg.of_row hr2 (Nat.le_refl _)) hn hn2).mono ?_
      rintro e w3 ⟨a3, g3, cap3, n3, f3, ok, rfl, hn3, hN, hg3, hO3, hb3⟩
      have B3 := B2.trans (hb3.mono B2.size)
      have lt3 : 0 < n3 → g3 < w3.heap.size := fun h => hO3.lt h
      have s3 := hO3.toSeg
      have ge4 : w.heap.size ≤ w3.heap.size := B3.size
      clear hr1 hr2 hb2 hb3 B2 hO3 hg3 B1
      go_wp2_with fail
      refine (toIntS_any _ b off _ _ f _ (hs.of_all B3) hn).mono ?_
      rintro e w4 ⟨rfl, hz1, hr4, hb4⟩
      have lt4 : w3.heap.size < w4.heap.size := by omega
      clear hz1
      have B4 := B3.trans (hb4.mono B3.size)
      have s4 := s3.of_all hb4
      have x4 : Own w4 (some ⟨w3.heap.size, 0, none⟩) w3.heap.size 0 n f := Own.of_row hr4 (Nat.le_refl _)
      clear hr4 hb4 s3 B3
      go_wp2_with fail
      refine (toIntS_any _ b2 off2 _ _ g _ (hs2.of_all B4) hn2).mono ?_
      rintro e w5 ⟨rfl, hz2, hr5, hb5⟩
      have lt5 : w4.heap.size < w5.heap.size := by omega
      clear hz2
      have B5 := B4.trans (hb5.mono B4.size)
      have s5 := s4.of_all hb5
      have x5 := x4.of_all hb5
      have y5 : Own w5 (some ⟨w4.heap.size, 0, none⟩) w4.heap.size 0 n2 g := Own.of_row hr5 (Nat.le_refl _)
      clear hr5 hb5 s4 x4 B4
      go_wp2_with fail
      refine (implNatSub_any _ w3.heap.size 0 _ _ f _ w4.heap.size 0 _ _ g _ x5.toSeg y5.toSeg hn hn2).mono ?_
      rintro e w6 ⟨a6, g6, cap6, n6, f6, ok6, rfl, hn6, hN6, hg6, hO6, hb6⟩
      obtain ⟨hnn, hokk, hff⟩ := isNat_unique hN hN6
      subst hnn
      subst hokk
      have B6 := B5.trans (hb6.mono B5.size)
      have s6 := s5.of_all hb6
      have x6 := x5.of_all hb6
      have y6 := y5.of_all hb6
      clear hb6 s5 x5 y5 B5 hn6
      go_wp2_with fail
      refine (eqIntS_any a6 g6 0 n3 cap6 f6 a3 g3 0 n3 cap3 f3 _ hO6.toSeg s6 hn3).mono ?_
      rintro e w7 ⟨rfl, q, rfl⟩
      rw [alike_of hff]
      have D : Below w6.heap.size w6 (w6.drewN q) := below_drewN (Below.refl _ _) q
      have B7 : Below w.heap.size w (w6.drewN q) := below_drewN B6 q
      have s7 := s6.of_all D
      have x7 := x6.of_all D
      have y7 := y6.of_all D
      have z7 := hO6.of_all D
      clear D s6 x6 y6 hO6 B6
      generalize w6.drewN q = w7 at *
      have hokk : (ok != ok) = false := by simp
      go_wp2_with fail
      refine (toIntS_any _ b off _ _ f _ (hs.of_all B7) hn).mono ?_
      rintro e w8 ⟨rfl, hz1, hr8, hb8⟩
      clear hz1
      have B8 := B7.trans (hb8.mono B7.size)
      have s8 := s7.of_all hb8
      have x8 := x7.of_all hb8
      have y8 := y7.of_all hb8
      have z8 := z7.of_all hb8
      clear hb8 s7 x7 y7 z7 B7
      go_wp2_with fail
      refine (eqIntS_any _ w3.heap.size 0 _ _ f _ w7.heap.size 0 _ _ f _ x8.toSeg (Seg.of_row hr8 (Nat.le_refl _)) hn).mono ?_
      rintro e w9 ⟨rfl, q, rfl⟩
      rw [alike_refl]
      have D : Below w8.heap.size w8 (w8.drewN q) := below_drewN (Below.refl _ _) q
      have B9 : Below w.heap.size w (w8.drewN q) := below_drewN B8 q
      have s9 := s8.of_all D
      have x9 := x8.of_all D
      have y9 := y8.of_all D
      have z9 := z8.of_all D
      clear D s8 x8 y8 z8 B8 hr8
      generalize w8.drewN q = w9 at *
      go_wp2_with fail
      refine (toIntS_any _ b2 off2 _ _ g _ (hs2.of_all B9) hn2).mono ?_
      rintro e w10 ⟨rfl, hz1, hr10, hb10⟩
      clear hz1
      have B10 := B9.trans (hb10.mono B9.size)
      have s10 := s9.of_all hb10
      have x10 := x9.of_all hb10
      have y10 := y9.of_all hb10
      have z10 := z9.of_all hb10
      clear hb10 s9 x9 y9 z9 B9
      go_wp2_with fail
      refine (eqIntS_any _ w4.heap.size 0 _ _ g _ w9.heap.size 0 _ _ g _ y10.toSeg (Seg.of_row hr10 (Nat.le_refl _)) hn2).mono ?_
      rintro e w11 ⟨rfl, q, rfl⟩
      rw [alike_refl]
      have D : Below w10.heap.size w10 (w10.drewN q) := below_drewN (Below.refl _ _) q
      have B11 : Below w.heap.size w (w10.drewN q) := below_drewN B10 q
      have s11 := s10.of_all D
      have x11 := x10.of_all D
      have y11 := y10.of_all D
      have z11 := z10.of_all D
      clear D s10 x10 y10 z10 B10 hr10
      generalize w10.drewN q = w11 at *
      go_wp2_with fail
      refine (markIntS_any _ w3.heap.size 0 n _ f 1 _ x11 hn (by omega) (by omega)).mono ?_
      rintro e w12 ⟨rfl, _, hT⟩
      have s12 := s11.touch hT (fun h => by have := lt3 h; omega)
      have y12 := y11.touch hT (fun _ => by omega)
      have z12 := z11.touch hT (fun _ => by omega)
      have B12 := below_touch B11 hT ge4
      clear s11 x11 y11 z11 B11 hT
      go_wp2_with fail
      refine (markIntS_any _ w4.heap.size 0 n2 _ g _ _ y12 hn2 (by omega) (by omega)).mono ?_
      rintro e w13 ⟨rfl, _, hT⟩
      have s13 := s12.touch hT (fun h => by have := lt3 h; omega)
      have z13 := z12.touch hT (fun _ => by omega)
      have B13 := below_touch B12 hT (by omega)
      clear s12 y12 z12 B12 hT
      have hk0 : ¬ (1 + (n : Int) + (n2 : Int) < 0) := by omega
      go_wp2_with fail
      refine (eqIntS_any a6 g6 0 n3 cap6 f6 a3 g3 0 n3 cap3 f3 _ z13.toSeg s13 hn3).mono ?_
      rintro e w14 ⟨rfl, q, rfl⟩
      rw [alike_of hff]
      have D : Below w13.heap.size w13 (w13.drewN q) := below_drewN (Below.refl _ _) q
      have B14 : Below w.heap.size w (w13.drewN q) := below_drewN B13 q
      have s14 := s13.of_all D
      have z14 := z13.of_all D
      clear D s13 z13 B13
      generalize w13.drewN q = w14 at *
      go_wp2_with fail
      refine (markIntS_any a6 g6 0 n3 cap6 f6 1 _ z14 hn3 (by omega) (by omega)).mono ?_
      rintro e w15 ⟨rfl, z15, hT⟩
      have s15 := s14.touch hT (fun h => by have := lt3 h; omega)
      have B15 := below_touch B14 hT (by omega)
      clear s14 z14 B14 hT
      go_wp2_with fail
      refine (heldIntS_any a6 g6 0 n3 cap6 1 _ z15.toSeg hn3 (by omega) (by omega)).mono ?_
      rintro e w16 ⟨rfl, hw⟩
      obtain rfl := hw.symm
      have hp : ¬ (1 + (n3 : Int) < 0) := by omega
      go_wp2_with fail
      refine (toIntS_any _ b off _ _ f _ (hs.of_all B15) hn).mono ?_
      rintro e w17 ⟨rfl, hz1, hr17, hb17⟩
      clear hz1
      have B17 := B15.trans (hb17.mono B15.size)
      have s17 := s15.of_all hb17
      have z17 := z15.of_all hb17
      clear hb17 s15 z15
      go_wp2_with fail
      refine (toIntS_any _ b2 off2 _ _ g _ (hs2.of_all B17) hn2).mono ?_
      rintro e w18 ⟨rfl, hz1, hr18, hb18⟩
      clear hz1
      have B18 := B17.trans (hb18.mono B17.size)
      have s18 := s17.of_all hb18
      have z18 := z17.of_all hb18
      have r18 := rowIs_below hr17 hb18 hr17.lt
      clear hb18 s17 z17
      go_wp2_with fail
      refine (implNatSub_any _ w15.heap.size 0 _ _ f _ w17.heap.size 0 _ _ g _ (Seg.of_row r18 (Nat.le_refl _)) (Seg.of_row hr18 (Nat.le_refl _)) hn hn2).mono ?_
      rintro e w19 ⟨a19, g19, cap19, n19, f19, ok19, rfl, hn19, hN19, hg19, hO19, hb19⟩
      obtain ⟨hnn, hok19, hff19⟩ := isNat_unique hN hN19
      subst hnn
      subst hok19
      have B19 := B18.trans (hb19.mono B18.size)
      have s19 := s18.of_all hb19
      have z19 := z18.of_all hb19
      clear hb19 s18 z18 B18 B17 B15 r18 hr17 hr18
      go_wp2_with fail
      refine (eqIntS_any a19 g19 0 n3 cap19 f19 a3 g3 0 n3 cap3 f3 _ hO19.toSeg s19 hn3).mono ?_
      rintro e w20 ⟨rfl, q, rfl⟩
      rw [alike_of hff19]
      go_wp2_with fail
      refine (heldIntS_any a6 g6 0 n3 cap6 1 _ (z19.toSeg.of_all (below_drewN (Below.refl _ _) q)) hn3 (by omega) (by omega)).mono ?_
      rintro e w21 ⟨rfl, hw⟩
      obtain rfl := hw.symm
      go_wp2
      go_ret
      exact ⟨rfl, below_drewN B19 q⟩
    · have hz2 : (1048576 : Int) < (n2 : Int) := by omega
      go_enter Try.func7, Try.ntmps7
      go_wp2
      go_ret
      exact ⟨rfl, Below.refl _ _⟩
  · have hz : (1048576 : Int) < (n : Int) := by omega
    go_enter Try.func7, Try.ntmps7
    go_wp2
    go_ret
    exact ⟨rfl, Below.refl _ _⟩

theorem walk (a0 : Option Addr) (len0 cap0 : Nat) (z0 : List Int) (a1 : Option Addr) (len1 cap1 : Nat) (z1 : List Int) (w : World) (w0 : IsRow .i64 w a0 len0 cap0 z0) (w1 : IsRow .i64 w a1 len1 cap1 z1) :
    Calls Try.prog 7 #[.slice a0 len0 cap0, .slice a1 len1 cap1] w fun e w' => e = .returned (.bool true) ∧ Below w.heap.size w w' := by
  obtain ⟨b, off, hs⟩ := w0.seg
  obtain ⟨b2, off2, hs2⟩ := w1.seg
  exact law a0 b off len0 cap0 _ a1 b2 off2 len1 cap1 _ w hs hs2

/-! ### THE ROW's STEP: WRITTEN OUT: LEAVE IT -/
set_option maxRecDepth 100000 in
theorem lifted (os : Os) (started : os.Started) (H : Type) (enc : TypeId × Value → H) :
    ReturnsInHanded {} Try.checked os 7 .any (Rows.fnExactNatSubSpec.pre6 enc Try.prog Try.f7 Rows.fnExactNatSubRow.domain false) (Rows.fnExactNatSubSpec.post enc Try.prog Try.f7 false true false false) := by
  refine returnsInHanded_of_change (C := Try.checked) own started (by kernel_rfl) Try.func7
    (ChangeSpec.witness6 (enc := enc) (C := Try.checked) false ⟨#[], #[.slice none 0 0, .slice none 0 0], []⟩ 8 (by kernel_rfl) (by kernel_rfl) (by kernel_rfl) (by kernel_rfl)) ?_
  intro W base args ds gs before hval0 hW hcnd _
  have hval : ∀ (j : Nat) t v, Try.f7.params[j]? = some t → args[j]? = some v → Value.okWide Try.prog W .any base t v := hval0
  have hW' := hW
  obtain ⟨p, q, hA0, hV, rfl, hfz, hnd⟩ := hW
  have hA : DataW.TrodAll enc Try.prog W 0 (fun _ => true) true Try.f7.params.toList args.toList ds p := hA0
  rw [Try.params7] at hA hval
  obtain ⟨v0, vs0, d0, ds0, p0, q0, hargs, rfl, rfl, h0, r0⟩ := trodAll_cons hA
  obtain ⟨v1, vs1, d1, ds1, p1, q1, rfl, rfl, rfl, h1, r1⟩ := trodAll_cons r0
  obtain ⟨rfl, rfl, rfl⟩ := trodAll_nil r1
  obtain rfl : args = #[v0, v1] := by cases args; simp_all
  obtain ⟨rfl, rfl⟩ := trodVars_none hV
  obtain ⟨a0, len0, cap0, rfl⟩ := okWide_slice Try.underlying24 (hval 0 24 v0 rfl rfl)
  have k0 := h0
  have lt0 : ∀ x ∈ p0, x.block < W.heap.size := by obtain ⟨m, hm⟩ := k0; exact DataW.trod_lt m _ _ _ hm
  obtain ⟨z0, w0⟩ : ∃ zs, IsRow .i64 W a0 len0 cap0 zs := by
    obtain ⟨fuel, hf⟩ := h0
    rcases open_ints Try.underlying24 Try.underlying3 (by kernel_rfl) hf with ⟨hcs, _⟩ | ⟨x, l, c, zs, hcs, _, hl, hm, hz, _, hcell, hwz⟩
    · simp [Value.cells] at hcs
      obtain ⟨rfl, rfl, rfl⟩ := hcs
      exact ⟨[], .inl ⟨rfl, rfl, rfl, rfl⟩⟩
    · simp [Value.cells] at hcs
      obtain ⟨rfl, rfl, rfl⟩ := hcs
      exact ⟨zs, .inr ⟨_, rfl, hl, hm, by simpa using hz, hcell, hwz⟩⟩
  obtain ⟨a1, len1, cap1, rfl⟩ := okWide_slice Try.underlying24 (hval 1 24 v1 rfl rfl)
  have k1 := h1
  have lt1 : ∀ x ∈ p1, x.block < W.heap.size := by obtain ⟨m, hm⟩ := k1; exact DataW.trod_lt m _ _ _ hm
  obtain ⟨z1, w1⟩ : ∃ zs, IsRow .i64 W a1 len1 cap1 zs := by
    obtain ⟨fuel, hf⟩ := h1
    rcases open_ints Try.underlying24 Try.underlying3 (by kernel_rfl) hf with ⟨hcs, _⟩ | ⟨x, l, c, zs, hcs, _, hl, hm, hz, _, hcell, hwz⟩
    · simp [Value.cells] at hcs
      obtain ⟨rfl, rfl, rfl⟩ := hcs
      exact ⟨[], .inl ⟨rfl, rfl, rfl, rfl⟩⟩
    · simp [Value.cells] at hcs
      obtain ⟨rfl, rfl, rfl⟩ := hcs
      exact ⟨zs, .inr ⟨_, rfl, hl, hm, by simpa using hz, hcell, hwz⟩⟩
  clear hA0 hval0
  refine (walk a0 len0 cap0 z0 a1 len1 cap1 z1 W w0 w1).mono fun e W' ⟨he, bel⟩ => ?_
  subst he
  exact ⟨_, rfl, _, _, _, [], _, [], hW', trodAll_mk1 (shut_bool Try.underlying4 _), (trodAll_cons_mk (Below.trod laidOut (by kernel_rfl) (of_decide_eq_true (by kernel_rfl)) k0 bel lt0) (trodAll_cons_mk (Below.trod laidOut (by kernel_rfl) (of_decide_eq_true (by kernel_rfl)) k1 bel lt1) trodAll_mk0)), rfl, bel.frame _, fun h => by cases h⟩

theorem over : Rows.fnExactNatSubRow.holds Try.pinned (OpenSpec.ofChange Rows.fnExactNatSubSpec) :=
  OpenClaim.holds_of_wide 7 Try.f7 rfl rfl rfl rfl rfl rfl rfl ⟨rfl, rfl, rfl, rfl, rfl⟩ rfl rfl rfl rfl rfl (by kernel_rfl) Try.func7 (by kernel_rfl)
    (of_decide_eq_true (by kernel_rfl)) (by unfold Func.isWrapper; first | (rw [if_pos (by decide +kernel)]; kernel_rfl) | (rw [if_neg (by decide +kernel)]; exact ⟨rfl, rfl⟩))
    (fun os started H enc _ => lifted os started H enc)

/-- ████ THE STATEMENT ████ -/
theorem proved : Rows.FnExactNatSubSaid := over
end Go.Proofs.Ytmkmojcefgcmlaa.fnExactNatSub

namespace Go.Proofs.Ytmkmojcefgcmlaa
/-- The given statement. -/
theorem fnExactNatSub_holds : Rows.FnExactNatSubSaid := fnExactNatSub.proved
#print axioms fnExactNatSub_holds
end Go.Proofs.Ytmkmojcefgcmlaa
