/- Proved: at every argument the law FnExactInNet answers true and leaves its arguments as they were: the program's InNet answers as the model's at every two lists of at most 1048576 numbers and every number of bits, and writes into no argument (beyond that length the law itself answers true at once). No condition. -/
import Derived.Test.YtifokecmmnineabRows
import Derived.WalkKit
import Derived.ProofKit
import Derived.OpenShut
import Derived.ShutString
import Derived.ChangeOld
import Derived.Below
import Derived.Test.YtifokecmmnineabNet
import Derived.Test.YtifokecmmnineabLists
namespace Go.Proofs.Ytifokecmmnineab.fnExactInNet
open Go.ChangeShapes Go.WideShapes Go.ChangeAt Go.RowKit
open Go.ChangeMaps (open_string shut_string)
set_option linter.unusedVariables false

theorem own : ownKnob Try.prog.godebug = none := by kernel_rfl
theorem laidOut : laidOutB Try.prog = true := by kernel_rfl

/-- WHAT THE WALK IS TOLD OF A SLICE OF INTEGERS THAT CAME IN: it is nil; or it leads to a row of 'cap' cells, the numbers 'zs' (the first 'len' are its elements, the rest its spare room), each fitting its kind. -/
def IsRow (k : IntKind) (w : World) (a : Option Addr) (len cap : Nat) (zs : List Int) : Prop :=
  (a = none ∧ len = 0 ∧ cap = 0 ∧ zs = []) ∨
  ∃ x, a = some x ∧ len ≤ cap ∧ cap ≤ maxLen ∧ zs.length = cap ∧ (∀ i, i < zs.length → w.cell? (x.add i) = some (.int k (zs.getD i 0))) ∧ ∀ n ∈ zs, (Lit.int k n).wf = true

theorem IsRow.seg {w : World} {a : Option Addr} {len cap : Nat} {zs : List Int} (h : IsRow .i64 w a len cap zs) : ∃ b off, Seg w a b off len (fun i => zs.getD i 0) := by
  rcases h with ⟨rfl, rfl, rfl, rfl⟩ | ⟨x, rfl, hl, hm, hz, hcell, hwz⟩
  · exact ⟨0, 0, fun h => absurd h (Nat.lt_irrefl _), fun i hi => absurd hi (Nat.not_lt_zero _)⟩
  · obtain ⟨b, off, spot⟩ := x
    by_cases h0 : len = 0
    · subst h0
      exact ⟨0, 0, fun h => absurd h (Nat.lt_irrefl _), fun i hi => absurd hi (Nat.not_lt_zero _)⟩
    · have hspot : spot = none := by simpa [Addr.add] using World.cell?_spot (hcell 0 (by omega))
      subst hspot
      exact ⟨b, off, fun _ => rfl, fun i hi => by
        have h := hcell i (by omega)
        have e : Addr.add ⟨b, off, none⟩ i = ⟨b, off + i, none⟩ := by
          by_cases h0 : i = 0
          · subst h0; simp [Addr.add]
          · simp [Addr.add, h0]
        rwa [e] at h⟩

set_option maxHeartbeats 1600000 in
theorem law (a : Option Addr) (b off n cap : Nat) (f : Nat → Int) (bits : Int) (a2 : Option Addr) (b2 off2 n2 cap2 : Nat) (g : Nat → Int) (w : World) (hs : Seg w a b off n f) (hs2 : Seg w a2 b2 off2 n2 g) :
    Calls Try.prog 3 #[.slice a n cap, .int .i64 bits, .slice a2 n2 cap2] w fun e w' => e = .returned (.bool true) ∧ Below w.heap.size w w' := by
  by_cases hn : n ≤ 1048576
  · have hz : ¬ (1048576 : Int) < (n : Int) := by omega
    by_cases hn2 : n2 ≤ 1048576
    · have hz2 : ¬ (1048576 : Int) < (n2 : Int) := by omega
      go_enter Try.func3, Try.ntmps3
      go_wp2_with fail
      refine (toIntS_any _ b off _ _ f _ hs hn).mono ?_
      rintro e w1 ⟨rfl, hz1, hr1, B1⟩
      clear hz1
      go_wp2_with fail
      refine (toIntS_any _ b2 off2 _ _ g _ (hs2.of_all B1) hn2).mono ?_
      rintro e w2 ⟨rfl, hz2, hr2, hb2⟩
      clear hz2
      have B2 := B1.trans (hb2.mono B1.size)
      go_wp2_with fail
      refine (specInNet_any _ w.heap.size 0 _ _ f bits _ w1.heap.size 0 _ _ g _ (Seg.of_row (rowIs_below hr1 hb2 hr1.lt) (Nat.le_refl _)) hn (Seg.of_row hr2 (Nat.le_refl _)) hn2).mono ?_
      rintro e w3 ⟨rfl, qq, hw3⟩
      have hQ : Drawn w2 w3 := ⟨qq, hw3⟩
      clear hw3
      have B3 := B2.trans (hQ.below _)
      clear hr1 hr2 hb2 hQ B2
      go_wp2_with fail
      refine (toIntS_any _ b off _ _ f _ (hs.of_all B3) hn).mono ?_
      rintro e w4 ⟨rfl, hz1, hr4, hb4⟩
      clear hz1
      have B4 := B3.trans (hb4.mono B3.size)
      go_wp2_with fail
      refine (toIntS_any _ b2 off2 _ _ g _ (hs2.of_all B4) hn2).mono ?_
      rintro e w5 ⟨rfl, hz2, hr5, hb5⟩
      clear hz2
      have B5 := B4.trans (hb5.mono B4.size)
      have s4 : Seg w5 (some ⟨w3.heap.size, 0, none⟩) w3.heap.size 0 n f := Seg.of_row (rowIs_below hr4 hb5 hr4.lt) (Nat.le_refl _)
      have s5 : Seg w5 (some ⟨w4.heap.size, 0, none⟩) w4.heap.size 0 n2 g := Seg.of_row hr5 (Nat.le_refl _)
      clear hr4 hr5 hb4 hb5 B4
      go_wp2_with fail
      refine (implInNet_any _ w3.heap.size 0 _ _ f bits _ w4.heap.size 0 _ _ g _ s4 hn s5 hn2).mono ?_
      rintro e w6 ⟨rfl, qq, hw6⟩
      have hQ : Drawn w5 w6 := ⟨qq, hw6⟩
      clear hw6
      have B6 := B5.trans (hQ.below _)
      have s6 := s4.of_all (hQ.below _)
      have s7 := s5.of_all (hQ.below _)
      clear s4 s5 hQ B5
      generalize netB n f bits n2 g = R
      cases R
      all_goals
        go_wp2_with fail
        refine (toIntS_any _ b off _ _ f _ (hs.of_all B6) hn).mono ?_
        rintro e w8 ⟨rfl, hz1, hr8, hb8⟩
        clear hz1
        have B8 := B6.trans (hb8.mono B6.size)
        go_wp2_with fail
        refine (eqIntS_any _ w3.heap.size 0 _ _ f _ w6.heap.size 0 _ _ f _ (s6.of_all hb8) (Seg.of_row hr8 (Nat.le_refl _)) hn).mono ?_
        rintro e w9 ⟨rfl, q, rfl⟩
        rw [alike_refl]
        have B9 := below_drewN B8 q
        have s9 : Seg (w8.drewN q) (some ⟨w4.heap.size, 0, none⟩) w4.heap.size 0 n2 g := (s7.of_all hb8).of_all (below_drewN (Below.refl _ _) q)
        clear s6 s7 hb8 hr8 B8 B6
        generalize w8.drewN q = w9 at *
        go_wp2_with fail
        refine (toIntS_any _ b2 off2 _ _ g _ (hs2.of_all B9) hn2).mono ?_
        rintro e w10 ⟨rfl, hz1, hr10, hb10⟩
        clear hz1
        have B10 := B9.trans (hb10.mono B9.size)
        go_wp2_with fail
        refine (eqIntS_any _ w4.heap.size 0 _ _ g _ w9.heap.size 0 _ _ g _ (s9.of_all hb10) (Seg.of_row hr10 (Nat.le_refl _)) hn2).mono ?_
        rintro e w11 ⟨rfl, q2, rfl⟩
        rw [alike_refl]
        go_wp2
        go_ret
        exact ⟨rfl, below_drewN B10 q2⟩
    · have hz2 : (1048576 : Int) < (n2 : Int) := by omega
      go_enter Try.func3, Try.ntmps3
      go_wp2
      go_ret
      exact ⟨rfl, Below.refl _ _⟩
  · have hz : (1048576 : Int) < (n : Int) := by omega
    go_enter Try.func3, Try.ntmps3
    go_wp2
    go_ret
    exact ⟨rfl, Below.refl _ _⟩

theorem walk (a0 : Option Addr) (len0 cap0 : Nat) (z0 : List Int) (a1 : Int) (a2 : Option Addr) (len2 cap2 : Nat) (z2 : List Int) (w : World) (w0 : IsRow .i64 w a0 len0 cap0 z0) (w1 : (Lit.int .i64 a1).wf = true) (w2 : IsRow .i64 w a2 len2 cap2 z2) :
    Calls Try.prog 3 #[.slice a0 len0 cap0, .int .i64 a1, .slice a2 len2 cap2] w fun e w' => e = .returned (.bool true) ∧ Below w.heap.size w w' := by
  obtain ⟨b, off, hs⟩ := w0.seg
  obtain ⟨b2, off2, hs2⟩ := w2.seg
  exact law a0 b off len0 cap0 _ a1 a2 b2 off2 len2 cap2 _ w hs hs2

/-! ### THE ROW's STEP: WRITTEN OUT: LEAVE IT -/
set_option maxRecDepth 100000 in
theorem lifted (os : Os) (started : os.Started) (H : Type) (enc : TypeId × Value → H) :
    ReturnsInHanded {} Try.checked os 3 .any (Rows.fnExactInNetSpec.pre6 enc Try.prog Try.f3 Rows.fnExactInNetRow.domain false) (Rows.fnExactInNetSpec.post enc Try.prog Try.f3 false true false false) := by
  refine returnsInHanded_of_change (C := Try.checked) own started (by kernel_rfl) Try.func3
    (ChangeSpec.witness6 (enc := enc) (C := Try.checked) false ⟨#[], #[.slice none 0 0, .int .i64 0, .slice none 0 0], []⟩ 8 (by kernel_rfl) (by kernel_rfl) (by kernel_rfl) (by kernel_rfl)) ?_
  intro W base args ds gs before hval0 hW hcnd _
  have hval : ∀ (j : Nat) t v, Try.f3.params[j]? = some t → args[j]? = some v → Value.okWide Try.prog W .any base t v := hval0
  have hW' := hW
  obtain ⟨p, q, hA0, hV, rfl, hfz, hnd⟩ := hW
  have hA : DataW.TrodAll enc Try.prog W 0 (fun _ => true) true Try.f3.params.toList args.toList ds p := hA0
  rw [Try.params3] at hA hval
  obtain ⟨v0, vs0, d0, ds0, p0, q0, hargs, rfl, rfl, h0, r0⟩ := trodAll_cons hA
  obtain ⟨v1, vs1, d1, ds1, p1, q1, rfl, rfl, rfl, h1, r1⟩ := trodAll_cons r0
  obtain ⟨v2, vs2, d2, ds2, p2, q2, rfl, rfl, rfl, h2, r2⟩ := trodAll_cons r1
  obtain ⟨rfl, rfl, rfl⟩ := trodAll_nil r2
  obtain rfl : args = #[v0, v1, v2] := by cases args; simp_all
  obtain ⟨rfl, rfl⟩ := trodVars_none hV
  obtain ⟨a0, len0, cap0, rfl⟩ := okWide_slice Try.underlying22 (hval 0 22 v0 rfl rfl)
  have k0 := h0
  have lt0 : ∀ x ∈ p0, x.block < W.heap.size := by obtain ⟨m, hm⟩ := k0; exact DataW.trod_lt m _ _ _ hm
  obtain ⟨z0, w0⟩ : ∃ zs, IsRow .i64 W a0 len0 cap0 zs := by
    obtain ⟨fuel, hf⟩ := h0
    rcases open_ints Try.underlying22 Try.underlying3 (by kernel_rfl) hf with ⟨hcs, _⟩ | ⟨x, l, c, zs, hcs, _, hl, hm, hz, _, hcell, hwz⟩
    · simp [Value.cells] at hcs
      obtain ⟨rfl, rfl, rfl⟩ := hcs
      exact ⟨[], .inl ⟨rfl, rfl, rfl, rfl⟩⟩
    · simp [Value.cells] at hcs
      obtain ⟨rfl, rfl, rfl⟩ := hcs
      exact ⟨zs, .inr ⟨_, rfl, hl, hm, by simpa using hz, hcell, hwz⟩⟩
  obtain ⟨a1, rfl, rfl, rfl, w1⟩ := open_int Try.underlying3 (hval 1 3 v1 rfl rfl) h1
  obtain ⟨a2, len2, cap2, rfl⟩ := okWide_slice Try.underlying22 (hval 2 22 v2 rfl rfl)
  have k2 := h2
  have lt2 : ∀ x ∈ p2, x.block < W.heap.size := by obtain ⟨m, hm⟩ := k2; exact DataW.trod_lt m _ _ _ hm
  obtain ⟨z2, w2⟩ : ∃ zs, IsRow .i64 W a2 len2 cap2 zs := by
    obtain ⟨fuel, hf⟩ := h2
    rcases open_ints Try.underlying22 Try.underlying3 (by kernel_rfl) hf with ⟨hcs, _⟩ | ⟨x, l, c, zs, hcs, _, hl, hm, hz, _, hcell, hwz⟩
    · simp [Value.cells] at hcs
      obtain ⟨rfl, rfl, rfl⟩ := hcs
      exact ⟨[], .inl ⟨rfl, rfl, rfl, rfl⟩⟩
    · simp [Value.cells] at hcs
      obtain ⟨rfl, rfl, rfl⟩ := hcs
      exact ⟨zs, .inr ⟨_, rfl, hl, hm, by simpa using hz, hcell, hwz⟩⟩
  clear hA0 hval0
  refine (walk a0 len0 cap0 z0 a1 a2 len2 cap2 z2 W w0 w1 w2).mono fun e W' ⟨he, bel⟩ => ?_
  subst he
  exact ⟨_, rfl, _, _, _, [], _, [], hW', trodAll_mk1 (shut_bool Try.underlying4 _), (trodAll_cons_mk (Below.trod laidOut (by kernel_rfl) (of_decide_eq_true (by kernel_rfl)) k0 bel lt0) (trodAll_cons_mk (shut_int Try.underlying3 w1) (trodAll_cons_mk (Below.trod laidOut (by kernel_rfl) (of_decide_eq_true (by kernel_rfl)) k2 bel lt2) trodAll_mk0))), rfl, bel.frame _, fun h => by cases h⟩

theorem over : Rows.fnExactInNetRow.holds Try.pinned (OpenSpec.ofChange Rows.fnExactInNetSpec) :=
  OpenClaim.holds_of_wide 3 Try.f3 rfl rfl rfl rfl rfl rfl rfl ⟨rfl, rfl, rfl, rfl, rfl⟩ rfl rfl rfl rfl rfl (by kernel_rfl) Try.func3 (by kernel_rfl)
    (of_decide_eq_true (by kernel_rfl)) (by unfold Func.isWrapper; first | (rw [if_pos (by decide +kernel)]; kernel_rfl) | (rw [if_neg (by decide +kernel)]; exact ⟨rfl, rfl⟩))
    (fun os started H enc _ => lifted os started H enc)

/-- ████ THE STATEMENT ████ -/
theorem proved : Rows.FnExactInNetSaid := over
end Go.Proofs.Ytifokecmmnineab.fnExactInNet

namespace Go.Proofs.Ytifokecmmnineab
/-- The given statement. -/
theorem fnExactInNet_holds : Rows.FnExactInNetSaid := fnExactInNet.proved
#print axioms fnExactInNet_holds
end Go.Proofs.Ytifokecmmnineab
