/- Proved: at every argument the law FnExactPuny answers true and leaves its argument as it was: the program's Puny answers as the model's at every list of at most 1048576 numbers, and writes into no argument (beyond that length the law itself answers true at once). No condition. -/
import Derived.Test.YtifokecmmnineacRows
import Derived.WalkKit
import Derived.ProofKit
import Derived.OpenShut
import Derived.ShutString
import Derived.ChangeOld
import Derived.Below
import Derived.Test.YtifokecmmnineacPnI
import Derived.Test.YtifokecmmnineacLists
namespace Go.Proofs.Ytifokecmmnineac.fnExactPuny
open Go.ChangeShapes Go.WideShapes Go.ChangeAt Go.RowKit
open Go.ChangeMaps (open_string shut_string)
set_option linter.unusedVariables false

theorem own : ownKnob Try.prog.godebug = none := by kernel_rfl
theorem laidOut : laidOutB Try.prog = true := by kernel_rfl

/-- WHAT THE WALK IS TOLD OF A SLICE OF INTEGERS THAT CAME IN: it is nil; or it leads to a row of 'cap' cells, the numbers 'zs' (the first 'len' are its elements, the rest its spare room), each fitting its kind. -/
def IsRow (k : IntKind) (w : World) (a : Option Addr) (len cap : Nat) (zs : List Int) : Prop :=
  (a = none ∧ len = 0 ∧ cap = 0 ∧ zs = []) ∨
  ∃ x, a = some x ∧ len ≤ cap ∧ cap ≤ maxLen ∧ zs.length = cap ∧ (∀ i, i < zs.length → w.cell? (x.add i) = some (.int k (zs.getD i 0))) ∧ ∀ n ∈ zs, (Lit.int k n).wf = true

theorem IsRow.seg {w : World} {a : Option Addr} {len cap : Nat} {zs : List Int} (h : IsRow .i64 w a len cap zs) : ∃ b off, Seg w a b off len (fun i => zs.getD i 0) := by
  rcases h with ⟨rfl, rfl, rfl, rfl⟩ | ⟨x, rfl, hl, hm, hz, hcell, hwz⟩
  · exact ⟨0, 0, fun h => absurd h (Nat.lt_irrefl _), fun i hi => absurd hi (Nat.not_lt_zero _)⟩
  · obtain ⟨b, off, spot⟩ := x
    by_cases h0 : len = 0
    · subst h0
      exact ⟨0, 0, fun h => absurd h (Nat.lt_irrefl _), fun i hi => absurd hi (Nat.not_lt_zero _)⟩
    · have hspot : spot = none := by simpa [Addr.add] using World.cell?_spot (hcell 0 (by omega))
      subst hspot
      exact ⟨b, off, fun _ => rfl, fun i hi => by
        have h := hcell i (by omega)
        have e : Addr.add ⟨b, off, none⟩ i = ⟨b, off + i, none⟩ := by
          by_cases h0 : i = 0
          · subst h0; simp [Addr.add]
          · simp [Addr.add, h0]
        rwa [e] at h⟩

set_option maxHeartbeats 1600000 in
theorem law (a : Option Addr) (b off n cap : Nat) (f : Nat → Int) (w : World) (hs : Seg w a b off n f) :
    Calls Try.prog 3 #[.slice a n cap] w fun e w' => e = .returned (.bool true) ∧ Below w.heap.size w w' := by
  by_cases hn : n ≤ 1048576
  · have hz : ¬ (1048576 : Int) < (n : Int) := by omega
    have HSp : Hid (∀ (a : Option Addr) (b off cap : Nat) (w : World), Seg w a b off n f → Calls Try.prog 9 #[.slice a n cap] w fun e w' => e = .returned (.tuple #[.string (punyS n f), .bool (wordB n f)]) ∧ Ext w w') := fun a b off cap w h => specPuny_any a b off n cap f w h hn
    have HIm : Hid (∀ (a : Option Addr) (b off cap : Nat) (w : World), Seg w a b off n f → Calls Try.prog 11 #[.slice a n cap] w fun e w' => e = .returned (.tuple #[.string (punyS n f), .bool (wordB n f)]) ∧ Ext w w') := fun a b off cap w h => implPuny_any a b off n cap f w h hn
    generalize punyS n f = R at *
    generalize wordB n f = ok at *
    go_enter Try.func3, Try.ntmps3
    go_wp2_with fail
    refine (toIntS_any _ b off _ _ f _ hs hn).mono ?_
    rintro e w1 ⟨rfl, hz1, hr1, hb1⟩
    clear hz1
    go_wp2_with fail
    refine (HSp.out _ w.heap.size 0 _ _ (Seg.of_row hr1 (Nat.le_refl _))).mono ?_
    rintro e w2 ⟨rfl, hE2⟩
    have B2 := hb1.trans (hE2.mono hb1.size)
    clear hr1 hE2 hb1
    go_wp2_with fail
    refine (toIntS_any _ b off _ _ f _ (hs.of_all B2) hn).mono ?_
    rintro e w3 ⟨rfl, hz3, hr3, hb3⟩
    clear hz3
    have B3 := B2.trans (hb3.mono B2.size)
    have s3 : Seg w3 (some ⟨w2.heap.size, 0, none⟩) w2.heap.size 0 n f := Seg.of_row hr3 (Nat.le_refl _)
    clear hr3 hb3
    go_wp2_with fail
    refine (HIm.out _ w2.heap.size 0 _ _ s3).mono ?_
    rintro e w4 ⟨rfl, hE4⟩
    have B4 := B3.trans (hE4.mono B3.size)
    have s4 := s3.of_all hE4
    clear s3 hE4
    cases ok
    all_goals
      go_wp2_with fail
      refine (toIntS_any _ b off _ _ f _ (hs.of_all B4) hn).mono ?_
      rintro e w5 ⟨rfl, hz5, hr5, hb5⟩
      clear hz5
      have B5 := B4.trans (hb5.mono B4.size)
      go_wp2_with fail
      refine (eqIntS_any _ w2.heap.size 0 _ _ f _ w4.heap.size 0 _ _ f _ (s4.of_all hb5) (Seg.of_row hr5 (Nat.le_refl _)) hn).mono ?_
      rintro e w6 ⟨rfl, q, rfl⟩
      rw [alike_refl]
      go_wp2
      go_ret
      exact ⟨rfl, below_drewN B5 q⟩
  · have hz : (1048576 : Int) < (n : Int) := by omega
    go_enter Try.func3, Try.ntmps3
    go_wp2
    go_ret
    exact ⟨rfl, Below.refl _ _⟩

theorem walk (a0 : Option Addr) (len0 cap0 : Nat) (z0 : List Int) (w : World) (w0 : IsRow .i64 w a0 len0 cap0 z0) :
    Calls Try.prog 3 #[.slice a0 len0 cap0] w fun e w' => e = .returned (.bool true) ∧ Below w.heap.size w w' := by
  obtain ⟨b, off, hs⟩ := w0.seg
  exact law a0 b off len0 cap0 _ w hs

/-! ### THE ROW's STEP: WRITTEN OUT: LEAVE IT -/
set_option maxRecDepth 100000 in
theorem lifted (os : Os) (started : os.Started) (H : Type) (enc : TypeId × Value → H) :
    ReturnsInHanded {} Try.checked os 3 .any (Rows.fnExactPunySpec.pre6 enc Try.prog Try.f3 Rows.fnExactPunyRow.domain false) (Rows.fnExactPunySpec.post enc Try.prog Try.f3 false true false false) := by
  refine returnsInHanded_of_change (C := Try.checked) own started (by kernel_rfl) Try.func3
    (ChangeSpec.witness6 (enc := enc) (C := Try.checked) false ⟨#[], #[.slice none 0 0], []⟩ 8 (by kernel_rfl) (by kernel_rfl) (by kernel_rfl) (by kernel_rfl)) ?_
  intro W base args ds gs before hval0 hW hcnd _
  have hval : ∀ (j : Nat) t v, Try.f3.params[j]? = some t → args[j]? = some v → Value.okWide Try.prog W .any base t v := hval0
  have hW' := hW
  obtain ⟨p, q, hA0, hV, rfl, hfz, hnd⟩ := hW
  have hA : DataW.TrodAll enc Try.prog W 0 (fun _ => true) true Try.f3.params.toList args.toList ds p := hA0
  rw [Try.params3] at hA hval
  obtain ⟨v0, vs0, d0, ds0, p0, q0, hargs, rfl, rfl, h0, r0⟩ := trodAll_cons hA
  obtain ⟨rfl, rfl, rfl⟩ := trodAll_nil r0
  obtain rfl : args = #[v0] := by cases args; simp_all
  obtain ⟨rfl, rfl⟩ := trodVars_none hV
  obtain ⟨a0, len0, cap0, rfl⟩ := okWide_slice Try.underlying22 (hval 0 22 v0 rfl rfl)
  have k0 := h0
  have lt0 : ∀ x ∈ p0, x.block < W.heap.size := by obtain ⟨m, hm⟩ := k0; exact DataW.trod_lt m _ _ _ hm
  obtain ⟨z0, w0⟩ : ∃ zs, IsRow .i64 W a0 len0 cap0 zs := by
    obtain ⟨fuel, hf⟩ := h0
    rcases open_ints Try.underlying22 Try.underlying3 (by kernel_rfl) hf with ⟨hcs, _⟩ | ⟨x, l, c, zs, hcs, _, hl, hm, hz, _, hcell, hwz⟩
    · simp [Value.cells] at hcs
      obtain ⟨rfl, rfl, rfl⟩ := hcs
      exact ⟨[], .inl ⟨rfl, rfl, rfl, rfl⟩⟩
    · simp [Value.cells] at hcs
      obtain ⟨rfl, rfl, rfl⟩ := hcs
      exact ⟨zs, .inr ⟨_, rfl, hl, hm, by simpa using hz, hcell, hwz⟩⟩
  clear hA0 hval0
  refine (walk a0 len0 cap0 z0 W w0).mono fun e W' ⟨he, bel⟩ => ?_
  subst he
  exact ⟨_, rfl, _, _, _, [], _, [], hW', trodAll_mk1 (shut_bool Try.underlying4 _), (trodAll_cons_mk (Below.trod laidOut (by kernel_rfl) (of_decide_eq_true (by kernel_rfl)) k0 bel lt0) trodAll_mk0), rfl, bel.frame _, fun h => by cases h⟩

theorem over : Rows.fnExactPunyRow.holds Try.pinned (OpenSpec.ofChange Rows.fnExactPunySpec) :=
  OpenClaim.holds_of_wide 3 Try.f3 rfl rfl rfl rfl rfl rfl rfl ⟨rfl, rfl, rfl, rfl, rfl⟩ rfl rfl rfl rfl rfl (by kernel_rfl) Try.func3 (by kernel_rfl)
    (of_decide_eq_true (by kernel_rfl)) (by unfold Func.isWrapper; first | (rw [if_pos (by decide +kernel)]; kernel_rfl) | (rw [if_neg (by decide +kernel)]; exact ⟨rfl, rfl⟩))
    (fun os started H enc _ => lifted os started H enc)

/-- ████ THE STATEMENT ████ -/
theorem proved : Rows.FnExactPunySaid := over
end Go.Proofs.Ytifokecmmnineac.fnExactPuny

namespace Go.Proofs.Ytifokecmmnineac
/-- The given statement. -/
theorem fnExactPuny_holds : Rows.FnExactPunySaid := fnExactPuny.proved
#print axioms fnExactPuny_holds
end Go.Proofs.Ytifokecmmnineac
