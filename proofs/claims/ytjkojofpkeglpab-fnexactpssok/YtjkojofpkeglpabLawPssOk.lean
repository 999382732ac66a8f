/- Proved: at every argument the law FnExactPssOk answers true and leaves its arguments as they were: the program's PssOk answers as the model's at every two lists of at most 1048576 bytes and every number, and writes into no argument (beyond 1048576 bytes the law itself answers true at once). No condition. -/
import Derived.Test.YtjkojofpkeglpabRows
import Derived.WalkKit
import Derived.ProofKit
import Derived.OpenShut
import Derived.ShutString
import Derived.ChangeOld
import Derived.Below
import Derived.Test.YtjkojofpkeglpabPssC
import Derived.Test.YtjkojofpkeglpabBMarks
namespace Go.Proofs.Ytjkojofpkeglpab.fnExactPssOk
open Go.ChangeShapes Go.WideShapes Go.ChangeAt Go.RowKit
open Go.ChangeMaps (open_string shut_string)
set_option linter.unusedVariables false

theorem own : ownKnob Try.prog.godebug = none := by kernel_rfl
theorem laidOut : laidOutB Try.prog = true := by kernel_rfl

/-- WHAT THE WALK IS TOLD OF A SLICE OF INTEGERS THAT CAME IN: it is nil; or it leads to a row of 'cap' cells, the numbers 'zs' (the first 'len' are its elements, the rest its spare room), each fitting its kind. -/
def IsRow (k : IntKind) (w : World) (a : Option Addr) (len cap : Nat) (zs : List Int) : Prop :=
  (a = none ∧ len = 0 ∧ cap = 0 ∧ zs = []) ∨
  ∃ x, a = some x ∧ len ≤ cap ∧ cap ≤ maxLen ∧ zs.length = cap ∧ (∀ i, i < zs.length → w.cell? (x.add i) = some (.int k (zs.getD i 0))) ∧ ∀ n ∈ zs, (Lit.int k n).wf = true

theorem IsRow.seg {w : World} {a : Option Addr} {len cap : Nat} {zs : List Int} (h : IsRow .u8 w a len cap zs) : ∃ b off, BSeg w a b off len (fun i => zs.getD i 0) ∧ ∀ i, i < len → 0 ≤ zs.getD i 0 ∧ zs.getD i 0 < 256 := by
  rcases h with ⟨rfl, rfl, rfl, rfl⟩ | ⟨x, rfl, hl, hm, hz, hcell, hwz⟩
  · exact ⟨0, 0, ⟨fun h => absurd h (Nat.lt_irrefl _), fun i hi => absurd hi (Nat.not_lt_zero _)⟩, fun i hi => absurd hi (Nat.not_lt_zero _)⟩
  · obtain ⟨b, off, spot⟩ := x
    by_cases h0 : len = 0
    · subst h0
      exact ⟨0, 0, ⟨fun h => absurd h (Nat.lt_irrefl _), fun i hi => absurd hi (Nat.not_lt_zero _)⟩, fun i hi => absurd hi (Nat.not_lt_zero _)⟩
    · have hspot : spot = none := by simpa [Addr.add] using World.cell?_spot (hcell 0 (by omega))
      subst hspot
      exact ⟨b, off, ⟨fun _ => rfl, fun i hi => by
        have h := hcell i (by omega)
        have e : Addr.add ⟨b, off, none⟩ i = ⟨b, off + i, none⟩ := by
          by_cases h0 : i = 0
          · subst h0; simp [Addr.add]
          · simp [Addr.add, h0]
        rwa [e] at h⟩, fun i hi => by
        have hm : zs.getD i 0 ∈ zs := by
          rw [List.getD_eq_getElem?_getD, List.getElem?_eq_getElem (show i < zs.length by omega)]
          exact List.getElem_mem _
        have := bounds_u8 (hwz _ hm)
        omega⟩

set_option maxHeartbeats 4000000 in
set_option maxRecDepth 100000 in
theorem law (a : Option Addr) (b off n cap : Nat) (f : Nat → Int) (z : Int) (da : Option Addr) (db doff m dcap : Nat) (fd : Nat → Int) (r : Bool) (w : World) (hs : BSeg w a b off n f) (hn : n ≤ 1048576) (hd : BSeg w da db doff m fd) (hm : m ≤ 1048576)
    (Hsp : Hid (∀ (p q : Nat) (w : World), BSeg w (some ⟨p, 0, none⟩) p 0 n f → BSeg w (some ⟨q, 0, none⟩) q 0 m fd → Calls Try.prog 19 #[.slice (some ⟨p, 0, none⟩) n n, .int .i64 z, .slice (some ⟨q, 0, none⟩) m m] w fun e w' => e = .returned (.bool r) ∧ Ext w w'))
    (Him : Hid (∀ (p q : Nat) (w : World), BSeg w (some ⟨p, 0, none⟩) p 0 n f → BSeg w (some ⟨q, 0, none⟩) q 0 m fd → Calls Try.prog 18 #[.slice (some ⟨p, 0, none⟩) n n, .int .i64 z, .slice (some ⟨q, 0, none⟩) m m] w fun e w' => e = .returned (.bool r) ∧ Ext w w')) :
    Calls Try.prog 6 #[.slice a n cap, .int .i64 z, .slice da m dcap] w fun e w' => e = .returned (.bool true) ∧ Below w.heap.size w w' := by
  have hz : ¬ (1048576 : Int) < (n : Int) := by omega
  have hz2 : ¬ (1048576 : Int) < (m : Int) := by omega
  have hrr : (r != r) = false := by simp
  have Hs := hide hs
  have Hd := hide hd
  clear hs hd
  go_enter Try.func6, Try.ntmps6
  go_wp2_with fail
  refine (toByteS_any _ b off _ _ f _ Hs.out hn).mono ?_
  rintro e w1 ⟨rfl, -, hr1, B1⟩
  have S1 := hide (BSeg.of_row hr1 (Nat.le_refl _))
  have E1 : Hid (Ext w w1) := hide B1
  clear hr1 B1
  go_wp2_with fail
  refine (toByteS_any _ db doff _ _ fd _ (Hd.out.of_all E1.out) hm).mono ?_
  rintro e w2 ⟨rfl, -, hr2, B2⟩
  have S2 := hide (BSeg.of_row hr2 (Nat.le_refl _))
  replace S1 := hide (S1.out.of_all B2)
  have E2 : Hid (Ext w w2) := hide (E1.out.trans B2)
  clear hr2 B2 E1
  go_wp2_with fail
  refine (Hsp.out _ _ w2 S1.out S2.out).mono ?_
  rintro e w3 ⟨rfl, B3⟩
  have E3 : Hid (Ext w w3) := hide (E2.out.trans B3)
  clear S1 S2 B3 E2
  go_wp2_with fail
  refine (toByteS_any _ b off _ _ f _ (Hs.out.of_all E3.out) hn).mono ?_
  rintro e w4 ⟨rfl, -, hr4, B4⟩
  have S4 := hide (BSeg.of_row hr4 (Nat.le_refl _))
  have E4 : Hid (Ext w w4) := hide (E3.out.trans B4)
  clear hr4 B4 E3
  go_wp2_with fail
  refine (toByteS_any _ db doff _ _ fd _ (Hd.out.of_all E4.out) hm).mono ?_
  rintro e w5 ⟨rfl, -, hr5, B5⟩
  have S5 := hide (BSeg.of_row hr5 (Nat.le_refl _))
  replace S4 := hide (S4.out.of_all B5)
  have E5 : Hid (Ext w w5) := hide (E4.out.trans B5)
  clear hr5 B5 E4
  go_wp2_with fail
  refine (Him.out _ _ w5 S4.out S5.out).mono ?_
  rintro e w6 ⟨rfl, B6⟩
  replace S4 := hide (S4.out.of_all B6)
  replace S5 := hide (S5.out.of_all B6)
  have E6 : Hid (Ext w w6) := hide (E5.out.trans B6)
  clear B6 E5
  go_wp2_with fail
  refine (toByteS_any _ b off _ _ f _ (Hs.out.of_all E6.out) hn).mono ?_
  rintro e w7 ⟨rfl, -, hr7, B7⟩
  have S7 := hide (BSeg.of_row hr7 (Nat.le_refl _))
  replace S4 := hide (S4.out.of_all B7)
  replace S5 := hide (S5.out.of_all B7)
  have E7 : Hid (Ext w w7) := hide (E6.out.trans B7)
  clear hr7 B7 E6
  go_wp2_with fail
  refine (eqByteS_any _ _ 0 n _ f _ _ 0 n _ f _ S4.out S7.out hn).mono ?_
  rintro e w8 ⟨rfl, q, rfl⟩
  rw [alike_refl]
  have D8 : Ext w7 (w7.drewN q) := below_drewN (Below.refl _ _) q
  replace S5 := hide (S5.out.of_all D8)
  have E8 : Hid (Ext w (w7.drewN q)) := hide (E7.out.trans D8)
  clear D8 S4 S7 E7
  generalize w7.drewN q = w8 at *
  go_wp2_with fail
  refine (toByteS_any _ db doff _ _ fd _ (Hd.out.of_all E8.out) hm).mono ?_
  rintro e w9 ⟨rfl, -, hr9, B9⟩
  have S9 := hide (BSeg.of_row hr9 (Nat.le_refl _))
  replace S5 := hide (S5.out.of_all B9)
  have E9 : Hid (Ext w w9) := hide (E8.out.trans B9)
  clear hr9 B9 E8
  go_wp2_with fail
  refine (eqByteS_any _ _ 0 m _ fd _ _ 0 m _ fd _ S5.out S9.out hm).mono ?_
  rintro e w10 ⟨rfl, q2, rfl⟩
  rw [alike_refl]
  go_wp2
  go_ret
  exact ⟨rfl, below_drewN E9.out q2⟩

theorem law_long (a : Option Addr) (n cap : Nat) (z : Int) (da : Option Addr) (m dcap : Nat) (w : World) (hn : ¬ (n ≤ 1048576 ∧ m ≤ 1048576)) :
    Calls Try.prog 6 #[.slice a n cap, .int .i64 z, .slice da m dcap] w fun e w' => e = .returned (.bool true) ∧ Below w.heap.size w w' := by
  by_cases h1 : (1048576 : Int) < (n : Int)
  · go_enter Try.func6, Try.ntmps6
    go_wp2
    go_ret
    exact ⟨rfl, Below.refl _ _⟩
  · have h2 : (1048576 : Int) < (m : Int) := by omega
    go_enter Try.func6, Try.ntmps6
    go_wp2
    go_ret
    exact ⟨rfl, Below.refl _ _⟩

theorem walk (a0 : Option Addr) (len0 cap0 : Nat) (z0 : List Int) (a1 : Int) (a2 : Option Addr) (len2 cap2 : Nat) (z2 : List Int) (w : World) (w0 : IsRow .u8 w a0 len0 cap0 z0) (w1 : (Lit.int .i64 a1).wf = true) (w2 : IsRow .u8 w a2 len2 cap2 z2) :
    Calls Try.prog 6 #[.slice a0 len0 cap0, .int .i64 a1, .slice a2 len2 cap2] w fun e w' => e = .returned (.bool true) ∧ Below w.heap.size w w' := by
  obtain ⟨b, off, hs, hy⟩ := w0.seg
  obtain ⟨db, doff, hd, hdy⟩ := w2.seg
  by_cases hn : len0 ≤ 1048576 ∧ len2 ≤ 1048576
  · exact law a0 b off len0 cap0 _ a1 a2 db doff len2 cap2 _ (pssB _ len0 a1 _ len2) w hs hn.1 hd hn.2 (hide (fun p q w h1 h2 => specPssOk_any _ p 0 len0 len0 _ a1 _ q 0 len2 len2 _ w (Nat.le_refl _) (by omega) h1 hy h2 hdy)) (hide (fun p q w h1 h2 => implPssOk_any _ p 0 len0 len0 _ a1 _ q 0 len2 len2 _ w (Nat.le_refl _) (by omega) h1 hy h2 hdy))
  · exact law_long a0 len0 cap0 a1 a2 len2 cap2 w hn

/-! ### THE ROW's STEP: WRITTEN OUT: LEAVE IT -/
set_option maxRecDepth 100000 in
theorem lifted (os : Os) (started : os.Started) (H : Type) (enc : TypeId × Value → H) :
    ReturnsInHanded {} Try.checked os 6 .any (Rows.fnExactPssOkSpec.pre6 enc Try.prog Try.f6 Rows.fnExactPssOkRow.domain false) (Rows.fnExactPssOkSpec.post enc Try.prog Try.f6 false true false false) := by
  refine returnsInHanded_of_change (C := Try.checked) own started (by kernel_rfl) Try.func6
    (ChangeSpec.witness6 (enc := enc) (C := Try.checked) false ⟨#[], #[.slice none 0 0, .int .i64 0, .slice none 0 0], []⟩ 8 (by kernel_rfl) (by kernel_rfl) (by kernel_rfl) (by kernel_rfl)) ?_
  intro W base args ds gs before hval0 hW hcnd _
  have hval : ∀ (j : Nat) t v, Try.f6.params[j]? = some t → args[j]? = some v → Value.okWide Try.prog W .any base t v := hval0
  have hW' := hW
  obtain ⟨p, q, hA0, hV, rfl, hfz, hnd⟩ := hW
  have hA : DataW.TrodAll enc Try.prog W 0 (fun _ => true) true Try.f6.params.toList args.toList ds p := hA0
  rw [Try.params6] at hA hval
  obtain ⟨v0, vs0, d0, ds0, p0, q0, hargs, rfl, rfl, h0, r0⟩ := trodAll_cons hA
  obtain ⟨v1, vs1, d1, ds1, p1, q1, rfl, rfl, rfl, h1, r1⟩ := trodAll_cons r0
  obtain ⟨v2, vs2, d2, ds2, p2, q2, rfl, rfl, rfl, h2, r2⟩ := trodAll_cons r1
  obtain ⟨rfl, rfl, rfl⟩ := trodAll_nil r2
  obtain rfl : args = #[v0, v1, v2] := by cases args; simp_all
  obtain ⟨rfl, rfl⟩ := trodVars_none hV
  obtain ⟨a0, len0, cap0, rfl⟩ := okWide_slice Try.underlying22 (hval 0 22 v0 rfl rfl)
  have k0 := h0
  have lt0 : ∀ x ∈ p0, x.block < W.heap.size := by obtain ⟨m, hm⟩ := k0; exact DataW.trod_lt m _ _ _ hm
  obtain ⟨z0, w0⟩ : ∃ zs, IsRow .u8 W a0 len0 cap0 zs := by
    obtain ⟨fuel, hf⟩ := h0
    rcases open_ints Try.underlying22 Try.underlying5 (by kernel_rfl) hf with ⟨hcs, _⟩ | ⟨x, l, c, zs, hcs, _, hl, hm, hz, _, hcell, hwz⟩
    · simp [Value.cells] at hcs
      obtain ⟨rfl, rfl, rfl⟩ := hcs
      exact ⟨[], .inl ⟨rfl, rfl, rfl, rfl⟩⟩
    · simp [Value.cells] at hcs
      obtain ⟨rfl, rfl, rfl⟩ := hcs
      exact ⟨zs, .inr ⟨_, rfl, hl, hm, by simpa using hz, hcell, hwz⟩⟩
  obtain ⟨a1, rfl, rfl, rfl, w1⟩ := open_int Try.underlying3 (hval 1 3 v1 rfl rfl) h1
  obtain ⟨a2, len2, cap2, rfl⟩ := okWide_slice Try.underlying22 (hval 2 22 v2 rfl rfl)
  have k2 := h2
  have lt2 : ∀ x ∈ p2, x.block < W.heap.size := by obtain ⟨m, hm⟩ := k2; exact DataW.trod_lt m _ _ _ hm
  obtain ⟨z2, w2⟩ : ∃ zs, IsRow .u8 W a2 len2 cap2 zs := by
    obtain ⟨fuel, hf⟩ := h2
    rcases open_ints Try.underlying22 Try.underlying5 (by kernel_rfl) hf with ⟨hcs, _⟩ | ⟨x, l, c, zs, hcs, _, hl, hm, hz, _, hcell, hwz⟩
    · simp [Value.cells] at hcs
      obtain ⟨rfl, rfl, rfl⟩ := hcs
      exact ⟨[], .inl ⟨rfl, rfl, rfl, rfl⟩⟩
    · simp [Value.cells] at hcs
      obtain ⟨rfl, rfl, rfl⟩ := hcs
      exact ⟨zs, .inr ⟨_, rfl, hl, hm, by simpa using hz, hcell, hwz⟩⟩
  clear hA0 hval0
  refine (walk a0 len0 cap0 z0 a1 a2 len2 cap2 z2 W w0 w1 w2).mono fun e W' ⟨he, bel⟩ => ?_
  subst he
  exact ⟨_, rfl, _, _, _, [], _, [], hW', trodAll_mk1 (shut_bool Try.underlying4 _), (trodAll_cons_mk (Below.trod laidOut (by kernel_rfl) (of_decide_eq_true (by kernel_rfl)) k0 bel lt0) (trodAll_cons_mk (shut_int Try.underlying3 w1) (trodAll_cons_mk (Below.trod laidOut (by kernel_rfl) (of_decide_eq_true (by kernel_rfl)) k2 bel lt2) trodAll_mk0))), rfl, bel.frame _, fun h => by cases h⟩

theorem over : Rows.fnExactPssOkRow.holds Try.pinned (OpenSpec.ofChange Rows.fnExactPssOkSpec) :=
  OpenClaim.holds_of_wide 6 Try.f6 rfl rfl rfl rfl rfl rfl rfl ⟨rfl, rfl, rfl, rfl, rfl⟩ rfl rfl rfl rfl rfl (by kernel_rfl) Try.func6 (by kernel_rfl)
    (of_decide_eq_true (by kernel_rfl)) (by unfold Func.isWrapper; first | (rw [if_pos (by decide +kernel)]; kernel_rfl) | (rw [if_neg (by decide +kernel)]; exact ⟨rfl, rfl⟩))
    (fun os started H enc _ => lifted os started H enc)

/-- ████ THE STATEMENT ████ -/
theorem proved : Rows.FnExactPssOkSaid := over
end Go.Proofs.Ytjkojofpkeglpab.fnExactPssOk

namespace Go.Proofs.Ytjkojofpkeglpab
/-- The given statement. -/
theorem fnExactPssOk_holds : Rows.FnExactPssOkSaid := fnExactPssOk.proved
#print axioms fnExactPssOk_holds
end Go.Proofs.Ytjkojofpkeglpab
