/- Proved: at every two lists of ints handed to it the law FnExactModInv answers true and leaves its arguments as they were: the program's ModInv answers as the model's, writes into none, and its answer owns its memory, behind another call too (where one list is longer than 1048576 the law itself answers true at once). No condition. -/
import Derived.Test.YtmkmojcefgcmlabRows
import Derived.WalkKit
import Derived.ProofKit
import Derived.OpenShut
import Derived.ShutString
import Derived.ChangeOld
import Derived.Below
import Derived.Test.YtmkmojcefgcmlabModInv2
import Derived.Test.YtmkmojcefgcmlabLists
import Derived.Test.YtmkmojcefgcmlabMarks
namespace Go.Proofs.Ytmkmojcefgcmlab.fnExactModInv
open Go.ChangeShapes Go.WideShapes Go.ChangeAt Go.RowKit
open Go.ChangeMaps (open_string shut_string)
set_option linter.unusedVariables false

theorem own : ownKnob Try.prog.godebug = none := by kernel_rfl
theorem laidOut : laidOutB Try.prog = true := by kernel_rfl

/-- WHAT THE WALK IS TOLD OF A SLICE OF INTEGERS THAT CAME IN: it is nil; or it leads to a row of 'cap' cells, the numbers 'zs' (the first 'len' are its elements, the rest its spare room), each fitting its kind. -/
def IsRow (k : IntKind) (w : World) (a : Option Addr) (len cap : Nat) (zs : List Int) : Prop :=
  (a = none ∧ len = 0 ∧ cap = 0 ∧ zs = []) ∨
  ∃ x, a = some x ∧ len ≤ cap ∧ cap ≤ maxLen ∧ zs.length = cap ∧ (∀ i, i < zs.length → w.cell? (x.add i) = some (.int k (zs.getD i 0))) ∧ ∀ n ∈ zs, (Lit.int k n).wf = true

theorem IsRow.seg {w : World} {a : Option Addr} {len cap : Nat} {zs : List Int} (h : IsRow .i64 w a len cap zs) : ∃ b off, Seg w a b off len (fun i => zs.getD i 0) := by
  rcases h with ⟨rfl, rfl, rfl, rfl⟩ | ⟨x, rfl, hl, hm, hz, hcell, hwz⟩
  · exact ⟨0, 0, fun h => absurd h (Nat.lt_irrefl _), fun i hi => absurd hi (Nat.not_lt_zero _)⟩
  · obtain ⟨b, off, spot⟩ := x
    by_cases h0 : len = 0
    · subst h0
      exact ⟨0, 0, fun h => absurd h (Nat.lt_irrefl _), fun i hi => absurd hi (Nat.not_lt_zero _)⟩
    · have hspot : spot = none := by simpa [Addr.add] using World.cell?_spot (hcell 0 (by omega))
      subst hspot
      exact ⟨b, off, fun _ => rfl, fun i hi => by
        have h := hcell i (by omega)
        have e : Addr.add ⟨b, off, none⟩ i = ⟨b, off + i, none⟩ := by
          by_cases h0 : i = 0
          · subst h0; simp [Addr.add]
          · simp [Addr.add, h0]
        rwa [e] at h⟩

/-- Two lists alike, told the other way about. -/
theorem alike_of {n : Nat} {f g : Nat → Int} (h : ∀ i, i < n → f i = g i) : (n == n && alike g f n) = true := by simp [(alike_iff g f n).2 (fun i hi => (h i hi).symm)]

set_option maxHeartbeats 4000000 in
theorem law (a : Option Addr) (b off n cap : Nat) (f : Nat → Int) (a2 : Option Addr) (b2 off2 n2 cap2 : Nat) (g : Nat → Int) (w : World) (hs : Seg w a b off n f) (hs2 : Seg w a2 b2 off2 n2 g) (hn : n ≤ 1048576) (hn2 : n2 ≤ 1048576) :
    Calls Try.prog 5 #[.slice a n cap, .slice a2 n2 cap2] w fun e w' => e = .returned (.bool true) ∧ Below w.heap.size w w' := by
  have hz : ¬ (1048576 : Int) < (n : Int) := by omega
  have hz2 : ¬ (1048576 : Int) < (n2 : Int) := by omega
  go_enter Try.func5, Try.ntmps5
  go_wp2_with fail
  refine (toIntS_any _ b off _ _ f _ hs hn).mono ?_
  rintro e w1 ⟨rfl, hzz, hr, hb⟩
  clear hzz
  have B_1 := hb
  have p0_1 : Own w1 (some ⟨w.heap.size, 0, none⟩) w.heap.size 0 n f := Own.of_row hr (Nat.le_refl _)
  clear hr hb
  go_wp2_with fail
  refine (toIntS_any _ b2 off2 _ _ g _ (hs2.of_all B_1) hn2).mono ?_
  rintro e w2 ⟨rfl, hzz, hr, hb⟩
  clear hzz
  have B_2 := B_1.trans (hb.mono B_1.size)
  have p0_2 := p0_1.of_all hb
  clear B_1 p0_1
  have p1_2 : Own w2 (some ⟨w1.heap.size, 0, none⟩) w1.heap.size 0 n2 g := Own.of_row hr (Nat.le_refl _)
  clear hr hb
  go_wp2_with fail
  refine (specModInv_any _ w.heap.size 0 _ _ f _ w1.heap.size 0 _ _ g _ p0_2.toSeg p1_2.toSeg hn hn2).mono ?_
  rintro e w3 ⟨a_s, g_s, c_s, n_s, f_s, ok_s, rfl, hn_s, hN_s, hg_s, hO_s, hb⟩
  have B_3 := B_2.trans (hb.mono B_2.size)
  have p0_3 := p0_2.of_all hb
  have p1_3 := p1_2.of_all hb
  clear B_2 p0_2 p1_2
  clear hb
  clear p0_3 p1_3
  have lt3 : 0 < n_s → g_s < w3.heap.size := fun h => hO_s.lt h
  have s_3 := hO_s.toSeg
  clear hO_s hg_s
  have ge3 : w.heap.size ≤ w3.heap.size := B_3.size
  go_wp2_with fail
  refine (toIntS_any _ b off _ _ f _ (hs.of_all B_3) hn).mono ?_
  rintro e w4 ⟨rfl, hzz, hr, hb⟩
  have lt_w4 : w3.heap.size < w4.heap.size := by omega
  clear hzz
  have B_4 := B_3.trans (hb.mono B_3.size)
  have s_4 := s_3.of_all hb
  clear B_3 s_3
  have x0_4 : Own w4 (some ⟨w3.heap.size, 0, none⟩) w3.heap.size 0 n f := Own.of_row hr (Nat.le_refl _)
  clear hr hb
  go_wp2_with fail
  refine (toIntS_any _ b2 off2 _ _ g _ (hs2.of_all B_4) hn2).mono ?_
  rintro e w5 ⟨rfl, hzz, hr, hb⟩
  have lt_w5 : w4.heap.size < w5.heap.size := by omega
  clear hzz
  have B_5 := B_4.trans (hb.mono B_4.size)
  have s_5 := s_4.of_all hb
  have x0_5 := x0_4.of_all hb
  clear B_4 s_4 x0_4
  have x1_5 : Own w5 (some ⟨w4.heap.size, 0, none⟩) w4.heap.size 0 n2 g := Own.of_row hr (Nat.le_refl _)
  clear hr hb
  go_wp2_with fail
  refine (implModInv_any _ w3.heap.size 0 _ _ f _ w4.heap.size 0 _ _ g _ x0_5.toSeg x1_5.toSeg hn hn2).mono ?_
  rintro e w6 ⟨a_z, g_z, c_z, n_z, f_z, ok_z, rfl, hn_z, hN_z, hg_z, hO_z, hb⟩
  have B_6 := B_5.trans (hb.mono B_5.size)
  have s_6 := s_5.of_all hb
  have x0_6 := x0_5.of_all hb
  have x1_6 := x1_5.of_all hb
  clear B_5 s_5 x0_5 x1_5
  clear hb
  obtain ⟨hnn, hokk, hff⟩ := isNat_unique hN_s hN_z
  subst hnn
  subst hokk
  have z_6 := hO_z
  clear hO_z hn_z
  go_wp2_with fail
  refine (eqIntS_any a_z g_z 0 n_s c_z f_z a_s g_s 0 n_s c_s f_s _ z_6.toSeg s_6 hn_s).mono ?_
  rintro e w7 ⟨rfl, q, hw⟩
  have D : Below w6.heap.size w6 w7 := by rw [hw]; exact below_drewN (Below.refl _ _) q
  clear hw
  rw [alike_of hff]
  have B_7 := B_6.trans (D.mono B_6.size)
  have s_7 := s_6.of_all D
  have x0_7 := x0_6.of_all D
  have x1_7 := x1_6.of_all D
  have z_7 := z_6.of_all D
  clear B_6 s_6 x0_6 x1_6 z_6
  clear D
  have hokk : (ok_s != ok_s) = false := by simp
  go_wp2_with fail
  refine (toIntS_any _ b off _ _ f _ (hs.of_all B_7) hn).mono ?_
  rintro e w8 ⟨rfl, hzz, hr, hb⟩
  clear hzz
  have B_8 := B_7.trans (hb.mono B_7.size)
  have s_8 := s_7.of_all hb
  have x0_8 := x0_7.of_all hb
  have x1_8 := x1_7.of_all hb
  have z_8 := z_7.of_all hb
  clear B_7 s_7 x0_7 x1_7 z_7
  have y0_8 : Own w8 (some ⟨w7.heap.size, 0, none⟩) w7.heap.size 0 n f := Own.of_row hr (Nat.le_refl _)
  clear hr hb
  go_wp2_with fail
  refine (eqIntS_any _ w3.heap.size 0 n _ f _ w7.heap.size 0 n _ f _ x0_8.toSeg y0_8.toSeg hn).mono ?_
  rintro e w9 ⟨rfl, q, hw⟩
  have D : Below w8.heap.size w8 w9 := by rw [hw]; exact below_drewN (Below.refl _ _) q
  clear hw
  rw [alike_refl]
  have B_9 := B_8.trans (D.mono B_8.size)
  have s_9 := s_8.of_all D
  have x0_9 := x0_8.of_all D
  have x1_9 := x1_8.of_all D
  have z_9 := z_8.of_all D
  have y0_9 := y0_8.of_all D
  clear B_8 s_8 x0_8 x1_8 z_8 y0_8
  clear D
  clear y0_9
  go_wp2_with fail
  refine (toIntS_any _ b2 off2 _ _ g _ (hs2.of_all B_9) hn2).mono ?_
  rintro e w10 ⟨rfl, hzz, hr, hb⟩
  clear hzz
  have B_10 := B_9.trans (hb.mono B_9.size)
  have s_10 := s_9.of_all hb
  have x0_10 := x0_9.of_all hb
  have x1_10 := x1_9.of_all hb
  have z_10 := z_9.of_all hb
  clear B_9 s_9 x0_9 x1_9 z_9
  have y1_10 : Own w10 (some ⟨w9.heap.size, 0, none⟩) w9.heap.size 0 n2 g := Own.of_row hr (Nat.le_refl _)
  clear hr hb
  go_wp2_with fail
  refine (eqIntS_any _ w4.heap.size 0 n2 _ g _ w9.heap.size 0 n2 _ g _ x1_10.toSeg y1_10.toSeg hn2).mono ?_
  rintro e w11 ⟨rfl, q, hw⟩
  have D : Below w10.heap.size w10 w11 := by rw [hw]; exact below_drewN (Below.refl _ _) q
  clear hw
  rw [alike_refl]
  have B_11 := B_10.trans (D.mono B_10.size)
  have s_11 := s_10.of_all D
  have x0_11 := x0_10.of_all D
  have x1_11 := x1_10.of_all D
  have z_11 := z_10.of_all D
  have y1_11 := y1_10.of_all D
  clear B_10 s_10 x0_10 x1_10 z_10 y1_10
  clear D
  clear y1_11
  go_wp2_with fail
  refine (markIntS_any _ w3.heap.size 0 n _ f 1 _ x0_11 hn (by omega) (by omega)).mono ?_
  rintro e w12 ⟨rfl, _, hT⟩
  clear x0_11
  have B_12 := below_touch B_11 hT (by omega)
  have s_12 := s_11.touch hT (fun h => by have := lt3 h; omega)
  have x1_12 := x1_11.touch hT (fun _ => by omega)
  have z_12 := z_11.touch hT (fun _ => by omega)
  clear B_11 s_11 x1_11 z_11
  clear hT
  go_wp2_with fail
  refine (markIntS_any _ w4.heap.size 0 n2 _ g _ _ x1_12 hn2 (by omega) (by omega)).mono ?_
  rintro e w13 ⟨rfl, _, hT⟩
  clear x1_12
  have B_13 := below_touch B_12 hT (by omega)
  have s_13 := s_12.touch hT (fun h => by have := lt3 h; omega)
  have z_13 := z_12.touch hT (fun _ => by omega)
  clear B_12 s_12 z_12
  clear hT
  have hk0 : ¬ (1 + (n : Int) + (n2 : Int) < 0) := by omega
  go_wp2_with fail
  refine (eqIntS_any a_z g_z 0 n_s c_z f_z a_s g_s 0 n_s c_s f_s _ z_13.toSeg s_13 hn_s).mono ?_
  rintro e w14 ⟨rfl, q, hw⟩
  have D : Below w13.heap.size w13 w14 := by rw [hw]; exact below_drewN (Below.refl _ _) q
  clear hw
  rw [alike_of hff]
  have B_14 := B_13.trans (D.mono B_13.size)
  have s_14 := s_13.of_all D
  have z_14 := z_13.of_all D
  clear B_13 s_13 z_13
  clear D
  go_wp2_with fail
  refine (markIntS_any a_z g_z 0 n_s c_z f_z 1 _ z_14 hn_s (by omega) (by omega)).mono ?_
  rintro e w15 ⟨rfl, zz, hT⟩
  clear z_14
  have B_15 := below_touch B_14 hT (by omega)
  have s_15 := s_14.touch hT (fun h => by have := lt3 h; omega)
  clear B_14 s_14
  clear hT
  have z_15 := zz
  clear zz
  go_wp2_with fail
  refine (heldIntS_any a_z g_z 0 n_s c_z 1 _ z_15.toSeg hn_s (by omega) (by omega)).mono ?_
  rintro e wh ⟨rfl, hw⟩
  obtain rfl := hw.symm
  have hp : ¬ (1 + (n_s : Int) < 0) := by omega
  go_wp2_with fail
  refine (toIntS_any _ b off _ _ f _ (hs.of_all B_15) hn).mono ?_
  rintro e w16 ⟨rfl, hzz, hr, hb⟩
  clear hzz
  have B_16 := B_15.trans (hb.mono B_15.size)
  have s_16 := s_15.of_all hb
  have z_16 := z_15.of_all hb
  clear B_15 s_15 z_15
  have v0_16 : Own w16 (some ⟨w15.heap.size, 0, none⟩) w15.heap.size 0 n f := Own.of_row hr (Nat.le_refl _)
  clear hr hb
  go_wp2_with fail
  refine (toIntS_any _ b2 off2 _ _ g _ (hs2.of_all B_16) hn2).mono ?_
  rintro e w17 ⟨rfl, hzz, hr, hb⟩
  clear hzz
  have B_17 := B_16.trans (hb.mono B_16.size)
  have s_17 := s_16.of_all hb
  have z_17 := z_16.of_all hb
  have v0_17 := v0_16.of_all hb
  clear B_16 s_16 z_16 v0_16
  have v1_17 : Own w17 (some ⟨w16.heap.size, 0, none⟩) w16.heap.size 0 n2 g := Own.of_row hr (Nat.le_refl _)
  clear hr hb
  go_wp2_with fail
  refine (implModInv_any _ w15.heap.size 0 _ _ f _ w16.heap.size 0 _ _ g _ v0_17.toSeg v1_17.toSeg hn hn2).mono ?_
  rintro e w18 ⟨a_y, g_y, c_y, n_y, f_y, ok_y, rfl, hn_y, hN_y, hg_y, hO_y, hb⟩
  have B_18 := B_17.trans (hb.mono B_17.size)
  have s_18 := s_17.of_all hb
  have z_18 := z_17.of_all hb
  have v0_18 := v0_17.of_all hb
  have v1_18 := v1_17.of_all hb
  clear B_17 s_17 z_17 v0_17 v1_17
  clear hb
  clear v0_18 v1_18
  obtain ⟨hnn, hok19, hff19⟩ := isNat_unique hN_s hN_y
  subst hnn
  subst hok19
  have y_18 := hO_y.toSeg
  clear hO_y
  go_wp2_with fail
  refine (eqIntS_any a_y g_y 0 n_s c_y f_y a_s g_s 0 n_s c_s f_s _ y_18 s_18 hn_s).mono ?_
  rintro e w19 ⟨rfl, q, hw⟩
  have D : Below w18.heap.size w18 w19 := by rw [hw]; exact below_drewN (Below.refl _ _) q
  clear hw
  rw [alike_of hff19]
  have B_19 := B_18.trans (D.mono B_18.size)
  have s_19 := s_18.of_all D
  have z_19 := z_18.of_all D
  have y_19 := y_18.of_all D
  clear B_18 s_18 z_18 y_18
  clear D
  go_wp2_with fail
  refine (heldIntS_any a_z g_z 0 n_s c_z 1 _ z_19.toSeg hn_s (by omega) (by omega)).mono ?_
  rintro e wh ⟨rfl, hw⟩
  obtain rfl := hw.symm
  go_wp2
  go_ret
  exact ⟨rfl, B_19⟩

theorem law_long (a : Option Addr) (b off n cap : Nat) (f : Nat → Int) (a2 : Option Addr) (b2 off2 n2 cap2 : Nat) (g : Nat → Int) (w : World) (hn : 1048576 < n ∨ 1048576 < n2) :
    Calls Try.prog 5 #[.slice a n cap, .slice a2 n2 cap2] w fun e w' => e = .returned (.bool true) ∧ Below w.heap.size w w' := by
  by_cases h0 : (1048576 : Int) < (n : Int)
  · clear hn
    go_enter Try.func5, Try.ntmps5
    go_wp2
    go_ret
    exact ⟨rfl, Below.refl _ _⟩
  · skip
    by_cases h1 : (1048576 : Int) < (n2 : Int)
    · clear hn
      go_enter Try.func5, Try.ntmps5
      go_wp2
      go_ret
      exact ⟨rfl, Below.refl _ _⟩
    · exact absurd hn (by omega)

theorem walk (a0 : Option Addr) (len0 cap0 : Nat) (z0 : List Int) (a1 : Option Addr) (len1 cap1 : Nat) (z1 : List Int) (w : World) (w0 : IsRow .i64 w a0 len0 cap0 z0) (w1 : IsRow .i64 w a1 len1 cap1 z1) :
    Calls Try.prog 5 #[.slice a0 len0 cap0, .slice a1 len1 cap1] w fun e w' => e = .returned (.bool true) ∧ Below w.heap.size w w' := by
  obtain ⟨b0, off0, hs0⟩ := w0.seg
  obtain ⟨b1, off1, hs1⟩ := w1.seg
  by_cases hn : len0 ≤ 1048576 ∧ len1 ≤ 1048576
  · exact law a0 b0 off0 len0 cap0 _ a1 b1 off1 len1 cap1 _ w hs0 hs1 hn.1 hn.2
  · exact law_long a0 b0 off0 len0 cap0 (fun _ => 0) a1 b1 off1 len1 cap1 (fun _ => 0) w (by omega)

/-! ### THE ROW's STEP: WRITTEN OUT: LEAVE IT -/
set_option maxRecDepth 100000 in
theorem lifted (os : Os) (started : os.Started) (H : Type) (enc : TypeId × Value → H) :
    ReturnsInHanded {} Try.checked os 5 .any (Rows.fnExactModInvSpec.pre6 enc Try.prog Try.f5 Rows.fnExactModInvRow.domain false) (Rows.fnExactModInvSpec.post enc Try.prog Try.f5 false true false false) := by
  refine returnsInHanded_of_change (C := Try.checked) own started (by kernel_rfl) Try.func5
    (ChangeSpec.witness6 (enc := enc) (C := Try.checked) false ⟨#[], #[.slice none 0 0, .slice none 0 0], []⟩ 8 (by kernel_rfl) (by kernel_rfl) (by kernel_rfl) (by kernel_rfl)) ?_
  intro W base args ds gs before hval0 hW hcnd _
  have hval : ∀ (j : Nat) t v, Try.f5.params[j]? = some t → args[j]? = some v → Value.okWide Try.prog W .any base t v := hval0
  have hW' := hW
  obtain ⟨p, q, hA0, hV, rfl, hfz, hnd⟩ := hW
  have hA : DataW.TrodAll enc Try.prog W 0 (fun _ => true) true Try.f5.params.toList args.toList ds p := hA0
  rw [Try.params5] at hA hval
  obtain ⟨v0, vs0, d0, ds0, p0, q0, hargs, rfl, rfl, h0, r0⟩ := trodAll_cons hA
  obtain ⟨v1, vs1, d1, ds1, p1, q1, rfl, rfl, rfl, h1, r1⟩ := trodAll_cons r0
  obtain ⟨rfl, rfl, rfl⟩ := trodAll_nil r1
  obtain rfl : args = #[v0, v1] := by cases args; simp_all
  obtain ⟨rfl, rfl⟩ := trodVars_none hV
  obtain ⟨a0, len0, cap0, rfl⟩ := okWide_slice Try.underlying22 (hval 0 22 v0 rfl rfl)
  have k0 := h0
  have lt0 : ∀ x ∈ p0, x.block < W.heap.size := by obtain ⟨m, hm⟩ := k0; exact DataW.trod_lt m _ _ _ hm
  obtain ⟨z0, w0⟩ : ∃ zs, IsRow .i64 W a0 len0 cap0 zs := by
    obtain ⟨fuel, hf⟩ := h0
    rcases open_ints Try.underlying22 Try.underlying3 (by kernel_rfl) hf with ⟨hcs, _⟩ | ⟨x, l, c, zs, hcs, _, hl, hm, hz, _, hcell, hwz⟩
    · simp [Value.cells] at hcs
      obtain ⟨rfl, rfl, rfl⟩ := hcs
      exact ⟨[], .inl ⟨rfl, rfl, rfl, rfl⟩⟩
    · simp [Value.cells] at hcs
      obtain ⟨rfl, rfl, rfl⟩ := hcs
      exact ⟨zs, .inr ⟨_, rfl, hl, hm, by simpa using hz, hcell, hwz⟩⟩
  obtain ⟨a1, len1, cap1, rfl⟩ := okWide_slice Try.underlying22 (hval 1 22 v1 rfl rfl)
  have k1 := h1
  have lt1 : ∀ x ∈ p1, x.block < W.heap.size := by obtain ⟨m, hm⟩ := k1; exact DataW.trod_lt m _ _ _ hm
  obtain ⟨z1, w1⟩ : ∃ zs, IsRow .i64 W a1 len1 cap1 zs := by
    obtain ⟨fuel, hf⟩ := h1
    rcases open_ints Try.underlying22 Try.underlying3 (by kernel_rfl) hf with ⟨hcs, _⟩ | ⟨x, l, c, zs, hcs, _, hl, hm, hz, _, hcell, hwz⟩
    · simp [Value.cells] at hcs
      obtain ⟨rfl, rfl, rfl⟩ := hcs
      exact ⟨[], .inl ⟨rfl, rfl, rfl, rfl⟩⟩
    · simp [Value.cells] at hcs
      obtain ⟨rfl, rfl, rfl⟩ := hcs
      exact ⟨zs, .inr ⟨_, rfl, hl, hm, by simpa using hz, hcell, hwz⟩⟩
  clear hA0 hval0
  refine (walk a0 len0 cap0 z0 a1 len1 cap1 z1 W w0 w1).mono fun e W' ⟨he, bel⟩ => ?_
  subst he
  exact ⟨_, rfl, _, _, _, [], _, [], hW', trodAll_mk1 (shut_bool Try.underlying4 _), (trodAll_cons_mk (Below.trod laidOut (by kernel_rfl) (of_decide_eq_true (by kernel_rfl)) k0 bel lt0) (trodAll_cons_mk (Below.trod laidOut (by kernel_rfl) (of_decide_eq_true (by kernel_rfl)) k1 bel lt1) trodAll_mk0)), rfl, bel.frame _, fun h => by cases h⟩

theorem over : Rows.fnExactModInvRow.holds Try.pinned (OpenSpec.ofChange Rows.fnExactModInvSpec) :=
  OpenClaim.holds_of_wide 5 Try.f5 rfl rfl rfl rfl rfl rfl rfl ⟨rfl, rfl, rfl, rfl, rfl⟩ rfl rfl rfl rfl rfl (by kernel_rfl) Try.func5 (by kernel_rfl)
    (of_decide_eq_true (by kernel_rfl)) (by unfold Func.isWrapper; first | (rw [if_pos (by decide +kernel)]; kernel_rfl) | (rw [if_neg (by decide +kernel)]; exact ⟨rfl, rfl⟩))
    (fun os started H enc _ => lifted os started H enc)

/-- ████ THE STATEMENT ████ -/
theorem proved : Rows.FnExactModInvSaid := over
end Go.Proofs.Ytmkmojcefgcmlab.fnExactModInv

namespace Go.Proofs.Ytmkmojcefgcmlab
/-- The given statement. -/
theorem fnExactModInv_holds : Rows.FnExactModInvSaid := fnExactModInv.proved
#print axioms fnExactModInv_holds
end Go.Proofs.Ytmkmojcefgcmlab
