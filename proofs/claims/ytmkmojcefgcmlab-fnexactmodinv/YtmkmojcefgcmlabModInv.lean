/- Walks: ModInv of the model: the number whose product with another leaves 1. -/
import Derived.Test.YtmkmojcefgcmlabModPow
import Derived.Test.YtmkmojcefgcmlabInvM
namespace Go.Proofs.Ytmkmojcefgcmlab
set_option linter.unusedVariables false
open Go.RowKit

theorem nval_div {f h k : Nat → Int} {n p q : Nat} (hf : Digs f n) (hh : Digs h p) (hk : Digs k q) (e : val k q = val f n / val h p) : nval k q = nval f n / nval h p := by
  rw [nval_eq hf, nval_eq hh, nval_eq hk, ← Int.natCast_ediv] at e
  omega

theorem nval_mul {f g k : Nat → Int} {n m q : Nat} (hf : Digs f n) (hg : Digs g m) (hk : Digs k q) (e : val k q = val f n * val g m) : nval k q = nval f n * nval g m := by
  rw [nval_eq hf, nval_eq hg, nval_eq hk, ← Int.natCast_mul] at e
  omega

theorem nval_add {f g k : Nat → Int} {n m q : Nat} (hf : Digs f n) (hg : Digs g m) (hk : Digs k q) (e : val k q = val f n + val g m) : nval k q = nval f n + nval g m := by
  rw [nval_eq hf, nval_eq hg, nval_eq hk] at e
  omega

theorem nval_sub {f g k : Nat → Int} {n m q : Nat} (hf : Digs f n) (hg : Digs g m) (hk : Digs k q) (e : val k q = val f n - val g m) : nval k q = nval f n - nval g m := by
  rw [nval_eq hf, nval_eq hg, nval_eq hk] at e
  omega

theorem nval_le {f g : Nat → Int} {n m : Nat} (hf : Digs f n) (hg : Digs g m) (h : nval f n ≤ nval g m) : val f n ≤ val g m := by
  rw [nval_eq hf, nval_eq hg]
  omega

theorem sum_len {f g h : Nat → Int} {n m k N : Nat} (hf : Digs f n) (hg : Digs g m) (hh : Canon k h) (e : val h k = val f n + val g m) (hn : n ≤ N) (hm : m ≤ N) : k ≤ N + 1 := by
  refine (canon_len hh (N + 1)).2 ?_
  have b1 := (val_bd hf).2
  have b2 := (val_bd hg).2
  have p1 := pw_le hn
  have p2 := pw_le hm
  have : pw (N + 1) = pw N * 65536 := rfl
  have := pw_pos N
  omega

/-- The number that a slice in memory tells. -/
def sliceVal (v : Value) (w : World) : Nat :=
  match v with
  | .slice (some ⟨b, off, _⟩) n _ => nval (fun i => match w.cell? ⟨b, off + i, none⟩ with | some (.int _ z) => z | _ => 0) n
  | _ => 0

theorem sliceVal_seg {w : World} {a : Option Addr} {b off n cap : Nat} {f : Nat → Int} (h : Seg w a b off n f) : sliceVal (.slice a n cap) w = nval f n := by
  by_cases hn : n = 0
  · subst hn
    cases a with
    | none => rfl
    | some x => rfl
  · obtain rfl := h.at' (by omega)
    show nval _ n = nval f n
    unfold nval
    rw [val_congr (fun i hi => by rw [h.cell i hi])]

theorem nval_zero {f : Nat → Int} {n : Nat} (hc : Canon n f) : nval f n = 0 ↔ n = 0 := by
  constructor
  · intro h
    by_cases e : n = 0
    · exact e
    · have := nval_pos hc (by omega); omega
  · rintro rfl; rfl

/-- Two naturals, the second not 0. -/
def twoB (n : Nat) (f : Nat → Int) (n3 : Nat) (h : Nat → Int) : Bool := natOk n f && natOk n3 h && !(n3 == 0)

theorem threeB_ok {n : Nat} {f : Nat → Int} {n2 : Nat} {g : Nat → Int} {n3 : Nat} {h : Nat → Int} (k : natOk n2 g = true) : threeB n f n2 g n3 h = twoB n f n3 h := by
  simp [threeB, twoB, k]

theorem natOk_one : natOk 1 (fun _ => 1) = true := by decide

theorem natOk_nil (g : Nat → Int) : natOk 0 g = true := by simp [natOk, digs]

/-- ModInv's answer. -/
def modInvQ (n : Nat) (f : Nat → Int) (n3 : Nat) (h : Nat → Int) : Option Int := if twoB n f n3 h && !(nval h n3 == 1) then invQ (nval h n3) (nval f n % nval h n3) else none

theorem nval_one : nval (fun _ => 1) 1 = 1 := by simp [nval, canon_one.2]

theorem own_one (w : World) : Own (w.alloc (.cells #[.int .i64 1] 3)) (some ⟨w.heap.size, 0, none⟩) w.heap.size 0 1 (fun _ => 1) := by
  obtain ⟨a, g, cap, hv, hg, hO⟩ := own_of_owns (f := fun _ => 1) (n := 1) (owns_one w 1)
  have e := hO.at' (by omega)
  subst e
  injection hv with h1 h2 h3
  injection h1 with h4
  injection h4 with h5
  subst h5
  exact hO

/-- In mid-search of the model: S, R, X, Y lie in memory. -/
structure InvAt (w wr : World) (M A n3 : Nat) (aS : Option Addr) (gS nS : Nat) (fS : Nat → Int) (aR : Option Addr) (gR nR : Nat) (fR : Nat → Int) (aX : Option Addr) (gX nX : Nat) (fX : Nat → Int) (aY : Option Addr) (gY nY : Nat) (fY : Nat → Int) : Prop where
  cS : Canon nS fS
  cR : Canon nR fR
  cX : Canon nX fX
  cY : Canon nY fY
  lS : nS ≤ n3
  lR : nR ≤ n3
  lX : nX ≤ n3
  lY : nY ≤ n3
  left : Left M A (nval fR nR) (nval fS nS) (nval fX nX) (nval fY nY)
  sS : Seg wr aS gS 0 nS fS
  sR : Seg wr aR gR 0 nR fR
  oX : Own wr aX gX 0 nX fX
  oY : Own wr aY gY 0 nY fY
  geX : w.heap.size ≤ gX
  geY : w.heap.size ≤ gY
  below : Below w.heap.size w wr

set_option maxHeartbeats 1600000 in
theorem specModInv_any (a : Option Addr) (b off n cap : Nat) (f : Nat → Int) (a3 : Option Addr) (b3 off3 n3 cap3 : Nat) (h : Nat → Int) (w : World)
    (hs : Seg w a b off n f) (hs3 : Seg w a3 b3 off3 n3 h) (hn : n ≤ 1048576) (hn3 : n3 ≤ 1048576) :
    Calls Try.prog 17 #[.slice a n cap, .slice a3 n3 cap3] w fun e w' => GivesQ w (modInvQ n f n3 h) e w' := by
  have B0 : Below w.heap.size w (w.alloc (.cells #[.int .i64 1] 3)) := (Below.refl _ _).alloc (Nat.le_refl _) _
  have o0 := seg_one w 3
  have hsA := hs.of_all B0
  have hs3A := hs3.of_all B0
  obtain ⟨i0, hi, hz0, hz1, hz2⟩ := info_parts Try.info3
  cases hb : twoB n f n3 h with
  | false =>
    have Hv := hide (show modInvQ n f n3 h = none by simp [modInvQ, hb])
    go_enter Try.func17, Try.ntmps17
    go_wp2_with fail
    refine (l2Three_any a b off n cap f _ w.heap.size 0 1 1 (fun _ => 1) a3 b3 off3 n3 cap3 h _ hsA o0 hs3A hn (by omega) hn3).mono ?_
    rintro e w' ⟨rfl, hw⟩
    obtain rfl := hw.symm
    rw [threeB_ok natOk_one, hb]
    clear hb hi
    go_wp2
    go_ret2
    exact GivesQ.none Hv.out rfl (B0.alloc B0.size _)
  | true =>
    have hb3 : threeB n f 1 (fun _ => 1) n3 h = true := by rw [threeB_ok natOk_one, hb]
    obtain ⟨c1, l1, c2, l2, c3, l3, h0, _, _, _⟩ := threeB_iff hb3
    have hM := nval_pos c3 h0
    by_cases hM1 : nval h n3 = 1
    · have Hv := hide (show modInvQ n f n3 h = none by simp [modInvQ, hM1])
      have hcv : cmpV (val h n3) (val (fun _ => 1) 1) = 0 := cmpV_eq (by rw [nval_eq c3.digs, hM1, canon_one.2]; rfl)
      go_enter Try.func17, Try.ntmps17
      go_wp2_with fail
      refine (l2Three_any a b off n cap f _ w.heap.size 0 1 1 (fun _ => 1) a3 b3 off3 n3 cap3 h _ hsA o0 hs3A hn (by omega) hn3).mono ?_
      rintro e w' ⟨rfl, hw⟩
      obtain rfl := hw.symm
      rw [hb3]
      clear hb hb3 hi
      go_wp2_with fail
      refine (l1Compare_any a3 b3 off3 n3 cap3 h _ w.heap.size 0 1 1 (fun _ => 1) _ hs3A o0 hn3 (by omega) c3 canon_one.1).mono ?_
      rintro e w1 ⟨rfl, hQ⟩
      rw [hcv]
      have B1 := B0.trans (hQ.below _)
      clear hQ hcv hM1
      go_wp2
      go_ret2
      exact GivesQ.none Hv.out rfl (B1.alloc B1.size _)
    · have hM2 : 2 ≤ nval h n3 := by omega
      have Hv := hide (show modInvQ n f n3 h = invQ (nval h n3) (nval f n % nval h n3) by simp [modInvQ, hb, hM1])
      have hcv : (cmpV (val h n3) (val (fun _ => 1) 1) == 0) = false := by
        have : val h n3 ≠ val (fun _ => 1) 1 := by rw [nval_eq c3.digs, canon_one.2]; omega
        simp only [cmpV]
        by_cases h1 : val h n3 < val (fun _ => 1) 1
        · rw [if_pos h1]; rfl
        · rw [if_neg h1, if_pos (by omega)]; rfl
      obtain rfl := hs3.at' (by omega)
      go_enter Try.func17, Try.ntmps17
      go_wp2_with fail
      refine (l2Three_any a b off n cap f _ w.heap.size 0 1 1 (fun _ => 1) _ b3 off3 n3 cap3 h _ hsA o0 hs3A hn (by omega) hn3).mono ?_
      rintro e w' ⟨rfl, hw⟩
      obtain rfl := hw.symm
      rw [hb3]
      clear hb hb3
      go_wp2_with fail
      refine (l1Compare_any _ b3 off3 n3 cap3 h _ w.heap.size 0 1 1 (fun _ => 1) _ hs3A o0 hn3 (by omega) c3 canon_one.1).mono ?_
      rintro e w1 ⟨rfl, hQ⟩
      have B1 := B0.trans (hQ.below _)
      have o1 := o0.of_all (hQ.below _)
      clear hQ B0 o0 hsA hs3A hM1
      generalize cmpV (val h n3) (val (fun _ => 1) 1) = cc at *
      go_wp2_with fail
      refine (l1Div_any a b off n cap f _ b3 off3 n3 cap3 h _ (hs.of_all B1) (hs3.of_all B1) (by omega) (by omega) h0 c1.digs c3).mono ?_
      rintro e w2 ⟨a4, g4, cap4, n4, f4, aS, gS, capS, nS, fS, rfl, k1, k2, k3, k4, cS, k6, k7, k8, k9, k10, oS, k12⟩
      have VS := hide (nval_rest c1.digs c3.digs cS.digs k6)
      have B2 := B1.trans (k12.mono B1.size)
      have o2 := o1.of_all k12
      have sS := oS.toSeg
      clear k1 k3 k4 k6 k7 k8 k9 k10 k12 B1 o1 oS hcv
      have hown := World.ownsRow_made (base := w2.heap.size) (e := 3) (size := 1) w2 #[] 0 (Nat.le_refl _) (by simp) rfl
      have BA : Below w2.heap.size w2 (w2.alloc (.cells #[] 3)) := (Below.refl _ _).alloc (Nat.le_refl _) _
      have hnews := ((hs3.of_all B2).of_all BA).news
      go_wp2_with (at_builtin; refine wpList_append_own _ rfl _ _ 22 rfl w2.heap.size 3 i0 (.int .i64 0) 1 8 Try.underlying22 hi hz0 hz1 hz2 rfl (by decide) (.slice (some ⟨w2.heap.size, 0, none⟩) 0 0) 0 [] rfl hown ⟨b3, off3, none⟩ n3 cap3 (ints h n3) rfl (by rw [ints_length]; omega) hnews (ints_one h n3) (by unfold maxLen; omega) (by omega) (by simp) ?_; intro v' w3 hown' hgrow hnil)
      have B3 : Below w2.heap.size w2 w3 := BA.grown hgrow (by simp) (fun j hj => (hown.lt j hj).1)
      obtain ⟨gR, capR, hvR, hgR, hcR, oR⟩ := own_some (f := h) (by simpa using hown') (fun e => by have := (hnil.1 e).1; simp at this)
      rw [hvR]
      have B4 := B2.trans (B3.mono B2.size)
      have o4 := o2.of_all B3
      have s4 := sS.of_all B3
      have ge2 := B2.size
      clear hown hown' hgrow hnil hnews BA B3 hvR sS o2 B2
      have BX : Below w3.heap.size w3 (w3.alloc (.cells #[] 3)) := (Below.refl _ _).alloc (Nat.le_refl _) _
      have BY : Below (w3.alloc (.cells #[] 3)).heap.size (w3.alloc (.cells #[] 3)) ((w3.alloc (.cells #[] 3)).alloc (.cells #[.int .i64 1] 3)) := (Below.refl _ _).alloc (Nat.le_refl _) _
      have oY := own_one (w3.alloc (.cells #[] 3))
      have BZ := BX.trans (BY.mono BX.size)
      have B5 := B4.trans (BZ.mono B4.size)
      have o5 := o4.of_all BZ
      have s5 := s4.of_all BZ
      have r5 := oR.of_all BZ
      have gsz : w.heap.size ≤ (w3.alloc (.cells #[] 3)).heap.size := Nat.le_trans B4.size BX.size
      have E0 : Hid (Left (nval h n3) (nval f n % nval h n3) (nval h n3) (nval fS nS) (nval (fun _ => 0) 0) (nval (fun _ => 1) 1)) := by
        show Left _ _ _ _ _ _
        rw [VS.out, nval_one]
        exact left_start hM2 (Nat.mod_lt _ hM)
      have lS : nS ≤ n3 := nval_short cS c3 (by rw [VS.out]; exact Nat.le_of_lt (Nat.mod_lt _ hM))
      have I0 : Hid (InvAt w ((w3.alloc (.cells #[] 3)).alloc (.cells #[.int .i64 1] 3)) (nval h n3) (nval f n % nval h n3) n3 aS gS nS fS (some ⟨gR, 0, none⟩) gR n3 h (some ⟨w3.heap.size, 0, none⟩) w3.heap.size 0 (fun _ => 0) (some ⟨(w3.alloc (.cells #[] 3)).heap.size, 0, none⟩) (w3.alloc (.cells #[] 3)).heap.size 1 (fun _ => 1)) :=
        ⟨cS, c3, ⟨fun i hi => absurd hi (Nat.not_lt_zero _), .inl rfl⟩, canon_one.1, lS, Nat.le_refl _, by omega, by omega, E0.out, s5, r5.toSeg, Own.nil _ _ _ _ _, oY, B4.size, gsz, B5⟩
      clear oY B4 BZ BX BY o4 s4 r5 oR s5 B5 E0 VS lS cS hi gsz
      have eA : (w3.alloc (.cells #[] 3)).heap.size = w3.heap.size + 1 := by simp
      rw [eA] at I0
      clear eA
      generalize nval f n % nval h n3 = A at *
      generalize hMM : nval h n3 = M at *
      have HM := hide hMM
      have hM' : 0 < nval h n3 := by omega
      clear hMM
      go_wp2
      go_loopw [8, 9, 10, 11] (fun s r x y wr => ∃ (aS : Option Addr) (gS capS nS : Nat) (fS : Nat → Int) (aR : Option Addr) (gR capR nR : Nat) (fR : Nat → Int) (aX : Option Addr) (gX capX nX : Nat) (fX : Nat → Int) (aY : Option Addr) (gY capY nY : Nat) (fY : Nat → Int),
        s = .slice aS nS capS ∧ r = .slice aR nR capR ∧ x = .slice aX nX capX ∧ y = .slice aY nY capY ∧ InvAt w wr M A n3 aS gS nS fS aR gR nR fR aX gX nX fX aY gY nY fY ∧ Seg wr (some ⟨w.heap.size, 0, none⟩) w.heap.size 0 1 (fun _ => 1)) (fun s _ _ _ wr => sliceVal s wr)
      case atStart => exact ⟨aS, gS, capS, nS, fS, _, gR, capR, n3, h, _, _, 0, 0, fun _ => 0, _, _, 1, 1, fun _ => 1, rfl, rfl, rfl, rfl, I0.out, o5⟩
      case round =>
        clear I0 o5 k2 hcR
        obtain ⟨aS, gS, capS, nS, fS, aR, gR, capR, nR, fR, aX, gX, capX, nX, fX, aY, gY, capY, nY, fY, rfl, rfl, rfl, rfl, hI, one⟩ := hrel
        obtain ⟨cS, cR, cX, cY, lS, lR, lX, lY, hL, sS, sR, oX, oY, geX, geY, BB⟩ := hI
        have HL := hide hL
        clear hL
        by_cases hS0 : nS = 0
        · subst hS0
          by_cases hR1 : nval fR nR = 1
          · have hcv : cmpV (val fR nR) (val (fun _ => 1) 1) = 0 := cmpV_eq (by rw [nval_eq cR.digs, hR1, canon_one.2]; rfl)
            have HQ := hide (HL.out.done hM2 hR1)
            go_wp2_with fail
            refine (l1Compare_any aR gR 0 nR capR fR _ w.heap.size 0 1 1 (fun _ => 1) _ sR one (by omega) (by omega) cR canon_one.1).mono ?_
            rintro e w6 ⟨rfl, hQ⟩
            rw [hcv]
            have B6 := BB.trans (hQ.below _)
            have oX6 := oX.of_all (hQ.below _)
            clear hQ hcv hR1 BB oX sS sR oY
            go_wp2
            go_ret2
            refine ⟨aX, gX, capX, nX, fX, true, rfl, by omega, ?_, geX, oX6, B6⟩
            rw [Hv.out, HQ.out]
            exact ⟨cX, by rw [nval_eq cX.digs], rfl⟩
          · have hcv : (cmpV (val fR nR) (val (fun _ => 1) 1) != 0) = true := by
              have : val fR nR ≠ val (fun _ => 1) 1 := by rw [nval_eq cR.digs, canon_one.2]; omega
              simp only [cmpV]
              by_cases h1 : val fR nR < val (fun _ => 1) 1
              · rw [if_pos h1]; rfl
              · rw [if_neg h1, if_pos (by omega)]; rfl
            have HQ := hide (HL.out.done_no hM2 hR1)
            go_wp2_with fail
            refine (l1Compare_any aR gR 0 nR capR fR _ w.heap.size 0 1 1 (fun _ => 1) _ sR one (by omega) (by omega) cR canon_one.1).mono ?_
            rintro e w6 ⟨rfl, hQ⟩
            have B6 := BB.trans (hQ.below _)
            clear hQ hR1 BB oX sS sR oY
            generalize cmpV (val fR nR) (val (fun _ => 1) 1) = cc at *
            go_wp2
            go_ret2
            exact GivesQ.none (Hv.out.trans HQ.out) rfl (B6.alloc B6.size _)
        · have hSp : 0 < nval fS nS := nval_pos cS (by omega)
          have hlen : (0 : Int) < (nS : Int) := by omega
          have hN := hide (HL.out.step hSp)
          have hRM := HL.out.le
          have hSR := HL.out.lt
          have Hold := hide (sliceVal_seg (cap := capS) sS)
          go_wp2_with fail
          refine (l1Div_any aR gR 0 nR capR fR aS gS 0 nS capS fS _ sR sS (by omega) (by omega) (by omega) cR.digs cS).mono ?_
          rintro e w6 ⟨aQ, gQ, capQ, nQ, fQ, aT, gT, capT, nT, fT, rfl, k1, k2, cQ, k4, cT, k6, k7, k8, k9, oQ, oT, k12⟩
          have VQ := hide (nval_div cR.digs cS.digs cQ.digs k4)
          have VT := hide (nval_rest cR.digs cS.digs cT.digs k6)
          have B6 := BB.trans (k12.mono BB.size)
          have one6 := one.of_all k12
          have sS6 := sS.of_all k12
          have oX6 := oX.of_all k12
          have oY6 := oY.of_all k12
          have lQ : nQ ≤ n3 := nval_short cQ c3 (by rw [VQ.out, HM.out]; exact Nat.le_trans (Nat.div_le_self _ _) hRM)
          have lT : nT ≤ n3 := nval_short cT c3 (by rw [VT.out, HM.out]; have := Nat.mod_lt (nval fR nR) hSp; omega)
          have sT6 := oT.toSeg
          have sQ6 := oQ.toSeg
          clear k4 k6 k7 k8 k9 k12 BB one sS oX oY sR oT oQ
          go_wp2_with fail
          refine (l2Mul_any aQ gQ 0 nQ capQ fQ aY gY 0 nY capY fY _ b3 off3 n3 cap3 h _ sQ6 oY6.toSeg (hs3.of_all B6) (by omega) (by omega) (by omega) cQ.digs cY.digs c3 h0).mono ?_
          rintro e w7 ⟨aU, gU, capU, nU, fU, rfl, k2', cU, k6, k8, oU, k12⟩
          have VU := hide (nval_mod cQ.digs cY.digs c3.digs cU.digs k6)
          have B7 := B6.trans (k12.mono B6.size)
          have one7 := one6.of_all k12
          have sS7 := sS6.of_all k12
          have oX7 := oX6.of_all k12
          have oY7 := oY6.of_all k12
          have sT7 := sT6.of_all k12
          have uM : nval fU nU < M := by rw [VU.out, HM.out]; exact Nat.mod_lt _ hM
          have lU : nU ≤ n3 := nval_short cU c3 (by rw [HM.out]; omega)
          clear k6 k8 k12 B6 one6 sS6 oX6 oY6 sT6 sQ6
          go_wp2_with fail
          refine (l1Sub_any _ b3 off3 n3 cap3 h aU gU 0 nU capU fU _ (hs3.of_all B7) oU.toSeg (by omega) lU c3.digs cU.digs (nval_le cU.digs c3.digs (by rw [HM.out]; omega))).mono ?_
          rintro e w8 ⟨gD, capD, nD, fD, rfl, kd1, kd2, cD, kd4, kd5, oD, k12⟩
          have VD := hide (nval_sub c3.digs cU.digs cD.digs kd4)
          have B8 := B7.trans (k12.mono B7.size)
          have one8 := one7.of_all k12
          have sS8 := sS7.of_all k12
          have oX8 := oX7.of_all k12
          have oY8 := oY7.of_all k12
          have sT8 := sT7.of_all k12
          have lD : nD ≤ n3 := nval_short cD c3 (by rw [VD.out]; omega)
          clear kd4 kd5 k12 B7 one7 sS7 oX7 oY7 sT7 oU
          go_wp2_with fail
          refine (l1Add_any aX gX 0 nX capX fX _ gD 0 nD capD fD _ oX8.toSeg oD.toSeg (by omega) (by omega) cX.digs cD.digs).mono ?_
          rintro e w9 ⟨gE, capE, nE, fE, rfl, ke1, ke2, cE, ke4, ke5, oE, k12⟩
          have VE := hide (nval_add cX.digs cD.digs cE.digs ke4)
          have lE := sum_len cX.digs cD.digs cE ke4 lX lD
          have B9 := B8.trans (k12.mono B8.size)
          have one9 := one8.of_all k12
          have sS9 := sS8.of_all k12
          have oY9 := oY8.of_all k12
          have sT9 := sT8.of_all k12
          clear ke4 ke5 k12 B8 one8 sS8 oX8 oY8 sT8 oD
          go_wp2_with fail
          refine (l1Div_any _ gE 0 nE capE fE _ b3 off3 n3 cap3 h _ oE.toSeg (hs3.of_all B9) (by omega) (by omega) h0 cE.digs c3).mono ?_
          rintro e w10 ⟨aF, gF, capF, nF, fF, aZ, gZ, capZ, nZ, fZ, rfl, kf1, kf2, cF, kf4, cZ, kf6, kf7, kf8, kf9, oF, oZ, k12⟩
          have VZ := hide (nval_rest cE.digs c3.digs cZ.digs kf6)
          have B10 := B9.trans (k12.mono B9.size)
          have one10 := one9.of_all k12
          have sS10 := sS9.of_all k12
          have oY10 := oY9.of_all k12
          have sT10 := sT9.of_all k12
          have lZ : nZ ≤ n3 := nval_short cZ c3 (by rw [VZ.out]; exact Nat.le_of_lt (Nat.mod_lt _ hM'))
          have geZ : w.heap.size ≤ gZ := by have := B9.size; omega
          clear kf4 kf6 kf7 kf8 kf9 k12 B9 one9 sS9 oY9 sT9 oE oF
          have HI : Hid (InvAt w w10 M A n3 aT gT nT fT aS gS nS fS aY gY nY fY aZ gZ nZ fZ) :=
            ⟨cT, cS, cY, cZ, lT, lS, lY, lZ, by rw [VT.out, VZ.out, VE.out, VD.out, VU.out, VQ.out, HM.out]; exact hN.out, sT10, sS10, oY10, oZ, geY, geZ, B10⟩
          have Hnew := hide (sliceVal_seg (cap := capT) sT10)
          have Hlt : Hid (nval fT nT < nval fS nS) := by show _ < _; rw [VT.out]; exact Nat.mod_lt _ hSp
          clear sT10 sS10 oY10 oZ B10
          go_wp2
          go_roundw
          case rel => exact ⟨aT, gT, capT, nT, fT, aS, gS, capS, nS, fS, aY, gY, capY, nY, fY, aZ, gZ, capZ, nZ, fZ, rfl, rfl, rfl, rfl, HI.out, one10⟩
          case measure => rw [Hnew.out, Hold.out]; exact Hlt.out

end Go.Proofs.Ytmkmojcefgcmlab
