/- Walks: ModInv of the program. -/
import Derived.Test.YtmkmojcefgcmlaaDoorModInv
import Derived.Test.YtmkmojcefgcmlaaDoorDSum
import Derived.Test.YtmkmojcefgcmlaaDoorDDiff
namespace Go.Proofs.YtmkmojcefgcmlaaDoor
set_option linter.unusedVariables false
open Go.RowKit

theorem nval_is_one {n : Nat} {f : Nat → Int} (hc : Canon n f) : nval f n = 1 ↔ n = 1 ∧ f 0 = 1 := by
  constructor
  · intro h
    have e : val f n = val (fun _ => 1) 1 := by rw [nval_eq hc.digs, h, canon_one.2]; rfl
    obtain ⟨h1, h2⟩ := canon_unique hc canon_one.1 e
    exact ⟨h1, h2 0 (by omega)⟩
  · rintro ⟨rfl, h⟩
    simp [nval, val, pw, h]

set_option maxHeartbeats 400000 in
theorem isOne_any (a : Option Addr) (b off n cap : Nat) (f : Nat → Int) (w : World) (hs : Seg w a b off n f) (hc : Canon n f) :
    Calls Tryd.prog 43 #[.slice a n cap] w fun e w' => e = .returned (.bool (decide (nval f n = 1))) ∧ w' = w := by
  by_cases h1 : n = 1
  · subst h1
    obtain rfl := hs.at' (by omega)
    have hcell : w.cell? ⟨b, off, none⟩ = some (.int .i64 (f 0)) := by simpa using hs.cell 0 (by omega)
    by_cases e : f 0 = 1
    · have Hf := hide (show true = decide (nval f 1 = 1) by rw [decide_eq_true ((nval_is_one hc).2 ⟨rfl, e⟩)])
      rw [e] at hcell
      go_enter Tryd.func43, Tryd.ntmps43
      go_wp2
      go_ret
      exact ⟨ret_bool Hf.out, rfl⟩
    · have Hf := hide (show false = decide (nval f 1 = 1) by rw [decide_eq_false (fun k => e ((nval_is_one hc).1 k).2)])
      have hb : (f 0 == 1) = false := by simp [e]
      go_enter Tryd.func43, Tryd.ntmps43
      go_wp2
      go_ret
      exact ⟨ret_bool Hf.out, rfl⟩
  · have hb : ((n : Int) == 1) = false := by simp; omega
    have Hf := hide (show false = decide (nval f n = 1) by rw [decide_eq_false (fun k => h1 ((nval_is_one hc).1 k).1)])
    go_enter Tryd.func43, Tryd.ntmps43
    go_wp2
    go_ret
    exact ⟨ret_bool Hf.out, rfl⟩

/-- What the operation answers. -/
def invV (M A : Nat) : Option Int := if M = 1 then none else invQ M A

/-- In mid-search of the program: R (high), S (low), U (before), V (now) lie in memory. -/
structure TurnAt (w wr : World) (M A n3 : Nat) (aR : Option Addr) (gR oR nR : Nat) (fR : Nat → Int) (aS : Option Addr) (gS nS : Nat) (fS : Nat → Int) (aU : Option Addr) (gU nU : Nat) (fU : Nat → Int) (aV : Option Addr) (gV nV : Nat) (fV : Nat → Int) (t : Bool) : Prop where
  cR : Canon nR fR
  cS : Canon nS fS
  cU : Canon nU fU
  cV : Canon nV fV
  lR : nR ≤ n3
  lS : nS ≤ n3
  lU : nU ≤ n3
  lV : nV ≤ n3
  turns : Turns M A (nval fR nR) (nval fS nS) (nval fU nU) (nval fV nV) t
  sR : Seg wr aR gR oR nR fR
  sS : Seg wr aS gS 0 nS fS
  oU : Own wr aU gU 0 nU fU
  oV : Own wr aV gV 0 nV fV
  geU : w.heap.size ≤ gU
  geV : w.heap.size ≤ gV
  below : Below w.heap.size w wr

set_option maxHeartbeats 1600000 in
theorem inverse_any (a3 : Option Addr) (b3 off3 n3 cap3 : Nat) (h : Nat → Int) (a : Option Addr) (b off n cap : Nat) (f : Nat → Int) (a2 : Option Addr) (n2 cap2 : Nat) (w : World)
    (hs3 : Seg w a3 b3 off3 n3 h) (hs : Seg w a b off n f) (hn : n ≤ 64) (hn3 : n3 ≤ 64) (c1 : Canon n f) (c3 : Canon n3 h) (h0 : 0 < n3) :
    Calls Tryd.prog 36 #[.slice a3 n3 cap3, .slice a n cap, .slice a2 n2 cap2] w fun e w' => GivesQ w (invV (nval h n3) (nval f n % nval h n3)) e w' := by
  have hM := nval_pos c3 h0
  have hM' : 0 < nval h n3 := hM
  generalize hVV : invV (nval h n3) (nval f n % nval h n3) = VV
  have HVV := hide hVV
  clear hVV
  go_enter Tryd.func36, Tryd.ntmps36
  go_wp2_with fail
  refine (rest_any a3 b3 off3 n3 cap3 h a b off n cap f _ hs3 hs (by omega) (by omega) c3 h0 c1).mono ?_
  rintro e w3 ⟨aS, gS, capS, nS, fS, rfl, k2, cS, k6, k8, oS, B4⟩
  have VS := hide (nval_rest c1.digs c3.digs cS.digs k6)
  clear k6 k8
  have BX : Below w3.heap.size w3 (w3.alloc (.cells #[] 3)) := (Below.refl _ _).alloc (Nat.le_refl _) _
  have BY : Below (w3.alloc (.cells #[] 3)).heap.size (w3.alloc (.cells #[] 3)) ((w3.alloc (.cells #[] 3)).alloc (.cells #[.int .i64 1] 3)) := (Below.refl _ _).alloc (Nat.le_refl _) _
  have oV := own_one (w3.alloc (.cells #[] 3))
  have BZ := BX.trans (BY.mono BX.size)
  have B5 := B4.trans (BZ.mono B4.size)
  have s5 := oS.toSeg.of_all BZ
  have gsz : w.heap.size ≤ (w3.alloc (.cells #[] 3)).heap.size := Nat.le_trans B4.size BX.size
  have E0 : Hid (Turns (nval h n3) (nval f n % nval h n3) (nval h n3) (nval fS nS) (nval (fun _ => 0) 0) (nval (fun _ => 1) 1) true) := by
    show Turns _ _ _ _ _ _ _
    rw [VS.out, nval_one]
    exact turns_start (Nat.mod_lt _ hM)
  have lS : nS ≤ n3 := nval_short cS c3 (by rw [VS.out]; exact Nat.le_of_lt (Nat.mod_lt _ hM))
  have I0 : Hid (TurnAt w ((w3.alloc (.cells #[] 3)).alloc (.cells #[.int .i64 1] 3)) (nval h n3) (nval f n % nval h n3) n3 a3 b3 off3 n3 h aS gS nS fS (some ⟨w3.heap.size, 0, none⟩) w3.heap.size 0 (fun _ => 0) (some ⟨(w3.alloc (.cells #[] 3)).heap.size, 0, none⟩) (w3.alloc (.cells #[] 3)).heap.size 1 (fun _ => 1) true) :=
    ⟨c3, cS, ⟨fun i hi => absurd hi (Nat.not_lt_zero _), .inl rfl⟩, canon_one.1, Nat.le_refl _, lS, by omega, by omega, E0.out, hs3.of_all B5, s5, Own.nil _ _ _ _ _, oV, B4.size, gsz, B5⟩
  clear oV B4 BZ BX BY s5 B5 E0 VS lS cS gsz oS
  have eA : (w3.alloc (.cells #[] 3)).heap.size = w3.heap.size + 1 := by simp
  rw [eA] at I0
  clear eA
  generalize nval f n % nval h n3 = A at *
  generalize hMM : nval h n3 = M at *
  have HM := hide hMM
  clear hMM
  go_wp2
  go_loopw [8, 9, 10, 11, 12] (fun r s x y tt wr => ∃ (aR : Option Addr) (gR oR capR nR : Nat) (fR : Nat → Int) (aS : Option Addr) (gS capS nS : Nat) (fS : Nat → Int) (aU : Option Addr) (gU capU nU : Nat) (fU : Nat → Int) (aV : Option Addr) (gV capV nV : Nat) (fV : Nat → Int) (t : Bool),
    r = .slice aR nR capR ∧ s = .slice aS nS capS ∧ x = .slice aU nU capU ∧ y = .slice aV nV capV ∧ tt = .bool t ∧ TurnAt w wr M A n3 aR gR oR nR fR aS gS nS fS aU gU nU fU aV gV nV fV t) (fun _ s _ _ _ wr => sliceVal s wr)
  case atStart => exact ⟨_, _, _, cap3, n3, h, aS, gS, capS, nS, fS, _, _, 0, 0, fun _ => 0, _, _, 1, 1, fun _ => 1, true, rfl, rfl, rfl, rfl, rfl, I0.out⟩
  case round =>
    clear I0 k2
    obtain ⟨aR, gR, oR, capR, nR, fR, aS, gS, capS, nS, fS, aU, gU, capU, nU, fU, aV, gV, capV, nV, fV, t, rfl, rfl, rfl, rfl, rfl, hI⟩ := hrel
    obtain ⟨cR, cS, cU, cV, lR, lS, lU, lV, hL, sR, sS, oU, oV, geU, geV, BB⟩ := hI
    have HL := hide hL
    clear hL
    by_cases hS0 : nS = 0
    · subst hS0
      by_cases hR1 : nval fR nR = 1
      · by_cases hM1 : M = 1
        · have HQ := hide (show VV = none by rw [← HVV.out, invV, if_pos hM1])
          go_wp2_with fail
          refine (isOne_any aR gR oR nR capR fR _ sR cR).mono ?_
          rintro e w6 ⟨rfl, hw⟩
          obtain rfl := hw.symm
          rw [decide_eq_true hR1]
          go_wp2_with fail
          refine (isOne_any a3 b3 off3 n3 cap3 h _ (hs3.of_all BB) c3).mono ?_
          rintro e w6 ⟨rfl, hw⟩
          obtain rfl := hw.symm
          rw [decide_eq_true (HM.out.trans hM1)]
          clear hR1 hM1
          go_wp2
          go_ret2
          exact GivesQ.none HQ.out rfl (BB.alloc BB.size _)
        · obtain ⟨hlt, hq⟩ := HL.out.done (by omega) hR1
          have hm1 : ¬ nval h n3 = 1 := by rw [HM.out]; exact hM1
          have HQ := hide (show VV = some (if t then ((M - nval fU nU : Nat) : Int) else (nval fU nU : Int)) by rw [← HVV.out, invV, if_neg hM1]; exact hq)
          clear hq
          cases t with
          | false =>
            go_wp2_with fail
            refine (isOne_any aR gR oR nR capR fR _ sR cR).mono ?_
            rintro e w6 ⟨rfl, hw⟩
            obtain rfl := hw.symm
            rw [decide_eq_true hR1]
            go_wp2_with fail
            refine (isOne_any a3 b3 off3 n3 cap3 h _ (hs3.of_all BB) c3).mono ?_
            rintro e w6 ⟨rfl, hw⟩
            obtain rfl := hw.symm
            rw [decide_eq_false hm1]
            clear hR1 hM1 hm1
            go_wp2
            go_ret2
            refine ⟨aU, gU, capU, nU, fU, true, rfl, by omega, ?_, geU, oU, BB⟩
            rw [HQ.out]
            exact ⟨cU, by rw [nval_eq cU.digs]; rfl, rfl⟩
          | true =>
            go_wp2_with fail
            refine (isOne_any aR gR oR nR capR fR _ sR cR).mono ?_
            rintro e w6 ⟨rfl, hw⟩
            obtain rfl := hw.symm
            rw [decide_eq_true hR1]
            go_wp2_with fail
            refine (isOne_any a3 b3 off3 n3 cap3 h _ (hs3.of_all BB) c3).mono ?_
            rintro e w6 ⟨rfl, hw⟩
            obtain rfl := hw.symm
            rw [decide_eq_false hm1]
            clear hR1 hM1 hm1
            go_wp2_with fail
            refine (digitsDifference_any a3 b3 off3 n3 cap3 h aU gU 0 nU capU fU _ (hs3.of_all BB) oU.toSeg (by omega) lU c3.digs cU.digs (nval_le cU.digs c3.digs (by rw [HM.out]; omega))).mono ?_
            rintro e w8 ⟨gD, capD, nD, fD, rfl, kd1, kd2, cD, kd4, kd5, oD, k12⟩
            have VD := hide (nval_sub c3.digs cU.digs cD.digs kd4)
            have B8 := BB.trans (k12.mono BB.size)
            have geD : w.heap.size ≤ gD := by have := BB.size; omega
            clear kd4 kd5 k12 BB oU oV sR sS
            go_wp2
            go_ret2
            refine ⟨_, gD, capD, nD, fD, true, rfl, by omega, ?_, geD, oD, B8⟩
            rw [HQ.out]
            exact ⟨cD, by rw [nval_eq cD.digs, VD.out, HM.out]; rfl, rfl⟩
      · have HQ : Hid (VV = none) := by
          show _ = _
          rw [← HVV.out, invV]
          by_cases hM1 : M = 1
          · rw [if_pos hM1]
          · rw [if_neg hM1]; exact HL.out.done_no (by omega) hR1
        go_wp2_with fail
        refine (isOne_any aR gR oR nR capR fR _ sR cR).mono ?_
        rintro e w6 ⟨rfl, hw⟩
        obtain rfl := hw.symm
        rw [decide_eq_false hR1]
        clear hR1
        go_wp2
        go_ret2
        exact GivesQ.none HQ.out rfl (BB.alloc BB.size _)
    · have hSp : 0 < nval fS nS := nval_pos cS (by omega)
      have hlen : (0 : Int) < (nS : Int) := by omega
      have hN := hide (HL.out.step hSp)
      have hRM := HL.out.le
      have hSR := HL.out.lt
      obtain ⟨sm1, sm2, sm3⟩ := HL.out.small_mul hSp
      have Hold := hide (sliceVal_seg (cap := capS) sS)
      go_wp2_with fail
      refine (divideDigits_any aR gR oR nR capR fR aS gS 0 nS capS fS _ sR sS (by omega) (by omega) (by omega) cR cS).mono ?_
      rintro e w6 ⟨aQ, gQ, capQ, nQ, fQ, aT, gT, capT, nT, fT, rfl, k1, k2, cQ, k4, cT, k6, k7, k8, k9, oQ, oT, k12⟩
      have VQ := hide (nval_div cR.digs cS.digs cQ.digs k4)
      have VT := hide (nval_rest cR.digs cS.digs cT.digs k6)
      have B6 := BB.trans (k12.mono BB.size)
      have sS6 := sS.of_all k12
      have oU6 := oU.of_all k12
      have oV6 := oV.of_all k12
      have lQ : nQ ≤ n3 := nval_short cQ c3 (by rw [VQ.out, HM.out]; exact sm3)
      have lT : nT ≤ n3 := nval_short cT c3 (by rw [VT.out, HM.out]; have := Nat.mod_lt (nval fR nR) hSp; omega)
      have sT6 := oT.toSeg
      have sQ6 := oQ.toSeg
      clear k4 k6 k7 k8 k9 k12 BB sS oU oV sR oT oQ sm3
      go_wp2_with fail
      refine (digitsProduct_any aQ gQ 0 nQ capQ fQ aV gV 0 nV capV fV _ sQ6 oV6.toSeg (by omega) (by omega) cQ.digs cV.digs).mono ?_
      rintro e w7 ⟨gP, capP, nP, fP, rfl, kp1, kp2, cP, kp4, kp5, oP, k12⟩
      have VP := hide (nval_mul cQ.digs cV.digs cP.digs kp4)
      have B7 := B6.trans (k12.mono B6.size)
      have sS7 := sS6.of_all k12
      have oU7 := oU6.of_all k12
      have oV7 := oV6.of_all k12
      have sT7 := sT6.of_all k12
      have lP : nP ≤ n3 := nval_short cP c3 (by rw [VP.out, VQ.out, HM.out]; exact sm1)
      clear kp4 kp5 k12 B6 sS6 oU6 oV6 sT6 sQ6 sm1
      go_wp2_with fail
      refine (digitsSum_any aU gU 0 nU capU fU _ gP 0 nP capP fP _ oU7.toSeg oP.toSeg (by omega) (by omega) cU.digs cP.digs).mono ?_
      rintro e w8 ⟨gE, capE, nE, fE, rfl, ke1, ke2, cE, ke4, ke5, oE, k12⟩
      have VE := hide (nval_add cU.digs cP.digs cE.digs ke4)
      have B8 := B7.trans (k12.mono B7.size)
      have sS8 := sS7.of_all k12
      have oV8 := oV7.of_all k12
      have sT8 := sT7.of_all k12
      have lE : nE ≤ n3 := nval_short cE c3 (by rw [VE.out, VP.out, VQ.out, HM.out]; exact sm2)
      have geE : w.heap.size ≤ gE := by have := B7.size; omega
      clear ke4 ke5 k12 B7 sS7 oU7 oV7 sT7 oP sm2
      have HI : Hid (TurnAt w w8 M A n3 aS gS 0 nS fS aT gT nT fT aV gV nV fV (some ⟨gE, 0, none⟩) gE nE fE (!t)) :=
        ⟨cS, cT, cV, cE, lS, lT, lV, lE, by rw [VT.out, VE.out, VP.out, VQ.out]; exact hN.out, sS8, sT8, oV8, oE, geV, geE, B8⟩
      have Hnew := hide (sliceVal_seg (cap := capT) sT8)
      have Hlt : Hid (nval fT nT < nval fS nS) := by show _ < _; rw [VT.out]; exact Nat.mod_lt _ hSp
      clear sS8 sT8 oV8 oE B8
      go_wp2
      go_roundw
      case rel => exact ⟨aS, gS, 0, capS, nS, fS, aT, gT, capT, nT, fT, aV, gV, capV, nV, fV, _, gE, capE, nE, fE, !t, rfl, rfl, rfl, rfl, rfl, HI.out⟩
      case measure => rw [Hnew.out, Hold.out]; exact Hlt.out

set_option maxHeartbeats 800000 in
theorem implModInv_any (a : Option Addr) (b off n cap : Nat) (f : Nat → Int) (a3 : Option Addr) (b3 off3 n3 cap3 : Nat) (h : Nat → Int) (w : World)
    (hs : Seg w a b off n f) (hs3 : Seg w a3 b3 off3 n3 h) (hn : n ≤ 1048576) (hn3 : n3 ≤ 1048576) :
    Calls Tryd.prog 11 #[.slice a n cap, .slice a3 n3 cap3] w fun e w' => GivesQ w (modInvQ n f n3 h) e w' := by
  have s2 : Seg w none 0 0 0 (fun _ => 0) := (Own.nil _ _ _ _ _).toSeg
  have Hc : Hid (Calls Tryd.prog 17 #[.int .i64 2, .slice a n cap, .slice none 0 0, .slice a3 n3 cap3] w fun e w' => GivesQ w (modInvQ n f n3 h) e w') := by
    cases hb : twoB n f n3 h with
    | false =>
      rw [show modInvQ n f n3 h = none by simp [modInvQ, hb]]
      exact modAnswer_bad 2 a b off n cap f none 0 0 0 0 (fun _ => 0) a3 b3 off3 n3 cap3 h w hs s2 hs3 hn (by omega) hn3 (by rw [threeB_ok (natOk_nil _), hb])
    | true =>
      have hb3 : threeB n f 0 (fun _ => 0) n3 h = true := by rw [threeB_ok (natOk_nil _), hb]
      rw [show modInvQ n f n3 h = invV (nval h n3) (nval f n % nval h n3) by
        by_cases e : nval h n3 = 1
        · simp [modInvQ, invV, e]
        · simp [modInvQ, invV, hb, e]]
      obtain ⟨c1, l1, c2, l2, c3, l3, h0, _, _, _⟩ := threeB_iff hb3
      exact modAnswer_inverse a b off n cap f none 0 0 0 0 (fun _ => 0) a3 b3 off3 n3 cap3 h w hs s2 hs3 hn (by omega) hn3 hb3 _ (fun w' hB => inverse_any a3 b3 off3 n3 cap3 h a b off n cap f none 0 0 w' (hs3.of_all hB) (hs.of_all hB) (by omega) (by omega) c1 c3 h0)
  go_enter Tryd.func11, Tryd.ntmps11
  go_wp2_with fail
  refine Hc.out.mono ?_
  rintro e w2 ⟨a4, g4, cap4, n4, f4, ok4, rfl, k4, k5, k6, k7, k8⟩
  clear Hc
  go_wp2
  go_ret2
  exact ⟨a4, g4, cap4, n4, f4, ok4, rfl, k4, k5, k6, k7, k8⟩

end Go.Proofs.YtmkmojcefgcmlaaDoor
