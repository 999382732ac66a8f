/- Walks: ModPow, the model's and the program's: what is left of a power. -/
import Derived.Test.YtmkmojcefgcmlaaDoorModAns
import Derived.Test.YtmkmojcefgcmlaaDoorBitsM
import Derived.Test.YtmkmojcefgcmlaaDoorL1Bits
import Derived.Test.YtmkmojcefgcmlaaDoorTheory
import Derived.Test.YtmkmojcefgcmlaaDoorBits
namespace Go.Proofs.YtmkmojcefgcmlaaDoor
set_option linter.unusedVariables false
open Go.RowKit

/-- A list of digits read as a natural number. -/
def nval (f : Nat → Int) (n : Nat) : Nat := (val f n).toNat

theorem nval_eq {f : Nat → Int} {n : Nat} (hd : Digs f n) : val f n = (nval f n : Int) := by
  have := (val_bd hd).1
  unfold nval
  omega

theorem nval_mod {f g h k : Nat → Int} {n m p q : Nat} (hf : Digs f n) (hg : Digs g m) (hh : Digs h p) (hk : Digs k q) (e : val k q = val f n * val g m % val h p) : nval k q = nval f n * nval g m % nval h p := by
  rw [nval_eq hf, nval_eq hg, nval_eq hh, nval_eq hk, ← Int.natCast_mul, ← Int.natCast_emod] at e
  omega

theorem nval_rest {f h k : Nat → Int} {n p q : Nat} (hf : Digs f n) (hh : Digs h p) (hk : Digs k q) (e : val k q = val f n % val h p) : nval k q = nval f n % nval h p := by
  rw [nval_eq hf, nval_eq hh, nval_eq hk, ← Int.natCast_emod] at e
  omega

theorem nval_pos {h : Nat → Int} {n : Nat} (hh : Canon n h) (h0 : 0 < n) : 0 < nval h n := by
  have := canon_pos hh h0
  unfold nval
  omega

theorem nval_short {f g : Nat → Int} {n m : Nat} (hf : Canon n f) (hg : Canon m g) (h : nval f n ≤ nval g m) : n ≤ m := by
  refine canon_short hf hg ?_
  rw [nval_eq hf.digs, nval_eq hg.digs]
  omega

/-- ModPow's answer. -/
def modPowQ (n : Nat) (f : Nat → Int) (n2 : Nat) (g : Nat → Int) (n3 : Nat) (h : Nat → Int) : Option Int := if threeB n f n2 g n3 h then some ((nval f n ^ nval g n2 % nval h n3 : Nat) : Int) else none

theorem nbits {n : Nat} {f : Nat → Int} (hd : Digs f n) : nval f n < 2 ^ (bitsOf n f).toNat := by
  have h := val_lt_bits hd
  rw [nval_eq hd] at h
  have e : (2 : Int) ^ (bitsOf n f).toNat = ((2 ^ (bitsOf n f).toNat : Nat) : Int) := by rw [Int.natCast_pow]; rfl
  rw [e] at h
  omega

theorem nbit {n : Nat} {f : Nat → Int} (hd : Digs f n) {i : Nat} (hi : i / 16 < n) : ((nval f n / 2 ^ i % 2 : Nat) : Int) = f (i / 16) / 2 ^ (i % 16) % 2 := by
  rw [← val_bit hd hi, nval_eq hd, Int.natCast_emod, Int.natCast_ediv, Int.natCast_pow]
  rfl

/-- One list with the one digit 1. -/
theorem canon_one : Canon 1 (fun _ => 1) ∧ val (fun _ => 1) 1 = 1 := ⟨⟨fun i _ => by omega, Or.inr (by simp)⟩, by simp [val, pw]⟩

theorem seg_one (w : World) (t : TypeId) : Seg (w.alloc (.cells #[.int .i64 1] t)) (some ⟨w.heap.size, 0, none⟩) w.heap.size 0 1 (fun _ => 1) := by
  refine ⟨fun _ => rfl, fun i hi => ?_⟩
  obtain rfl : i = 0 := by omega
  simp

/-- The number of bits goes down by one as the exponent is halved. -/
theorem half_step (E i : Nat) : E / 2 ^ i = 2 * (E / 2 ^ (i + 1)) + E / 2 ^ i % 2 := by
  rw [Nat.pow_succ, ← Nat.div_div_eq_div_mul]
  omega

theorem pow_down_one (A M X : Nat) (B : Nat) (h : B = 1) : (A ^ X % M) * (A ^ X % M) % M * (A % M) % M = A ^ (2 * X + B) % M := by
  subst h
  rw [Nat.pow_add, Nat.pow_one, Nat.two_mul, Nat.pow_add, ← Nat.mul_mod (A ^ X) (A ^ X) M, ← Nat.mul_mod]

theorem pow_down_zero (A M X : Nat) (B : Nat) (h : B = 0) : (A ^ X % M) * (A ^ X % M) % M = A ^ (2 * X + B) % M := by
  subst h
  rw [Nat.add_zero, Nat.two_mul, Nat.pow_add, ← Nat.mul_mod]

theorem digit_test {n : Nat} {f : Nat → Int} (hd : Digs f n) {i : Nat} (hi : i / 16 < n) : (bits .and .i64 (f (i / 16) / 2 ^ (i % 16)) 1 == 1) = decide (nval f n / 2 ^ i % 2 = 1) := by
  rw [and_one, ← nbit hd hi]
  have h2 : nval f n / 2 ^ i % 2 < 2 := Nat.mod_lt _ (by omega)
  generalize nval f n / 2 ^ i % 2 = y at *
  rcases (show y = 0 ∨ y = 1 by omega) with rfl | rfl <;> rfl

set_option maxHeartbeats 1600000 in
theorem power_any (a3 : Option Addr) (b3 off3 n3 cap3 : Nat) (h : Nat → Int) (a : Option Addr) (b off n cap : Nat) (f : Nat → Int) (a2 : Option Addr) (b2 off2 n2 cap2 : Nat) (g : Nat → Int) (w : World)
    (hs3 : Seg w a3 b3 off3 n3 h) (hs : Seg w a b off n f) (hs2 : Seg w a2 b2 off2 n2 g) (hn : n ≤ 64) (hn2 : n2 ≤ 64) (hn3 : n3 ≤ 64) (c1 : Canon n f) (c2 : Canon n2 g) (c3 : Canon n3 h) (h0 : 0 < n3) :
    Calls Tryd.prog 35 #[.slice a3 n3 cap3, .slice a n cap, .slice a2 n2 cap2] w fun e w' => GivesQ w (some ((nval f n ^ nval g n2 % nval h n3 : Nat) : Int)) e w' := by
  have hM := nval_pos c3 h0
  have Hbits := hide (nbits c2.digs)
  have b0 := bits_nonneg n2 g
  have b1 := bits_le16 c2.digs
  have Htop : Hid (n2 = 0 ∨ (0 ≤ g (n2 - 1) ∧ g (n2 - 1) ≤ 65535)) := by
    by_cases e : n2 = 0
    · exact Or.inl e
    · exact Or.inr (c2.digs _ (by omega))
  generalize hR : nval f n ^ nval g n2 % nval h n3 = R
  have HR := hide hR
  clear hR
  go_enter Tryd.func35, Tryd.ntmps35
  go_wp2_with fail
  have B0 : Below w.heap.size w (w.alloc (.cells #[.int .i64 1] 3)) := (Below.refl _ _).alloc (Nat.le_refl _) _
  refine (rest_any a3 b3 off3 n3 cap3 h _ w.heap.size 0 1 1 (fun _ => 1) _ (hs3.of_all B0) (seg_one w 3) (by omega) (by omega) c3 h0 canon_one.1).mono ?_
  rintro e w1 ⟨aP, gP, capP, nP, fP, rfl, k2, cP, k6, ge, oP, k12⟩
  have B1 := B0.trans (k12.mono B0.size)
  have geP : w.heap.size ≤ gP := by have := B0.size; omega
  have VP := hide (nval_rest canon_one.1.digs c3.digs cP.digs k6)
  clear k6 k12 B0 ge
  go_wp2_with fail
  refine (rest_any a3 b3 off3 n3 cap3 h a b off n cap f _ (hs3.of_all B1) (hs.of_all B1) (by omega) (by omega) c3 h0 c1).mono ?_
  rintro e w2 ⟨aS, gS, capS, nS, fS, rfl, k2', cS, k6, geS', oS, k12⟩
  have B2 := B1.trans (k12.mono B1.size)
  have VS := hide (nval_rest c1.digs c3.digs cS.digs k6)
  have oP2 := oP.of_all k12
  clear k6 k12 B1 oP geS'
  go_wp2_with fail
  refine (digitsBits_any a2 b2 off2 n2 cap2 g _ (hs2.of_all B2) (by omega) Htop.out).mono ?_
  rintro e w2' ⟨rfl, hw⟩
  obtain rfl := hw.symm
  obtain ⟨L, hL⟩ := Int.eq_ofNat_of_zero_le b0
  rw [hL] at b1 ⊢
  have HbL : Hid (nval g n2 < 2 ^ L) := by have := Hbits.out; rwa [hL, Int.toNat_natCast] at this
  have lS : nS ≤ n3 := nval_short cS c3 (by rw [VS.out]; exact Nat.le_of_lt (Nat.mod_lt _ hM))
  have lP : nP ≤ n3 := nval_short cP c3 (by rw [VP.out]; exact Nat.le_of_lt (Nat.mod_lt _ hM))
  have HS : Hid (nval fP nP * nval fS nS ^ (nval g n2 / 2 ^ 0) % nval h n3 = R) := by
    show _ = _
    rw [VP.out, VS.out, ← HR.out, Nat.pow_zero, Nat.div_one, show nval (fun _ => 1) 1 = 1 by simp [nval, canon_one.2]]
    exact pow_start _ _ _
  have PL : Hid (nval fP nP < nval h n3) := by show _ < _; rw [VP.out]; exact Nat.mod_lt _ hM
  clear hL Hbits b0 Htop
  go_wp2
  go_loopw [8, 9, 19] (fun p s i wr => ∃ (aP : Option Addr) (gP capP nP : Nat) (fP : Nat → Int) (aS : Option Addr) (gS capS nS : Nat) (fS : Nat → Int) (K : Nat), p = .slice aP nP capP ∧ s = .slice aS nS capS ∧ i = .int .i64 (K : Int) ∧ K ≤ L ∧ Canon nP fP ∧ nP ≤ n3 ∧ Canon nS fS ∧ nS ≤ n3 ∧
    nval fP nP * nval fS nS ^ (nval g n2 / 2 ^ K) % nval h n3 = R ∧ nval fP nP < nval h n3 ∧ w.heap.size ≤ gP ∧ Own wr aP gP 0 nP fP ∧ Seg wr aS gS 0 nS fS ∧ Below w.heap.size w wr) (fun _ _ i _ => L - (intOf i).toNat)
  case atStart => exact ⟨aP, gP, capP, nP, fP, aS, gS, capS, nS, fS, 0, rfl, rfl, rfl, by omega, cP, lP, cS, lS, HS.out, PL.out, geP, oP2, oS.toSeg, B2⟩
  case round =>
    clear oP2 B2 VP VS lP lS cP cS geP k2 k2' HS PL oS
    obtain ⟨aP, gP, capP, nP, fP, aS, gS, capS, nS, fS, K, rfl, rfl, rfl, hK, cP, lP, cS, lS, vP, pl, geP, oP, sS, BB⟩ := hrel
    have VP := hide vP
    have PL := hide pl
    clear vP pl
    by_cases hend : K = L
    · subst hend
      go_wp2
      go_ret2
      refine ⟨aP, gP, capP, nP, fP, true, rfl, by omega, ⟨cP, ?_, rfl⟩, geP, oP, BB⟩
      have := VP.out
      rw [Nat.div_eq_of_lt HbL.out, Nat.pow_zero, Nat.mul_one, Nat.mod_eq_of_lt PL.out] at this
      rw [nval_eq cP.digs, this]
    · have hlt : (K : Int) < (L : Int) := by omega
      have hkd : K / 16 < n2 := by omega
      obtain rfl := hs2.at' (by omega)
      have hc := (hs2.of_all BB).cell (K / 16) hkd
      have hdv : (K : Int) / 16 = ((K / 16 : Nat) : Int) := by omega
      have hmd : (K : Int) % 16 = ((K % 16 : Nat) : Int) := by omega
      have hdn : ((K / 16 : Nat) : Int) < (n2 : Int) := by omega
      have hm16 : K % 16 < 16 := Nat.mod_lt _ (by omega)
      have d := c2.digs (K / 16) hkd
      have Ht := hide (digit_test c2.digs hkd)
      have Hd := hide (show nval g n2 / 2 ^ (K + 1) = nval g n2 / 2 ^ K / 2 by rw [Nat.pow_succ, Nat.div_div_eq_div_mul])
      have hsq : Hid (∀ w', Below w.heap.size w w' → ∀ (aP : Option Addr) (gP capP nP : Nat) (fP : Nat → Int) (aS : Option Addr) (gS capS nS : Nat) (fS : Nat → Int), Canon nP fP → nP ≤ n3 → Canon nS fS → nS ≤ n3 → Seg w' aP gP 0 nP fP → Seg w' aS gS 0 nS fS →
        Calls Tryd.prog 40 #[.slice aP nP capP, .slice aS nS capS] w' fun e w'' => GivesVal w' (val fP nP * val fS nS) e w'') := fun w' _ aP gP capP nP fP aS gS capS nS fS c1 l1 c2 l2 s1 s2 => digitsProduct_any aP gP 0 nP capP fP aS gS 0 nS capS fS w' s1 s2 (by omega) (by omega) c1.digs c2.digs
      clear hkd
      by_cases hbit : nval g n2 / 2 ^ K % 2 = 1
      · have htest := Ht.out
        rw [decide_eq_true hbit] at htest
        have Hn := hide (pow_odd (nval fP nP) (nval fS nS) (nval g n2 / 2 ^ K) (nval h n3) hbit)
        generalize K / 16 = q at *
        generalize K % 16 = r at *
        generalize g q = x at *
        clear hbit Ht
        go_wp2_with fail
        refine (hsq.out _ BB aP gP capP nP fP aS gS capS nS fS cP lP cS lS oP.toSeg sS).mono ?_
        rintro e w4 ⟨g1, cap1, m, f1, rfl, hm, hc1, hC, hV, hg1, hO1, hB1⟩
        have hl := prod_len cP.digs cS.digs hC hV
        have B4 := BB.trans (hB1.mono BB.size)
        have sS4 := sS.of_all hB1
        have HV := hide hV
        clear hV sS BB hB1 oP htest hc
        go_wp2_with fail
        refine (rest_any a3 b3 off3 n3 cap3 h _ g1 0 m cap1 f1 _ (hs3.of_all B4) hO1.toSeg (by omega) (by omega) c3 h0 hC).mono ?_
        rintro e w5 ⟨aQ, gQ, capQ, nQ, fQ, rfl, k2, cQ, k6, k8, oQ, k12⟩
        have VQ := hide (nval_mod cP.digs cS.digs c3.digs cQ.digs (by rw [k6, HV.out]))
        have B5 := B4.trans (k12.mono B4.size)
        have sS5 := sS4.of_all k12
        have geQ : w.heap.size ≤ gQ := by have := B4.size; omega
        have lQ : nQ ≤ n3 := nval_short cQ c3 (by rw [VQ.out]; exact Nat.le_of_lt (Nat.mod_lt _ hM))
        clear k6 k8 k12 B4 sS4 hO1 HV hg1
        go_wp2_with fail
        refine (hsq.out _ B5 aS gS capS nS fS aS gS capS nS fS cS lS cS lS sS5 sS5).mono ?_
        rintro e w6 ⟨g1, cap1, m, f1, rfl, hm, hc1, hC, hV, hg1, hO1, hB1⟩
        have hl := prod_len cS.digs cS.digs hC hV
        have B6 := B5.trans (hB1.mono B5.size)
        have oQ6 := oQ.of_all hB1
        have HV := hide hV
        clear hV sS5 B5 hB1 oQ
        go_wp2_with fail
        refine (rest_any a3 b3 off3 n3 cap3 h _ g1 0 m cap1 f1 _ (hs3.of_all B6) hO1.toSeg (by omega) (by omega) c3 h0 hC).mono ?_
        rintro e w7 ⟨aT, gT, capT, nT, fT, rfl, k2', cT, k6, k8, oT, k12⟩
        have VT := hide (nval_mod cS.digs cS.digs c3.digs cT.digs (by rw [k6, HV.out]))
        have B7 := B6.trans (k12.mono B6.size)
        have oQ7 := oQ6.of_all k12
        have lT : nT ≤ n3 := nval_short cT c3 (by rw [VT.out]; exact Nat.le_of_lt (Nat.mod_lt _ hM))
        have PQ : Hid (nval fQ nQ < nval h n3) := by show _ < _; rw [VQ.out]; exact Nat.mod_lt _ hM
        clear k6 k8 k12 B6 oQ6 hO1 HV hg1
        go_wp2
        go_roundw
        case rel => exact ⟨aQ, gQ, capQ, nQ, fQ, aT, gT, capT, nT, fT, K + 1, rfl, rfl, by go_num, by omega, cQ, lQ, cT, lT, by rw [Hd.out, VQ.out, VT.out]; exact Hn.out.trans VP.out, PQ.out, geQ, oQ7, oT.toSeg, B7⟩
        case measure => simp [intOf]; omega
      · have htest := Ht.out
        rw [decide_eq_false hbit] at htest
        have Hn := hide (pow_even (nval fP nP) (nval fS nS) (nval g n2 / 2 ^ K) (nval h n3) (by omega))
        generalize K / 16 = q at *
        generalize K % 16 = r at *
        generalize g q = x at *
        clear hbit Ht
        go_wp2_with fail
        refine (hsq.out _ BB aS gS capS nS fS aS gS capS nS fS cS lS cS lS sS sS).mono ?_
        rintro e w6 ⟨g1, cap1, m, f1, rfl, hm, hc1, hC, hV, hg1, hO1, hB1⟩
        have hl := prod_len cS.digs cS.digs hC hV
        have B6 := BB.trans (hB1.mono BB.size)
        have oP6 := oP.of_all hB1
        have HV := hide hV
        clear hV sS BB hB1 oP htest hc
        go_wp2_with fail
        refine (rest_any a3 b3 off3 n3 cap3 h _ g1 0 m cap1 f1 _ (hs3.of_all B6) hO1.toSeg (by omega) (by omega) c3 h0 hC).mono ?_
        rintro e w7 ⟨aT, gT, capT, nT, fT, rfl, k2', cT, k6, k8, oT, k12⟩
        have VT := hide (nval_mod cS.digs cS.digs c3.digs cT.digs (by rw [k6, HV.out]))
        have B7 := B6.trans (k12.mono B6.size)
        have oP7 := oP6.of_all k12
        have lT : nT ≤ n3 := nval_short cT c3 (by rw [VT.out]; exact Nat.le_of_lt (Nat.mod_lt _ hM))
        clear k6 k8 k12 B6 oP6 hO1 HV hg1
        go_wp2
        go_roundw
        case rel => exact ⟨aP, gP, capP, nP, fP, aT, gT, capT, nT, fT, K + 1, rfl, rfl, by go_num, by omega, cP, lP, cT, lT, by rw [Hd.out, VT.out]; exact Hn.out.trans VP.out, PL.out, geP, oP7, oT.toSeg, B7⟩
        case measure => simp [intOf]; omega

set_option maxHeartbeats 800000 in
theorem implModPow_any (a : Option Addr) (b off n cap : Nat) (f : Nat → Int) (a2 : Option Addr) (b2 off2 n2 cap2 : Nat) (g : Nat → Int) (a3 : Option Addr) (b3 off3 n3 cap3 : Nat) (h : Nat → Int) (w : World)
    (hs : Seg w a b off n f) (hs2 : Seg w a2 b2 off2 n2 g) (hs3 : Seg w a3 b3 off3 n3 h) (hn : n ≤ 1048576) (hn2 : n2 ≤ 1048576) (hn3 : n3 ≤ 1048576) :
    Calls Tryd.prog 8 #[.slice a n cap, .slice a2 n2 cap2, .slice a3 n3 cap3] w fun e w' => GivesQ w (modPowQ n f n2 g n3 h) e w' := by
  have Hc : Hid (Calls Tryd.prog 17 #[.int .i64 1, .slice a n cap, .slice a2 n2 cap2, .slice a3 n3 cap3] w fun e w' => GivesQ w (modPowQ n f n2 g n3 h) e w') := by
    cases hb : threeB n f n2 g n3 h with
    | false =>
      rw [show modPowQ n f n2 g n3 h = none by simp [modPowQ, hb]]
      exact modAnswer_bad 1 a b off n cap f a2 b2 off2 n2 cap2 g a3 b3 off3 n3 cap3 h w hs hs2 hs3 hn hn2 hn3 hb
    | true =>
      rw [show modPowQ n f n2 g n3 h = some ((nval f n ^ nval g n2 % nval h n3 : Nat) : Int) by simp [modPowQ, hb]]
      obtain ⟨c1, l1, c2, l2, c3, l3, h0, _, _, _⟩ := threeB_iff hb
      exact modAnswer_power a b off n cap f a2 b2 off2 n2 cap2 g a3 b3 off3 n3 cap3 h w hs hs2 hs3 hn hn2 hn3 hb _ (fun w' hB => power_any a3 b3 off3 n3 cap3 h a b off n cap f a2 b2 off2 n2 cap2 g w' (hs3.of_all hB) (hs.of_all hB) (hs2.of_all hB) (by omega) (by omega) (by omega) c1 c2 c3 h0)
  go_enter Tryd.func8, Tryd.ntmps8
  go_wp2_with fail
  refine Hc.out.mono ?_
  rintro e w2 ⟨a4, g4, cap4, n4, f4, ok4, rfl, k4, k5, k6, k7, k8⟩
  clear Hc
  go_wp2
  go_ret2
  exact ⟨a4, g4, cap4, n4, f4, ok4, rfl, k4, k5, k6, k7, k8⟩

end Go.Proofs.YtmkmojcefgcmlaaDoor
