/- Proved: at every list of bytes handed to it the law FnPowers answers true and leaves its argument as it was: of the two lists that are drawn of at most 1048576 bytes, where they are naturals and the second is not 0 and at most 20 digits long, powers of the first multiplied are the power of the sum, an inverse that is told times what it is of leaves 1, and of two drawn numbers the greatest common one divides both, whichever way about (beyond that length the law itself answers true at once). No condition. -/
import Derived.Test.YtmkmojcefgcmlaaRows
import Derived.WalkKit
import Derived.ProofKit
import Derived.OpenShut
import Derived.ShutString
import Derived.ChangeOld
import Derived.Below
import Derived.Test.YtmkmojcefgcmlaaDrawMod
import Derived.Test.YtmkmojcefgcmlaaLists
import Derived.Test.YtmkmojcefgcmlaaSame
import Derived.Test.YtmkmojcefgcmlaaNatOf2
import Derived.Test.YtmkmojcefgcmlaaNatOk
import Derived.Test.YtmkmojcefgcmlaaModMul2
import Derived.Test.YtmkmojcefgcmlaaModPow
import Derived.Test.YtmkmojcefgcmlaaModInv2
import Derived.Test.YtmkmojcefgcmlaaGcd
namespace Go.Proofs.Ytmkmojcefgcmlaa.fnPowers
open Go.ChangeShapes Go.WideShapes Go.ChangeAt Go.RowKit
open Go.ChangeMaps (open_string shut_string)
set_option linter.unusedVariables false

theorem own : ownKnob Try.prog.godebug = none := by kernel_rfl
theorem laidOut : laidOutB Try.prog = true := by kernel_rfl

/-- WHAT THE WALK IS TOLD OF A SLICE OF INTEGERS THAT CAME IN: it is nil; or it leads to a row of 'cap' cells, the numbers 'zs' (the first 'len' are its elements, the rest its spare room), each fitting its kind. -/
def IsRow (k : IntKind) (w : World) (a : Option Addr) (len cap : Nat) (zs : List Int) : Prop :=
  (a = none ∧ len = 0 ∧ cap = 0 ∧ zs = []) ∨
  ∃ x, a = some x ∧ len ≤ cap ∧ cap ≤ maxLen ∧ zs.length = cap ∧ (∀ i, i < zs.length → w.cell? (x.add i) = some (.int k (zs.getD i 0))) ∧ ∀ n ∈ zs, (Lit.int k n).wf = true

theorem IsRow.seg {w : World} {a : Option Addr} {len cap : Nat} {zs : List Int} (h : IsRow .u8 w a len cap zs) : ∃ b off, BSeg w a b off len (fun i => zs.getD i 0) ∧ (∀ i, i < len → 0 ≤ zs.getD i 0 ∧ zs.getD i 0 ≤ 255) := by
  rcases h with ⟨rfl, rfl, rfl, rfl⟩ | ⟨x, rfl, hl, hm, hz, hcell, hwz⟩
  · exact ⟨0, 0, ⟨fun h => absurd h (Nat.lt_irrefl _), fun i hi => absurd hi (Nat.not_lt_zero _)⟩, fun i hi => absurd hi (Nat.not_lt_zero _)⟩
  · obtain ⟨b, off, spot⟩ := x
    by_cases h0 : len = 0
    · subst h0
      exact ⟨0, 0, ⟨fun h => absurd h (Nat.lt_irrefl _), fun i hi => absurd hi (Nat.not_lt_zero _)⟩, fun i hi => absurd hi (Nat.not_lt_zero _)⟩
    · have hspot : spot = none := by simpa [Addr.add] using World.cell?_spot (hcell 0 (by omega))
      subst hspot
      exact ⟨b, off, ⟨fun _ => rfl, fun i hi => by
        have h := hcell i (by omega)
        have e : Addr.add ⟨b, off, none⟩ i = ⟨b, off + i, none⟩ := by
          by_cases h0 : i = 0
          · subst h0; simp [Addr.add]
          · simp [Addr.add, h0]
        rwa [e] at h⟩, fun i hi => by
        have hm : zs.getD i 0 ∈ zs := by
          rw [List.getD_eq_getElem?_getD, List.getElem?_eq_getElem (show i < zs.length by omega)]
          exact List.getElem_mem _
        have := bounds_u8 (hwz _ hm)
        show 0 ≤ zs.getD i 0 ∧ zs.getD i 0 ≤ 255
        omega⟩



theorem hide {p : Prop} (h : p) : Hid p := h
theorem unhide {p : Prop} (h : Hid p) : p := h

theorem big_any (a : Option Addr) (n cap : Nat) (w : World) (hn : n ≤ 1048576) : Calls Try.prog 8 #[.slice a n cap] w fun e w' => e = .returned (.bool false) ∧ w' = w := by
  have h : ¬ (1048576 : Int) < (n : Int) := by omega
  go_enter Try.func8, Try.ntmps8
  go_wp2
  go_ret
  exact ⟨rfl, rfl⟩

theorem big_long (a : Option Addr) (n cap : Nat) (w : World) (hn : ¬ n ≤ 1048576) : Calls Try.prog 8 #[.slice a n cap] w fun e w' => e = .returned (.bool true) ∧ w' = w := by
  have h : (1048576 : Int) < (n : Int) := by omega
  go_enter Try.func8, Try.ntmps8
  go_wp2
  go_ret
  exact ⟨rfl, rfl⟩

theorem natOk_of {n : Nat} {f : Nat → Int} (h : Canon n f) (hn : n ≤ 64) : natOk n f = true := (natOk_iff n f).2 ⟨h.digs, hn, h.last⟩

theorem canon_of {n : Nat} {f : Nat → Int} (h : natOk n f = true) : Canon n f := ⟨((natOk_iff n f).1 h).1, ((natOk_iff n f).1 h).2.2⟩

/-- Two canonical lists of one value are alike. -/
theorem same_of {n m : Nat} {f g : Nat → Int} (hf : Canon n f) (hg : Canon m g) (h : val f n = val g m) : (n == m && alike f g n) = true := by
  obtain ⟨rfl, e⟩ := canon_unique hf hg h
  simp [(alike_iff f g n).2 e]

theorem ofQ_pos {x : Int} (h : 0 ≤ x) : ofQ x = some x := by simp [ofQ]; omega

/-- Three naturals, the last not 0. -/
theorem threeB_of {n : Nat} {f : Nat → Int} {n2 : Nat} {g : Nat → Int} {n3 : Nat} {h : Nat → Int} (h1 : natOk n f = true) (h2 : natOk n2 g = true) (h3 : natOk n3 h = true) (h0 : 0 < n3) : threeB n f n2 g n3 h = true := by
  have : (n3 == 0) = false := by simp; omega
  simp [threeB, h1, h2, h3, this]

theorem pow_of {n : Nat} {f : Nat → Int} {n2 : Nat} {g : Nat → Int} {n3 : Nat} {h : Nat → Int} (k : threeB n f n2 g n3 h = true) : modPowQ n f n2 g n3 h = some ((nval f n ^ nval g n2 % nval h n3 : Nat) : Int) := by simp [modPowQ, k]

theorem mul_of {n : Nat} {f : Nat → Int} {n2 : Nat} {g : Nat → Int} {n3 : Nat} {h : Nat → Int} (k : threeB n f n2 g n3 h = true) : modMulQ n f n2 g n3 h = some (val f n * val g n2 % val h n3) := by simp [modMulQ, k]

/-- The answer of ModPow, read. -/
theorem pow_read {n : Nat} {f : Nat → Int} {n2 : Nat} {g : Nat → Int} {n3 : Nat} {h : Nat → Int} {m : Nat} {p : Nat → Int} {ok : Bool} (k : threeB n f n2 g n3 h = true) (hN : IsNat (modPowQ n f n2 g n3 h) m p ok) :
    ok = true ∧ Canon m p ∧ nval p m = nval f n ^ nval g n2 % nval h n3 ∧ natOk m p = true := by
  rw [pow_of k] at hN
  obtain ⟨hc, hv, ho⟩ := hN
  obtain ⟨c1, l1, c2, l2, c3, l3, h0, _, _, _⟩ := threeB_iff k
  have e : nval p m = nval f n ^ nval g n2 % nval h n3 := by rw [nval_eq hc.digs] at hv; omega
  have l : m ≤ n3 := nval_short hc c3 (by rw [e]; exact Nat.le_of_lt (Nat.mod_lt _ (nval_pos c3 h0)))
  exact ⟨ho, hc, e, natOk_of hc (by omega)⟩

theorem mul_read {n : Nat} {f : Nat → Int} {n2 : Nat} {g : Nat → Int} {n3 : Nat} {h : Nat → Int} {m : Nat} {p : Nat → Int} {ok : Bool} (k : threeB n f n2 g n3 h = true) (hN : IsNat (modMulQ n f n2 g n3 h) m p ok) :
    ok = true ∧ Canon m p ∧ nval p m = nval f n * nval g n2 % nval h n3 := by
  rw [mul_of k] at hN
  obtain ⟨hc, hv, ho⟩ := hN
  obtain ⟨c1, l1, c2, l2, c3, l3, h0, _, _, _⟩ := threeB_iff k
  exact ⟨ho, hc, nval_mod c1.digs c2.digs c3.digs hc.digs hv⟩

theorem invQ_spec {M A : Nat} {v : Int} (h : invQ M A = some v) : 0 ≤ v ∧ v < M ∧ v.toNat * A % M = 1 := by
  unfold invQ at h
  cases e : (List.range M).find? (fun v => v * A % M == 1) with
  | none => rw [e] at h; simp at h
  | some u =>
    rw [e] at h
    have hu : ((u : Nat) : Int) = v := by simpa using h
    have h1 := List.find?_some e
    have h2 := List.mem_range.1 (List.mem_of_find?_eq_some e)
    have h3 : u * A % M = 1 := by simpa using h1
    subst hu
    exact ⟨by omega, by omega, by rw [Int.toNat_natCast]; exact h3⟩

/-- The answer of ModInv, read. -/
theorem inv_read {n : Nat} {f : Nat → Int} {n3 : Nat} {h : Nat → Int} {m : Nat} {p : Nat → Int} {ok : Bool} (c3 : Canon n3 h) (l3 : n3 ≤ 64) (hN : IsNat (modInvQ n f n3 h) m p ok) :
    (ok = false ∧ m = 0) ∨ (ok = true ∧ Canon m p ∧ natOk m p = true ∧ nval f n * nval p m % nval h n3 = 1) := by
  cases q : modInvQ n f n3 h with
  | none => rw [q] at hN; exact Or.inl ⟨hN.2, hN.1⟩
  | some v =>
    rw [q] at hN
    obtain ⟨hc, hv, ho⟩ := hN
    right
    unfold modInvQ at q
    split at q
    · obtain ⟨v0, v1, v2⟩ := invQ_spec q
      have e : nval p m = v.toNat := by unfold nval; rw [hv]
      have l : m ≤ n3 := nval_short hc c3 (by rw [e]; omega)
      refine ⟨ho, hc, natOk_of hc (by omega), ?_⟩
      rw [e, ← v2, Nat.mul_mod_mod, Nat.mul_comm]
    · cases q

theorem same_n {n m : Nat} {f g : Nat → Int} (hf : Canon n f) (hg : Canon m g) (h : nval f n = nval g m) : (n == m && alike f g n) = true :=
  same_of hf hg (by rw [nval_eq hf.digs, nval_eq hg.digs, h])

theorem nval_of {n : Nat} {f : Nat → Int} {x : Int} (h : val f n = x) : nval f n = x.toNat := by unfold nval; rw [h]

theorem small_len {n : Nat} {f : Nat → Int} {x : Int} (hc : Canon n f) (h : val f n = x) (hx : x ≤ 100000) : n ≤ 64 := by
  have e : pw 3 = 281474976710656 := by simp [pw]
  exact Nat.le_trans ((canon_len hc 3).2 (by rw [h]; omega)) (by omega)

theorem gcdV_comm (a b : Int) : gcdV a b = gcdV b a := by
  unfold gcdV
  by_cases h : a < 0 ∨ b < 0
  · rw [if_pos h, if_pos (by omega)]
  · rw [if_neg h, if_neg (by omega), Nat.gcd_comm]

theorem gcdV_pos {a b : Int} (ha : 0 ≤ a) (hb : 0 ≤ b) (hne : ¬ (a = 0 ∧ b = 0)) : 0 < gcdV a b ∧ a % gcdV a b = 0 ∧ b % gcdV a b = 0 := by
  obtain ⟨x, rfl⟩ := Int.eq_ofNat_of_zero_le ha
  obtain ⟨y, rfl⟩ := Int.eq_ofNat_of_zero_le hb
  have e : gcdV (x : Int) (y : Int) = (Nat.gcd x y : Int) := by simp [gcdV]
  rw [e]
  have p : 0 < Nat.gcd x y := by
    rcases (show 0 < x ∨ 0 < y by omega) with h | h
    · exact Nat.gcd_pos_of_pos_left _ h
    · exact Nat.gcd_pos_of_pos_right _ h
  refine ⟨by omega, ?_, ?_⟩
  · rw [← Int.natCast_emod, Nat.mod_eq_zero_of_dvd (Nat.gcd_dvd_left x y)]; rfl
  · rw [← Int.natCast_emod, Nat.mod_eq_zero_of_dvd (Nat.gcd_dvd_right x y)]; rfl

set_option maxHeartbeats 8000000 in
set_option maxRecDepth 100000 in
theorem law_bad (a : Option Addr) (b off n cap : Nat) (f : Nat → Int) (w : World) (hs : BSeg w a b off n f) (hB : ∀ i, i < n → 0 ≤ f i ∧ f i ≤ 255) (hn : ¬ n ≤ 1048576) :
    Calls Try.prog 5 #[.slice a n cap] w fun e w' => e = .returned (.bool true) ∧ Below w.heap.size w w' := by
  go_enter Try.func5, Try.ntmps5
  go_wp2_with fail
  refine (big_long a n cap _ hn).mono ?_
  rintro e w' ⟨rfl, hw⟩
  obtain rfl := hw.symm
  go_wp2
  go_ret
  exact ⟨rfl, Below.refl _ _⟩

set_option maxHeartbeats 8000000 in
set_option maxRecDepth 100000 in
theorem law (a : Option Addr) (b off n cap : Nat) (f : Nat → Int) (w : World) (hs : BSeg w a b off n f) (hB : ∀ i, i < n → 0 ≤ f i ∧ f i ≤ 255) (hn : n ≤ 1048576) :
    Calls Try.prog 5 #[.slice a n cap] w fun e w' => e = .returned (.bool true) ∧ Below w.heap.size w w' := by
  go_enter Try.func5, Try.ntmps5
  go_wp2_with fail
  refine (big_any a n cap _ hn).mono ?_
  rintro e w' ⟨rfl, hw⟩
  obtain rfl := hw.symm
  go_wp2_with fail
  refine (drawModInv_any a b off n cap f _ hs hB hn).mono ?_
  rintro e w1 ⟨aX, gX, cX, mX, fX, aY, gY, cY, mY, fY, rfl, hmX, hmY, X_1, Y_1, B_1⟩
  go_wp2_with fail
  refine (specNatOk_any aX gX 0 mX cX fX _ X_1 (by omega)).mono ?_
  rintro e w' ⟨rfl, hw⟩
  obtain rfl := hw.symm
  cases hok : natOk mX fX with
  | false =>
    clear hok
    go_wp2
    go_ret
    exact ⟨rfl, B_1⟩
  | true =>
    go_wp2_with fail
    refine (specNatOk_any aY gY 0 mY cY fY _ Y_1 (by omega)).mono ?_
    rintro e w' ⟨rfl, hw⟩
    obtain rfl := hw.symm
    cases hok2 : natOk mY fY with
    | false =>
      clear hok hok2
      go_wp2
      go_ret
      exact ⟨rfl, B_1⟩
    | true =>
      by_cases hm0 : mY = 0
      · subst hm0
        clear hok hok2
        go_wp2
        go_ret
        exact ⟨rfl, B_1⟩
      · have hm0' : ((mY : Int) == 0) = false := by simp; omega
        by_cases hm20 : 20 < mY
        · have hm20' : (20 : Int) < (mY : Int) := by omega
          clear hok hok2
          go_wp2
          go_ret
          exact ⟨rfl, B_1⟩
        · have hm20' : ¬ (20 : Int) < (mY : Int) := by omega
          have Hok := hide hok
          have Hok2 := hide hok2
          have cX' := canon_of hok
          have cY' := canon_of hok2
          clear hok hok2
          go_wp2_with fail
          refine (at_any a b off n cap f 0 _ (hs.of_all B_1) hB hn (by omega)).mono ?_
          rintro e w' ⟨x, rfl, x0, x1, hw⟩
          obtain rfl := hw.symm
          go_wp2_with fail
          refine (at_any a b off n cap f 1 _ (hs.of_all B_1) hB hn (by omega)).mono ?_
          rintro e w' ⟨y, rfl, y0, y1, hw⟩
          obtain rfl := hw.symm
          go_wp2_with fail
          refine (implNatOf_any x _ (by omega)).mono ?_
          rintro e w2 ⟨Ae, ge, cape, ne, fe, oke, rfl, hne, hNe, hge, hOe, hbe⟩
          have e_2 := hOe.toSeg
          clear hOe hge
          have X_2 := X_1.of_all hbe
          have Y_2 := Y_1.of_all hbe
          have B_2 := B_1.trans (hbe.mono B_1.size)
          clear X_1 Y_1 B_1 hbe
          rw [ofQ_pos (by omega)] at hNe
          obtain ⟨hCe, hVe, hoke⟩ := hNe
          subst hoke
          have le : ne ≤ 64 := small_len hCe hVe (by omega)
          have Ve := hide (nval_of hVe)
          have Te := hide (threeB_of (unhide Hok) (natOk_of hCe le) (unhide Hok2) (by omega))
          clear hVe
          go_wp2_with fail
          refine (implNatOf_any y _ (by omega)).mono ?_
          rintro e w3 ⟨Af1, gf1, capf1, nf1, ff1, okf1, rfl, hnf1, hNf1, hgf1, hOf1, hbf1⟩
          have f1_3 := hOf1.toSeg
          clear hOf1 hgf1
          have X_3 := X_2.of_all hbf1
          have Y_3 := Y_2.of_all hbf1
          have e_3 := e_2.of_all hbf1
          have B_3 := B_2.trans (hbf1.mono B_2.size)
          clear X_2 Y_2 e_2 B_2 hbf1
          rw [ofQ_pos (by omega)] at hNf1
          obtain ⟨hCf1, hVf1, hokf1⟩ := hNf1
          subst hokf1
          have lf1 : nf1 ≤ 64 := small_len hCf1 hVf1 (by omega)
          have Vf1 := hide (nval_of hVf1)
          have Tf1 := hide (threeB_of (unhide Hok) (natOk_of hCf1 lf1) (unhide Hok2) (by omega))
          clear hVf1
          go_wp2_with fail
          refine (implNatOf_any (x + y) _ (by omega)).mono ?_
          rintro e w4 ⟨Ak, gk, capk, nk, fk, okk, rfl, hnk, hNk, hgk, hOk, hbk⟩
          have k_4 := hOk.toSeg
          clear hOk hgk
          have X_4 := X_3.of_all hbk
          have Y_4 := Y_3.of_all hbk
          have e_4 := e_3.of_all hbk
          have f1_4 := f1_3.of_all hbk
          have B_4 := B_3.trans (hbk.mono B_3.size)
          clear X_3 Y_3 e_3 f1_3 B_3 hbk
          rw [ofQ_pos (by omega)] at hNk
          obtain ⟨hCk, hVk, hokk⟩ := hNk
          subst hokk
          have lk : nk ≤ 64 := small_len hCk hVk (by omega)
          have Vk := hide (nval_of hVk)
          have Tk := hide (threeB_of (unhide Hok) (natOk_of hCk lk) (unhide Hok2) (by omega))
          clear hVk
          go_wp2_with fail
          refine (implModPow_any aX gX 0 mX cX fX Ae ge 0 ne cape fe aY gY 0 mY cY fY _ X_4 e_4 Y_4 (by omega) (by omega) (by omega)).mono ?_
          rintro e w5 ⟨Ap, gp, capp, np, fp, okp, rfl, hnp, hNp, hgp, hOp, hbp⟩
          have p_5 := hOp.toSeg
          clear hOp hgp
          have X_5 := X_4.of_all hbp
          have Y_5 := Y_4.of_all hbp
          have e_5 := e_4.of_all hbp
          have f1_5 := f1_4.of_all hbp
          have k_5 := k_4.of_all hbp
          have B_5 := B_4.trans (hbp.mono B_4.size)
          clear X_4 Y_4 e_4 f1_4 k_4 B_4 hbp
          obtain ⟨hokp, hCp, hVp, hop⟩ := pow_read (unhide Te) hNp
          subst hokp
          have Vp := hide hVp
          have Op := hide hop
          clear hVp hop hNp
          go_wp2_with fail
          refine (implModPow_any aX gX 0 mX cX fX Af1 gf1 0 nf1 capf1 ff1 aY gY 0 mY cY fY _ X_5 f1_5 Y_5 (by omega) (by omega) (by omega)).mono ?_
          rintro e w6 ⟨Aq, gq, capq, nq, fq, okq, rfl, hnq, hNq, hgq, hOq, hbq⟩
          have q_6 := hOq.toSeg
          clear hOq hgq
          have X_6 := X_5.of_all hbq
          have Y_6 := Y_5.of_all hbq
          have e_6 := e_5.of_all hbq
          have f1_6 := f1_5.of_all hbq
          have k_6 := k_5.of_all hbq
          have p_6 := p_5.of_all hbq
          have B_6 := B_5.trans (hbq.mono B_5.size)
          clear X_5 Y_5 e_5 f1_5 k_5 p_5 B_5 hbq
          obtain ⟨hokq, hCq, hVq, hoq⟩ := pow_read (unhide Tf1) hNq
          subst hokq
          have Vq := hide hVq
          have Oq := hide hoq
          clear hVq hoq hNq
          go_wp2_with fail
          refine (implModPow_any aX gX 0 mX cX fX Ak gk 0 nk capk fk aY gY 0 mY cY fY _ X_6 k_6 Y_6 (by omega) (by omega) (by omega)).mono ?_
          rintro e w7 ⟨Ar, gr, capr, nr, fr, okr, rfl, hnr, hNr, hgr, hOr, hbr⟩
          have r_7 := hOr.toSeg
          clear hOr hgr
          have X_7 := X_6.of_all hbr
          have Y_7 := Y_6.of_all hbr
          have e_7 := e_6.of_all hbr
          have f1_7 := f1_6.of_all hbr
          have k_7 := k_6.of_all hbr
          have p_7 := p_6.of_all hbr
          have q_7 := q_6.of_all hbr
          have B_7 := B_6.trans (hbr.mono B_6.size)
          clear X_6 Y_6 e_6 f1_6 k_6 p_6 q_6 B_6 hbr
          obtain ⟨hokr, hCr, hVr, hor⟩ := pow_read (unhide Tk) hNr
          subst hokr
          have Vr := hide hVr
          have Or := hide hor
          clear hVr hor hNr
          have Ts := hide (threeB_of (unhide Op) (unhide Oq) (unhide Hok2) (by omega))
          go_wp2_with fail
          refine (implModMul_any Ap gp 0 np capp fp Aq gq 0 nq capq fq aY gY 0 mY cY fY _ p_7 q_7 Y_7 (by omega) (by omega) (by omega)).mono ?_
          rintro e w8 ⟨As, gs, caps, ns, fs, oks, rfl, hns, hNs, hgs, hOs, hbs⟩
          have s_8 := hOs.toSeg
          clear hOs hgs
          have X_8 := X_7.of_all hbs
          have Y_8 := Y_7.of_all hbs
          have e_8 := e_7.of_all hbs
          have f1_8 := f1_7.of_all hbs
          have k_8 := k_7.of_all hbs
          have p_8 := p_7.of_all hbs
          have q_8 := q_7.of_all hbs
          have r_8 := r_7.of_all hbs
          have B_8 := B_7.trans (hbs.mono B_7.size)
          clear X_7 Y_7 e_7 f1_7 k_7 p_7 q_7 r_7 B_7 hbs
          obtain ⟨hoks, hCs, hVs⟩ := mul_read (unhide Ts) hNs
          subst hoks
          have HRS := hide (show nval fr nr = nval fs ns by rw [hVs, unhide Vp, unhide Vq, unhide Vr, unhide Ve, unhide Vf1, unhide Vk, ← Nat.mul_mod, ← Nat.pow_add]; congr 2; omega)
          clear hVs hNs
          go_wp2_with fail
          refine (sameInts_any Ar gr 0 nr capr fr As gs 0 ns caps fs _ r_8 s_8 (by omega)).mono ?_
          rintro e w9' ⟨rfl, q, rfl⟩
          rw [same_n hCr hCs (unhide HRS)]
          have hbq := below_drewN (Below.refl w8.heap.size w8) q
          have X_9 := X_8.of_all hbq
          have Y_9 := Y_8.of_all hbq
          have e_9 := e_8.of_all hbq
          have f1_9 := f1_8.of_all hbq
          have k_9 := k_8.of_all hbq
          have p_9 := p_8.of_all hbq
          have q_9 := q_8.of_all hbq
          have r_9 := r_8.of_all hbq
          have s_9 := s_8.of_all hbq
          have B_9 := B_8.trans (hbq.mono B_8.size)
          clear X_8 Y_8 e_8 f1_8 k_8 p_8 q_8 r_8 s_8 B_8 hbq
          generalize w8.drewN q = w9 at *
          clear e_9 f1_9 k_9 p_9 q_9 r_9 s_9
          go_wp2_with fail
          refine (implModInv_any aX gX 0 mX cX fX aY gY 0 mY cY fY _ X_9 Y_9 (by omega) (by omega)).mono ?_
          rintro e w10 ⟨Ai, gi, capi, ni, fi, oki, rfl, hni, hNi, hgi, hOi, hbi⟩
          have i_10 := hOi.toSeg
          clear hOi hgi
          have X_10 := X_9.of_all hbi
          have Y_10 := Y_9.of_all hbi
          have B_10 := B_9.trans (hbi.mono B_9.size)
          clear X_9 Y_9 B_9 hbi
          have hI := hide (inv_read cY' (by omega) hNi)
          clear hNi
          rcases unhide hI with ⟨rfl, rfl⟩ | ⟨rfl, hCi, hoi, hvi⟩
          · have To := hide (threeB_of (unhide Hok) (natOk_nil _) (unhide Hok2) (by omega) : threeB mX fX 0 fi mY fY = true)
            go_wp2_with fail
            refine (implModMul_any aX gX 0 mX cX fX Ai gi 0 0 capi fi aY gY 0 mY cY fY _ X_10 i_10 Y_10 (by omega) (by omega) (by omega)).mono ?_
            rintro e w11 ⟨Ao, go, capo, no, fo, oko, rfl, hno, hNo, hgo, hOo, hbo⟩
            have o_11 := hOo.toSeg
            clear hOo hgo
            have X_11 := X_10.of_all hbo
            have Y_11 := Y_10.of_all hbo
            have i_11 := i_10.of_all hbo
            have B_11 := B_10.trans (hbo.mono B_10.size)
            clear X_10 Y_10 i_10 B_10 hbo
            obtain ⟨hoko, hCo, hVo⟩ := mul_read (unhide To) hNo
            subst hoko
            clear hVo hNo X_11 Y_11 i_11 o_11
            go_wp2_with fail
            refine (drawGcd_any a b off n cap f _ (hs.of_all B_11) hB hn).mono ?_
            rintro e w20 ⟨k1, l1, rfl, k0, k9, l0, l9, hbg⟩
            have B_20 := B_11.trans (hbg.mono B_11.size)
            clear B_11 hbg
            go_wp2_with fail
            refine (implGcd_any k1 l1 _ (by omega) (by omega)).mono ?_
            rintro e w21 ⟨rfl, hQ⟩
            have B_21 := B_20.trans (hQ.below _)
            clear hQ B_20
            have hcm := gcdV_comm l1 k1
            have hdd : (gcdV k1 l1 == gcdV k1 l1) = true := by simp
            by_cases hl : l1 < 0
            · generalize gcdV k1 l1 = dd at *
              go_wp2_with fail
              refine (implGcd_any l1 k1 _ (by omega) (by omega)).mono ?_
              rintro e w22 ⟨rfl, hQ⟩
              rw [hcm]
              have B_22 := B_21.trans (hQ.below _)
              clear hQ B_21 hcm
              go_wp2
              go_ret
              exact ⟨rfl, B_22⟩
            · by_cases hz : k1 = 0 ∧ l1 = 0
              · obtain ⟨rfl, rfl⟩ := hz
                have Hg0 := hide (show gcdV 0 0 = 0 by decide)
                rw [unhide Hg0]
                clear hcm hdd
                go_wp2_with fail
                refine (implGcd_any 0 0 _ (by omega) (by omega)).mono ?_
                rintro e w22 ⟨rfl, hQ⟩
                rw [unhide Hg0]
                have B_22 := B_21.trans (hQ.below _)
                clear hQ B_21
                go_wp2
                go_ret
                exact ⟨rfl, B_22⟩
              · obtain ⟨d0, d1, d2⟩ := gcdV_pos (show 0 ≤ k1 by omega) (show 0 ≤ l1 by omega) hz
                generalize gcdV k1 l1 = dd at *
                have hd0 : (dd == 0) = false := by simp; omega
                clear hz
                go_wp2_with fail
                refine (implGcd_any l1 k1 _ (by omega) (by omega)).mono ?_
                rintro e w22 ⟨rfl, hQ⟩
                rw [hcm]
                have B_22 := B_21.trans (hQ.below _)
                clear hQ B_21 hcm
                go_wp2
                go_ret
                exact ⟨rfl, B_22⟩
          · have To := hide (threeB_of (unhide Hok) hoi (unhide Hok2) (by omega) : threeB mX fX ni fi mY fY = true)
            go_wp2_with fail
            refine (implModMul_any aX gX 0 mX cX fX Ai gi 0 ni capi fi aY gY 0 mY cY fY _ X_10 i_10 Y_10 (by omega) (by omega) (by omega)).mono ?_
            rintro e w11 ⟨Ao, go, capo, no, fo, oko, rfl, hno, hNo, hgo, hOo, hbo⟩
            have o_11 := hOo.toSeg
            clear hOo hgo
            have X_11 := X_10.of_all hbo
            have Y_11 := Y_10.of_all hbo
            have i_11 := i_10.of_all hbo
            have B_11 := B_10.trans (hbo.mono B_10.size)
            clear X_10 Y_10 i_10 B_10 hbo
            obtain ⟨hoko, hCo, hVo⟩ := mul_read (unhide To) hNo
            subst hoko
            have HV1 := hide (show nval fo no = nval (fun _ => 1) 1 by rw [hVo, hvi, nval_one])
            clear hVo hNo hvi
            have hbn : Below w11.heap.size w11 (w11.alloc (.cells #[.int .i64 1] 3)) := (Below.refl _ _).alloc (Nat.le_refl _) _
            have one12 := seg_one w11 3
            have o_12 := o_11.of_all hbn
            have B_12 := B_11.trans (hbn.mono B_11.size)
            clear hbn B_11 X_11 Y_11 i_11 o_11
            go_wp2_with fail
            refine (sameInts_any Ao go 0 no capo fo _ w11.heap.size 0 1 1 (fun _ => 1) _ o_12 one12 (by omega)).mono ?_
            rintro e w13 ⟨rfl, q, hw⟩
            have B_13 : Below w.heap.size w w13 := by rw [hw]; exact below_drewN B_12 q
            clear hw B_12
            rw [same_n hCo canon_one.1 (unhide HV1)]
            go_wp2_with fail
            refine (drawGcd_any a b off n cap f _ (hs.of_all B_13) hB hn).mono ?_
            rintro e w20 ⟨k1, l1, rfl, k0, k9, l0, l9, hbg⟩
            have B_20 := B_13.trans (hbg.mono B_13.size)
            clear B_13 hbg
            go_wp2_with fail
            refine (implGcd_any k1 l1 _ (by omega) (by omega)).mono ?_
            rintro e w21 ⟨rfl, hQ⟩
            have B_21 := B_20.trans (hQ.below _)
            clear hQ B_20
            have hcm := gcdV_comm l1 k1
            have hdd : (gcdV k1 l1 == gcdV k1 l1) = true := by simp
            by_cases hl : l1 < 0
            · generalize gcdV k1 l1 = dd at *
              go_wp2_with fail
              refine (implGcd_any l1 k1 _ (by omega) (by omega)).mono ?_
              rintro e w22 ⟨rfl, hQ⟩
              rw [hcm]
              have B_22 := B_21.trans (hQ.below _)
              clear hQ B_21 hcm
              go_wp2
              go_ret
              exact ⟨rfl, B_22⟩
            · by_cases hz : k1 = 0 ∧ l1 = 0
              · obtain ⟨rfl, rfl⟩ := hz
                have Hg0 := hide (show gcdV 0 0 = 0 by decide)
                rw [unhide Hg0]
                clear hcm hdd
                go_wp2_with fail
                refine (implGcd_any 0 0 _ (by omega) (by omega)).mono ?_
                rintro e w22 ⟨rfl, hQ⟩
                rw [unhide Hg0]
                have B_22 := B_21.trans (hQ.below _)
                clear hQ B_21
                go_wp2
                go_ret
                exact ⟨rfl, B_22⟩
              · obtain ⟨d0, d1, d2⟩ := gcdV_pos (show 0 ≤ k1 by omega) (show 0 ≤ l1 by omega) hz
                generalize gcdV k1 l1 = dd at *
                have hd0 : (dd == 0) = false := by simp; omega
                clear hz
                go_wp2_with fail
                refine (implGcd_any l1 k1 _ (by omega) (by omega)).mono ?_
                rintro e w22 ⟨rfl, hQ⟩
                rw [hcm]
                have B_22 := B_21.trans (hQ.below _)
                clear hQ B_21 hcm
                go_wp2
                go_ret
                exact ⟨rfl, B_22⟩

theorem walk (a0 : Option Addr) (len0 cap0 : Nat) (z0 : List Int) (w : World) (w0 : IsRow .u8 w a0 len0 cap0 z0) :
    Calls Try.prog 5 #[.slice a0 len0 cap0] w fun e w' => e = .returned (.bool true) ∧ Below w.heap.size w w' := by
  obtain ⟨b, off, hs, hB⟩ := w0.seg
  by_cases hn : len0 ≤ 1048576
  · exact law a0 b off len0 cap0 _ w hs hB hn
  · exact law_bad a0 b off len0 cap0 _ w hs hB hn

/-! ### THE ROW's STEP: WRITTEN OUT: LEAVE IT -/
set_option maxRecDepth 100000 in
theorem lifted (os : Os) (started : os.Started) (H : Type) (enc : TypeId × Value → H) :
    ReturnsInHanded {} Try.checked os 5 .any (Rows.fnPowersSpec.pre6 enc Try.prog Try.f5 Rows.fnPowersRow.domain false) (Rows.fnPowersSpec.post enc Try.prog Try.f5 false true false false) := by
  refine returnsInHanded_of_change (C := Try.checked) own started (by kernel_rfl) Try.func5
    (ChangeSpec.witness6 (enc := enc) (C := Try.checked) false ⟨#[], #[.slice none 0 0], []⟩ 8 (by kernel_rfl) (by kernel_rfl) (by kernel_rfl) (by kernel_rfl)) ?_
  intro W base args ds gs before hval0 hW hcnd _
  have hval : ∀ (j : Nat) t v, Try.f5.params[j]? = some t → args[j]? = some v → Value.okWide Try.prog W .any base t v := hval0
  have hW' := hW
  obtain ⟨p, q, hA0, hV, rfl, hfz, hnd⟩ := hW
  have hA : DataW.TrodAll enc Try.prog W 0 (fun _ => true) true Try.f5.params.toList args.toList ds p := hA0
  rw [Try.params5] at hA hval
  obtain ⟨v0, vs0, d0, ds0, p0, q0, hargs, rfl, rfl, h0, r0⟩ := trodAll_cons hA
  obtain ⟨rfl, rfl, rfl⟩ := trodAll_nil r0
  obtain rfl : args = #[v0] := by cases args; simp_all
  obtain ⟨rfl, rfl⟩ := trodVars_none hV
  obtain ⟨a0, len0, cap0, rfl⟩ := okWide_slice Try.underlying22 (hval 0 22 v0 rfl rfl)
  have k0 := h0
  have lt0 : ∀ x ∈ p0, x.block < W.heap.size := by obtain ⟨m, hm⟩ := k0; exact DataW.trod_lt m _ _ _ hm
  obtain ⟨z0, w0⟩ : ∃ zs, IsRow .u8 W a0 len0 cap0 zs := by
    obtain ⟨fuel, hf⟩ := h0
    rcases open_ints Try.underlying22 Try.underlying5 (by kernel_rfl) hf with ⟨hcs, _⟩ | ⟨x, l, c, zs, hcs, _, hl, hm, hz, _, hcell, hwz⟩
    · simp [Value.cells] at hcs
      obtain ⟨rfl, rfl, rfl⟩ := hcs
      exact ⟨[], .inl ⟨rfl, rfl, rfl, rfl⟩⟩
    · simp [Value.cells] at hcs
      obtain ⟨rfl, rfl, rfl⟩ := hcs
      exact ⟨zs, .inr ⟨_, rfl, hl, hm, by simpa using hz, hcell, hwz⟩⟩
  clear hA0 hval0
  refine (walk a0 len0 cap0 z0 W w0).mono fun e W' ⟨he, bel⟩ => ?_
  subst he
  exact ⟨_, rfl, _, _, _, [], _, [], hW', trodAll_mk1 (shut_bool Try.underlying4 _), (trodAll_cons_mk (Below.trod laidOut (by kernel_rfl) (of_decide_eq_true (by kernel_rfl)) k0 bel lt0) trodAll_mk0), rfl, bel.frame _, fun h => by cases h⟩

theorem over : Rows.fnPowersRow.holds Try.pinned (OpenSpec.ofChange Rows.fnPowersSpec) :=
  OpenClaim.holds_of_wide 5 Try.f5 rfl rfl rfl rfl rfl rfl rfl ⟨rfl, rfl, rfl, rfl, rfl⟩ rfl rfl rfl rfl rfl (by kernel_rfl) Try.func5 (by kernel_rfl)
    (of_decide_eq_true (by kernel_rfl)) (by unfold Func.isWrapper; first | (rw [if_pos (by decide +kernel)]; kernel_rfl) | (rw [if_neg (by decide +kernel)]; exact ⟨rfl, rfl⟩))
    (fun os started H enc _ => lifted os started H enc)

/-- ████ THE STATEMENT ████ -/
theorem proved : Rows.FnPowersSaid := over
end Go.Proofs.Ytmkmojcefgcmlaa.fnPowers

namespace Go.Proofs.Ytmkmojcefgcmlaa
/-- The given statement. -/
theorem fnPowers_holds : Rows.FnPowersSaid := fnPowers.proved
#print axioms fnPowers_holds
end Go.Proofs.Ytmkmojcefgcmlaa
