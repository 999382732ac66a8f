/- Proved: at every list of bytes handed to it the law FnSmallMod answers true and leaves its argument as it was: small powers and inverses of numbers are those of naturals, an inverse that is told times what it is of leaves 1, and a root that is told squared is what it was and at most the half (beyond 1048576 bytes the law itself answers true at once); a tied card: the two tables of math/bits lie as the program's text lays them. No other condition. -/
import Derived.Test.YtmkmojcefgcmlaaDoorRows
import Derived.WalkKit
import Derived.ProofKit
import Derived.OpenShut
import Derived.ShutString
import Derived.ChangeOld
import Derived.Below
import Derived.Test.YtmkmojcefgcmlaaDoorCards
import Derived.Test.YtmkmojcefgcmlaaDoorTie
import Derived.Test.YtmkmojcefgcmlaaDoorDrawRoot
import Derived.Test.YtmkmojcefgcmlaaDoorNatOf2
import Derived.Test.YtmkmojcefgcmlaaDoorNatInt2
import Derived.Test.YtmkmojcefgcmlaaDoorPowInt
import Derived.Test.YtmkmojcefgcmlaaDoorInvInt
import Derived.Test.YtmkmojcefgcmlaaDoorModPow
import Derived.Test.YtmkmojcefgcmlaaDoorModInv2
import Derived.Test.YtmkmojcefgcmlaaDoorRoot2
import Derived.LaidMore
import Derived.Stop.Joined
import Derived.SevenTiedAt
namespace Go.Proofs.YtmkmojcefgcmlaaDoor.fnSmallMod
open Go.ChangeShapes Go.WideShapes Go.ChangeAt Go.RowKit
open Go.ChangeMaps (open_string shut_string)
set_option linter.unusedVariables false

theorem own : ownKnob Tryd.prog.godebug = none := by kernel_rfl
theorem laidOut : laidOutB Tryd.prog = true := by kernel_rfl

/-- WHAT THE WALK IS TOLD OF A SLICE OF INTEGERS THAT CAME IN: it is nil; or it leads to a row of 'cap' cells, the numbers 'zs' (the first 'len' are its elements, the rest its spare room), each fitting its kind. -/
def IsRow (k : IntKind) (w : World) (a : Option Addr) (len cap : Nat) (zs : List Int) : Prop :=
  (a = none ∧ len = 0 ∧ cap = 0 ∧ zs = []) ∨
  ∃ x, a = some x ∧ len ≤ cap ∧ cap ≤ maxLen ∧ zs.length = cap ∧ (∀ i, i < zs.length → w.cell? (x.add i) = some (.int k (zs.getD i 0))) ∧ ∀ n ∈ zs, (Lit.int k n).wf = true

theorem IsRow.seg {w : World} {a : Option Addr} {len cap : Nat} {zs : List Int} (h : IsRow .u8 w a len cap zs) : ∃ b off, BSeg w a b off len (fun i => zs.getD i 0) ∧ (∀ i, i < len → 0 ≤ zs.getD i 0 ∧ zs.getD i 0 ≤ 255) := by
  rcases h with ⟨rfl, rfl, rfl, rfl⟩ | ⟨x, rfl, hl, hm, hz, hcell, hwz⟩
  · exact ⟨0, 0, ⟨fun h => absurd h (Nat.lt_irrefl _), fun i hi => absurd hi (Nat.not_lt_zero _)⟩, fun i hi => absurd hi (Nat.not_lt_zero _)⟩
  · obtain ⟨b, off, spot⟩ := x
    by_cases h0 : len = 0
    · subst h0
      exact ⟨0, 0, ⟨fun h => absurd h (Nat.lt_irrefl _), fun i hi => absurd hi (Nat.not_lt_zero _)⟩, fun i hi => absurd hi (Nat.not_lt_zero _)⟩
    · have hspot : spot = none := by simpa [Addr.add] using World.cell?_spot (hcell 0 (by omega))
      subst hspot
      exact ⟨b, off, ⟨fun _ => rfl, fun i hi => by
        have h := hcell i (by omega)
        have e : Addr.add ⟨b, off, none⟩ i = ⟨b, off + i, none⟩ := by
          by_cases h0 : i = 0
          · subst h0; simp [Addr.add]
          · simp [Addr.add, h0]
        rwa [e] at h⟩, fun i hi => by
        have hm : zs.getD i 0 ∈ zs := by
          rw [List.getD_eq_getElem?_getD, List.getElem?_eq_getElem (show i < zs.length by omega)]
          exact List.getElem_mem _
        have := bounds_u8 (hwz _ hm)
        show 0 ≤ zs.getD i 0 ∧ zs.getD i 0 ≤ 255
        omega⟩



theorem hide {p : Prop} (h : p) : Hid p := h
theorem unhide {p : Prop} (h : Hid p) : p := h

theorem big_any (a : Option Addr) (n cap : Nat) (w : World) (hn : n ≤ 1048576) : Calls Tryd.prog 4 #[.slice a n cap] w fun e w' => e = .returned (.bool false) ∧ w' = w := by
  have h : ¬ (1048576 : Int) < (n : Int) := by omega
  go_enter Tryd.func4, Tryd.ntmps4
  go_wp2
  go_ret
  exact ⟨rfl, rfl⟩

theorem big_long (a : Option Addr) (n cap : Nat) (w : World) (hn : ¬ n ≤ 1048576) : Calls Tryd.prog 4 #[.slice a n cap] w fun e w' => e = .returned (.bool true) ∧ w' = w := by
  have h : (1048576 : Int) < (n : Int) := by omega
  go_enter Tryd.func4, Tryd.ntmps4
  go_wp2
  go_ret
  exact ⟨rfl, rfl⟩

theorem natOk_of {n : Nat} {f : Nat → Int} (h : Canon n f) (hn : n ≤ 64) : natOk n f = true := (natOk_iff n f).2 ⟨h.digs, hn, h.last⟩

theorem canon_of {n : Nat} {f : Nat → Int} (h : natOk n f = true) : Canon n f := ⟨((natOk_iff n f).1 h).1, ((natOk_iff n f).1 h).2.2⟩

/-- Two canonical lists of one value are alike. -/
theorem same_of {n m : Nat} {f g : Nat → Int} (hf : Canon n f) (hg : Canon m g) (h : val f n = val g m) : (n == m && alike f g n) = true := by
  obtain ⟨rfl, e⟩ := canon_unique hf hg h
  simp [(alike_iff f g n).2 e]

theorem ofQ_pos {x : Int} (h : 0 ≤ x) : ofQ x = some x := by simp [ofQ]; omega

/-- Three naturals, the last not 0. -/
theorem threeB_of {n : Nat} {f : Nat → Int} {n2 : Nat} {g : Nat → Int} {n3 : Nat} {h : Nat → Int} (h1 : natOk n f = true) (h2 : natOk n2 g = true) (h3 : natOk n3 h = true) (h0 : 0 < n3) : threeB n f n2 g n3 h = true := by
  have : (n3 == 0) = false := by simp; omega
  simp [threeB, h1, h2, h3, this]

theorem pow_of {n : Nat} {f : Nat → Int} {n2 : Nat} {g : Nat → Int} {n3 : Nat} {h : Nat → Int} (k : threeB n f n2 g n3 h = true) : modPowQ n f n2 g n3 h = some ((nval f n ^ nval g n2 % nval h n3 : Nat) : Int) := by simp [modPowQ, k]

theorem pow_read {n : Nat} {f : Nat → Int} {n2 : Nat} {g : Nat → Int} {n3 : Nat} {h : Nat → Int} {m : Nat} {p : Nat → Int} {ok : Bool} (k : threeB n f n2 g n3 h = true) (hN : IsNat (modPowQ n f n2 g n3 h) m p ok) :
    ok = true ∧ Canon m p ∧ nval p m = nval f n ^ nval g n2 % nval h n3 ∧ natOk m p = true := by
  rw [pow_of k] at hN
  obtain ⟨hc, hv, ho⟩ := hN
  obtain ⟨c1, l1, c2, l2, c3, l3, h0, _, _, _⟩ := threeB_iff k
  have e : nval p m = nval f n ^ nval g n2 % nval h n3 := by rw [nval_eq hc.digs] at hv; omega
  have l : m ≤ n3 := nval_short hc c3 (by rw [e]; exact Nat.le_of_lt (Nat.mod_lt _ (nval_pos c3 h0)))
  exact ⟨ho, hc, e, natOk_of hc (by omega)⟩

theorem nval_of {n : Nat} {f : Nat → Int} {x : Int} (h : val f n = x) : nval f n = x.toNat := by unfold nval; rw [h]

theorem small_len {n : Nat} {f : Nat → Int} {x : Int} (hc : Canon n f) (h : val f n = x) (hx : x ≤ 100000) : n ≤ 64 := by
  have e : pw 3 = 281474976710656 := by simp [pw]
  exact Nat.le_trans ((canon_len hc 3).2 (by rw [h]; omega)) (by omega)

theorem Tab.below {w w' : World} (h : Tab w) (hb : Below w.heap.size w w') : Tab w' := fun j hj =>
  (hb.cell (p := ⟨1, j, none⟩) (World.block_lt_of_cell? _ _ (h j hj))).trans (h j hj)

theorem byte_mul {x y : Int} (x0 : 0 ≤ x) (x1 : x ≤ 255) (y0 : 0 ≤ y) (y1 : y ≤ 255) : 0 ≤ x * y ∧ x * y ≤ 65025 := by
  have a := Int.mul_le_mul_of_nonneg_right x1 y0
  exact ⟨Int.mul_nonneg x0 y0, by omega⟩

theorem powV_eq {a e m : Int} (ha : 0 ≤ a) (he : 0 ≤ e) (hm : 1 ≤ m) (hm2 : m ≤ 1073741824) : powV a e m = ((a.toNat ^ e.toNat % m.toNat : Nat) : Int) ∧ powB a e m = true := by
  have h : ¬ (a < 0 ∨ e < 0 ∨ m < 1 ∨ 1073741824 < m) := by omega
  exact ⟨by rw [powV, if_neg h], by rw [powB, decide_eq_false h]; rfl⟩

theorem small_of {n : Nat} {f : Nat → Int} (hc : Canon n f) (h : val f n < 281474976710656) : smallB n f = true := by
  have e : pw 3 = 281474976710656 := by simp [pw]
  have := (canon_len hc 3).2 (by omega)
  simp [smallB]
  omega

theorem int_read {n : Nat} {f : Nat → Int} (hok : natOk n f = true) (h : nval f n ≤ 1000000) : intV n f = (nval f n : Int) := by
  have hc := canon_of hok
  have e := nval_eq hc.digs
  have hs := small_of hc (by omega)
  simp [intV, hok, hs, e]

/-- The two inverses agree. -/
theorem inv_agree {n : Nat} {f : Nat → Int} {n3 : Nat} {h : Nat → Int} {m : Nat} {p : Nat → Int} {ok has : Bool} {i a mm : Int} (h1 : natOk n f = true) (h3 : natOk n3 h = true) (ha : 0 ≤ a) (hm : 2 ≤ mm)
    (va : nval f n = a.toNat) (vm : nval h n3 = mm.toNat) (hA : IsInv mm.toNat (invR a mm) i has) (hN : IsNat (modInvQ n f n3 h) m p ok) :
    ok = has ∧ (has = true → natOk m p = true ∧ (nval p m : Int) = i ∧ i < mm ∧ 0 ≤ i) := by
  have c3 := canon_of h3
  have hn3 : n3 ≠ 0 := by
    rintro rfl
    have : nval h 0 = 0 := rfl
    omega
  have e1 : twoB n f n3 h = true := by simp [twoB, h1, h3, hn3]
  have e2 : nval h n3 ≠ 1 := by omega
  have e3 : modInvQ n f n3 h = invQ (nval h n3) (nval f n % nval h n3) := by simp [modInvQ, e1, e2]
  have e4 : nval f n % nval h n3 = invR a mm := by
    have := (invR_lt (a := a) hm).2
    rw [va, vm]
    have e5 : ((a.toNat % mm.toNat : Nat) : Int) = a % mm := by
      rw [Int.natCast_emod]; congr 1 <;> omega
    omega
  rw [e3, e4, vm] at hN
  cases has with
  | true =>
    obtain ⟨i0, i1, i2⟩ := hA.yes rfl
    have e6 : i.toNat * invR a mm % mm.toNat = 1 := by
      have : (i.toNat : Int) = i := by omega
      rw [← this, ← Int.natCast_mul, ← Int.natCast_emod] at i2
      omega
    rw [invQ_yes (show i.toNat < mm.toNat by omega) e6] at hN
    obtain ⟨hc, hv, ho⟩ := hN
    refine ⟨ho, fun _ => ?_⟩
    have e7 : nval p m = i.toNat := by unfold nval; rw [hv]; omega
    have l : m ≤ n3 := nval_short hc c3 (by rw [e7, vm]; omega)
    have l3 := ((natOk_iff n3 h).1 h3).2.1
    exact ⟨natOk_of hc (by omega), by omega, by omega, i0⟩
  | false =>
    have hg : Nat.gcd mm.toNat (invR a mm) ≠ 1 := by
      have := hA.dec
      intro h
      rw [decide_eq_true h] at this
      cases this
    rw [invQ_no (show 2 ≤ mm.toNat by omega) hg] at hN
    exact ⟨hN.2, fun h => by cases h⟩

theorem inv_one {a m i : Int} (ha : 0 ≤ a) (hm : 2 ≤ m) (hA : IsInv m.toNat (invR a m) i true) : a % m * i % m = 1 := by
  obtain ⟨i0, i1, i2⟩ := hA.yes rfl
  have e := (invR_lt (a := a) hm).2
  have em : (m.toNat : Int) = m := by omega
  rw [em] at i2
  rw [e, Int.mul_comm]
  exact i2

/-- A root that is told is at most the half. -/
theorem root_half {a p v : Int} (h : RootAns a p v true) : 3 ≤ p ∧ p ≤ 1048576 ∧ Prime p.toNat ∧ 0 ≤ v ∧ v * v % p = a ∧ v ≤ p / 2 := by
  obtain ⟨⟨r1, r2, r3, r4, r5⟩, v0, v1, v2⟩ := h.1 rfl
  refine ⟨r1, r2, r3, v0, v1, ?_⟩
  obtain ⟨P, rfl⟩ := Int.eq_ofNat_of_zero_le (show 0 ≤ p by omega)
  obtain ⟨A, rfl⟩ := Int.eq_ofNat_of_zero_le r4
  obtain ⟨V, rfl⟩ := Int.eq_ofNat_of_zero_le v0
  rcases Int.lt_or_le ((P : Int) / 2) (V : Int) with hlt | hle
  · exfalso
    have hno : ∀ y, y ≤ P / 2 → y * y % P ≠ A := fun y hy hyy => v2 (y : Int) (by omega) (by omega) (by rw [cast_mulmod, hyy])
    have := half_enough (show 0 < P by omega) hno V
    rw [cast_mulmod] at v1
    exact this (by omega)
  · exact hle

theorem prime_of_test {n : Nat} (h2 : 2 ≤ n) (h : ∀ d, d < 40 → 2 ≤ d → ¬ n % d = 0) (hn : n < 1600) : Prime n := by
  refine ⟨h2, fun d hd hdd hdv => ?_⟩
  have : d < 40 := by
    rcases Nat.lt_or_ge d 40 with h | h
    · exact h
    · have := Nat.mul_le_mul h h; omega
  exact h d this hd (Nat.mod_eq_zero_of_dvd hdv)

theorem prime_103 : Prime 103 := prime_of_test (by omega) (by decide) (by omega)
theorem prime_1019 : Prime 1019 := prime_of_test (by omega) (by decide) (by omega)
theorem not_prime_7147 : ¬ Prime 7147 := fun h => h.2 7 (by omega) (by omega) ⟨1021, rfl⟩

theorem root_is {c v : Int} {ok : Bool} (h0 : 0 ≤ c) (h1 : c ≤ 102) (h : RootAns (c * c % 103) 103 v ok) : ok = true := by
  cases ok with
  | true => rfl
  | false =>
    refine absurd ⟨⟨by omega, by omega, prime_103, by omega, by omega⟩, c, h0, rfl⟩ (h.2 rfl).2

set_option maxHeartbeats 8000000 in
set_option maxRecDepth 100000 in
theorem law_bad (a : Option Addr) (b off n cap : Nat) (f : Nat → Int) (w : World) (hT : Tab w) (hs : BSeg w a b off n f) (hB : ∀ i, i < n → 0 ≤ f i ∧ f i ≤ 255) (hn : ¬ n ≤ 1048576) :
    Calls Tryd.prog 3 #[.slice a n cap] w fun e w' => e = .returned (.bool true) ∧ Below w.heap.size w w' := by
  go_enter Tryd.func3, Tryd.ntmps3
  go_wp2_with fail
  refine (big_long a n cap _ hn).mono ?_
  rintro e w' ⟨rfl, hw⟩
  obtain rfl := hw.symm
  go_wp2
  go_ret
  exact ⟨rfl, Below.refl _ _⟩

set_option maxHeartbeats 8000000 in
set_option maxRecDepth 100000 in
theorem law (a : Option Addr) (b off n cap : Nat) (f : Nat → Int) (w : World) (hT : Tab w) (hs : BSeg w a b off n f) (hB : ∀ i, i < n → 0 ≤ f i ∧ f i ≤ 255) (hn : n ≤ 1048576) :
    Calls Tryd.prog 3 #[.slice a n cap] w fun e w' => e = .returned (.bool true) ∧ Below w.heap.size w w' := by
  have B_0 := Below.refl w.heap.size w
  go_enter Tryd.func3, Tryd.ntmps3
  go_wp2_with fail
  refine (big_any a n cap _ hn).mono ?_
  rintro e w' ⟨rfl, hw⟩
  obtain rfl := hw.symm
  go_wp2_with fail
  refine (at_any a b off n cap f 0 _ (hs.of_all B_0) hB hn (by omega)).mono ?_
  rintro e w' ⟨u, rfl, u0, u1, hw⟩
  obtain rfl := hw.symm
  go_wp2_with fail
  refine (at_any a b off n cap f 1 _ (hs.of_all B_0) hB hn (by omega)).mono ?_
  rintro e w' ⟨v, rfl, v0, v1, hw⟩
  obtain rfl := hw.symm
  obtain ⟨P0, P1⟩ := byte_mul u0 u1 v0 v1
  generalize hPP : u * v = P at *
  go_wp2_with fail
  refine (at_any a b off n cap f 2 _ (hs.of_all B_0) hB hn (by omega)).mono ?_
  rintro e w' ⟨s, rfl, s0, s1, hw⟩
  obtain rfl := hw.symm
  go_wp2_with fail
  refine (at_any a b off n cap f 3 _ (hs.of_all B_0) hB hn (by omega)).mono ?_
  rintro e w' ⟨t, rfl, t0, t1, hw⟩
  obtain rfl := hw.symm
  obtain ⟨Q0, Q1⟩ := byte_mul s0 s1 t0 t1
  generalize hQQ : s * t = Q at *
  obtain ⟨M, hM⟩ : ∃ M, M = 2 + Q := ⟨_, rfl⟩
  have M0 : 2 ≤ M := by omega
  have M1 : M ≤ 65027 := by omega
  have hM2 := hM.symm
  clear hM
  go_wp2_with fail
  refine (at_any a b off n cap f 4 _ (hs.of_all B_0) hB hn (by omega)).mono ?_
  rintro e w' ⟨ee, rfl, ee0, ee1, hw⟩
  obtain rfl := hw.symm
  obtain ⟨HPV, HPB⟩ := powV_eq (a := P) (e := ee) (m := M) (by omega) (by omega) (by omega) (by omega)
  have HPV' := hide HPV
  go_wp2_with fail
  refine (implPowInt_any P ee M _ (by omega) (by omega) (by omega)).mono ?_
  rintro e w' ⟨rfl, hw⟩
  obtain rfl := hw.symm
  rw [HPB]
  obtain ⟨xv, hxv⟩ : ∃ xv, xv = powV P ee M := ⟨_, rfl⟩
  rw [← hxv]
  have HX := hide (hxv.trans HPV)
  clear HPV HPB HPV' hxv hM2 hPP hQQ
  go_wp2_with fail
  refine (implNatOf_any P _ (by omega)).mono ?_
  rintro e w1 ⟨Aan, gan, capan, nan, fan, okan, rfl, hnan, hNan, hgan, hOan, hban⟩
  have an_1 := hOan.toSeg
  clear hOan hgan
  have B_1 := B_0.trans (hban.mono B_0.size)
  clear  B_0 hban
  rw [ofQ_pos (by omega)] at hNan
  obtain ⟨hCan, hVan, hokan⟩ := hNan
  subst hokan
  have lan : nan ≤ 64 := small_len hCan hVan (by omega)
  have Van := hide (nval_of hVan)
  have Kan := hide (natOk_of hCan lan)
  clear hVan
  go_wp2_with fail
  refine (implNatOf_any ee _ (by omega)).mono ?_
  rintro e w2 ⟨Aen, gen, capen, nen, fen, oken, rfl, hnen, hNen, hgen, hOen, hben⟩
  have en_2 := hOen.toSeg
  clear hOen hgen
  have an_2 := an_1.of_all hben
  have B_2 := B_1.trans (hben.mono B_1.size)
  clear an_1 B_1 hben
  rw [ofQ_pos (by omega)] at hNen
  obtain ⟨hCen, hVen, hoken⟩ := hNen
  subst hoken
  have len : nen ≤ 64 := small_len hCen hVen (by omega)
  have Ven := hide (nval_of hVen)
  have Ken := hide (natOk_of hCen len)
  clear hVen
  go_wp2_with fail
  refine (implNatOf_any M _ (by omega)).mono ?_
  rintro e w3 ⟨Amn, gmn, capmn, nmn, fmn, okmn, rfl, hnmn, hNmn, hgmn, hOmn, hbmn⟩
  have mn_3 := hOmn.toSeg
  clear hOmn hgmn
  have an_3 := an_2.of_all hbmn
  have en_3 := en_2.of_all hbmn
  have B_3 := B_2.trans (hbmn.mono B_2.size)
  clear an_2 en_2 B_2 hbmn
  rw [ofQ_pos (by omega)] at hNmn
  obtain ⟨hCmn, hVmn, hokmn⟩ := hNmn
  subst hokmn
  have lmn : nmn ≤ 64 := small_len hCmn hVmn (by omega)
  have Vmn := hide (nval_of hVmn)
  have Kmn := hide (natOk_of hCmn lmn)
  clear hVmn
  have hn0 : 0 < nmn := by
    rcases Nat.eq_zero_or_pos nmn with h | h
    · have h2 := unhide Vmn
      rw [h] at h2
      have : nval fmn 0 = 0 := rfl
      omega
    · exact h
  have T3 := hide (threeB_of (unhide Kan) (unhide Ken) (unhide Kmn) hn0)
  go_wp2_with fail
  refine (implModPow_any Aan gan 0 nan capan fan Aen gen 0 nen capen fen Amn gmn 0 nmn capmn fmn _ an_3 en_3 mn_3 (by omega) (by omega) (by omega)).mono ?_
  rintro e w4 ⟨Ap, gp, capp, np, fp, okp, rfl, hnp, hNp, hgp, hOp, hbp⟩
  have p_4 := hOp.toSeg
  clear hOp hgp
  have an_4 := an_3.of_all hbp
  have en_4 := en_3.of_all hbp
  have mn_4 := mn_3.of_all hbp
  have B_4 := B_3.trans (hbp.mono B_3.size)
  clear an_3 en_3 mn_3 B_3 hbp
  obtain ⟨hokp, hCp, hVp, hop⟩ := pow_read (unhide T3) hNp
  subst hokp
  have hpl : nval fp np < M.toNat := by rw [hVp, unhide Vmn]; exact Nat.mod_lt _ (by omega)
  have hiv : intV np fp = xv := by rw [int_read hop (by omega), hVp, unhide Van, unhide Ven, unhide Vmn, unhide HX]
  clear hVp hop hNp hCp T3 hpl
  go_wp2_with fail
  refine (implNatInt_any Ap gp 0 np capp fp _ p_4 (by omega)).mono ?_
  rintro e w' ⟨rfl, hw⟩
  obtain rfl := hw.symm
  rw [hiv]
  clear hiv
  generalize intB np fp = ib
  go_wp2_with fail
  refine (implInvInt_any P M _ (by omega) (by omega)).mono ?_
  rintro e w' ⟨⟨i, has, rfl, hA⟩, hw⟩
  obtain rfl := hw.symm
  have HI := hide (hA.2 (by omega) (by omega))
  clear hA
  go_wp2_with fail
  refine (implModInv_any Aan gan 0 nan capan fan Amn gmn 0 nmn capmn fmn _ an_4 mn_4 (by omega) (by omega)).mono ?_
  rintro e w5 ⟨Aj, gj, capj, nj, fj, okj, rfl, hnj, hNj, hgj, hOj, hbj⟩
  have j_5 := hOj.toSeg
  clear hOj hgj
  have an_5 := an_4.of_all hbj
  have en_5 := en_4.of_all hbj
  have mn_5 := mn_4.of_all hbj
  have p_5 := p_4.of_all hbj
  have B_5 := B_4.trans (hbj.mono B_4.size)
  clear an_4 en_4 mn_4 p_4 B_4 hbj
  obtain ⟨hoj, hjj⟩ := inv_agree (unhide Kan) (unhide Kmn) (show 0 ≤ P by omega) (by omega) (unhide Van) (unhide Vmn) (unhide HI) hNj
  subst hoj
  clear hNj Kan Ken Kmn Van Ven Vmn
  have hxx : (xv != xv) = false := by simp
  cases okj with
  | false =>
    clear hjj HI
    go_wp2_with fail
    refine (implNatInt_any Aj gj 0 nj capj fj _ j_5 (by omega)).mono ?_
    rintro e w' ⟨rfl, hw⟩
    obtain rfl := hw.symm
    generalize intV nj fj = kv
    generalize intB nj fj = kb
    clear an_5 en_5 mn_5 p_5 j_5
    go_wp2_with fail
    refine (drawRootInt_any a b off n cap f _ (hs.of_all B_5) hB hn).mono ?_
    rintro e w20 ⟨bb, pp, rfl, b0, b9, p0, p9, hbg⟩
    have B_20 := B_5.trans (hbg.mono B_5.size)
    have hT20 := Tab.below hT B_20
    clear B_5 hbg hT
    go_wp2_with fail
    refine (implRootInt_any bb pp _ hT20 (by omega) (by omega)).mono ?_
    rintro e w' ⟨⟨r, root, rfl, hR⟩, hw⟩
    obtain rfl := hw.symm
    cases root with
    | false =>
      clear hR
      go_wp2_with fail
      refine (at_any a b off n cap f 5 _ (hs.of_all B_20) hB hn (by omega)).mono ?_
      rintro e w' ⟨c5, rfl, c0, c9, hw⟩
      obtain rfl := hw.symm
      obtain ⟨cc, hcc⟩ : ∃ cc, cc = c5 % 103 := ⟨_, rfl⟩
      have cc0 : 0 ≤ cc := by omega
      have cc1 : cc ≤ 102 := by omega
      have hcc' := hcc.symm
      have q1 : cc * cc ≤ 10404 := by have := Int.mul_le_mul_of_nonneg_right cc1 cc0; omega
      have q0 : 0 ≤ cc * cc := Int.mul_nonneg cc0 cc0
      clear hcc
      go_wp2_with fail
      refine (implRootInt_any (cc * cc % 103) 103 _ hT20 (by omega) (by omega)).mono ?_
      rintro e w' ⟨⟨r2, sq, rfl, hR2⟩, hw⟩
      obtain rfl := hw.symm
      obtain rfl := root_is cc0 cc1 hR2
      clear hR2
      go_wp2_with fail
      refine (implPrimeInt_any 1019 _ (by omega)).mono ?_
      rintro e w' ⟨⟨o1, rfl, ho1⟩, hw⟩
      obtain rfl := hw.symm
      obtain rfl : o1 = true := ho1.2 ⟨by omega, by omega, prime_1019⟩
      clear ho1
      go_wp2_with fail
      refine (implPrimeInt_any 7147 _ (by omega)).mono ?_
      rintro e w' ⟨⟨o2, rfl, ho2⟩, hw⟩
      obtain rfl := hw.symm
      obtain rfl : o2 = false := by
        cases o2 with
        | false => rfl
        | true => exact absurd (ho2.1 rfl).2.2 not_prime_7147
      clear ho2
      go_wp2
      go_ret
      exact ⟨rfl, B_20⟩
    | true =>
      obtain ⟨z1, z2, z3, z4, z5, z6⟩ := root_half hR
      clear hR
      have z7 : r ≤ 524288 := by omega
      have z8 : r * r ≤ 274877906944 := by have := Int.mul_le_mul z7 z7 z4 (by omega); omega
      have z9 : 0 ≤ r * r := Int.mul_nonneg z4 z4
      have Hz3 := hide z3
      have hbq : (bb != bb) = false := by simp
      have hgt : ¬ pp / 2 < r := by omega
      clear z3 z6
      go_wp2_with fail
      refine (implPrimeInt_any pp _ (by omega)).mono ?_
      rintro e w' ⟨⟨o3, rfl, ho3⟩, hw⟩
      obtain rfl := hw.symm
      obtain rfl : o3 = true := ho3.2 ⟨by omega, by omega, unhide Hz3⟩
      clear ho3 hbq
      go_wp2_with fail
      refine (at_any a b off n cap f 5 _ (hs.of_all B_20) hB hn (by omega)).mono ?_
      rintro e w' ⟨c5, rfl, c0, c9, hw⟩
      obtain rfl := hw.symm
      obtain ⟨cc, hcc⟩ : ∃ cc, cc = c5 % 103 := ⟨_, rfl⟩
      have cc0 : 0 ≤ cc := by omega
      have cc1 : cc ≤ 102 := by omega
      have hcc' := hcc.symm
      have q1 : cc * cc ≤ 10404 := by have := Int.mul_le_mul_of_nonneg_right cc1 cc0; omega
      have q0 : 0 ≤ cc * cc := Int.mul_nonneg cc0 cc0
      clear hcc
      go_wp2_with fail
      refine (implRootInt_any (cc * cc % 103) 103 _ hT20 (by omega) (by omega)).mono ?_
      rintro e w' ⟨⟨r2, sq, rfl, hR2⟩, hw⟩
      obtain rfl := hw.symm
      obtain rfl := root_is cc0 cc1 hR2
      clear hR2
      go_wp2_with fail
      refine (implPrimeInt_any 1019 _ (by omega)).mono ?_
      rintro e w' ⟨⟨o1, rfl, ho1⟩, hw⟩
      obtain rfl := hw.symm
      obtain rfl : o1 = true := ho1.2 ⟨by omega, by omega, prime_1019⟩
      clear ho1
      go_wp2_with fail
      refine (implPrimeInt_any 7147 _ (by omega)).mono ?_
      rintro e w' ⟨⟨o2, rfl, ho2⟩, hw⟩
      obtain rfl := hw.symm
      obtain rfl : o2 = false := by
        cases o2 with
        | false => rfl
        | true => exact absurd (ho2.1 rfl).2.2 not_prime_7147
      clear ho2
      go_wp2
      go_ret
      exact ⟨rfl, B_20⟩
  | true =>
    obtain ⟨j1, j2, j3, j4⟩ := hjj rfl
    have hone := inv_one (show 0 ≤ P by omega) (show 2 ≤ M by omega) (unhide HI)
    have hkv : intV nj fj = i := by rw [int_read j1 (by omega), j2]
    have e0 := Int.emod_nonneg P (show M ≠ 0 by omega)
    have e1 := Int.emod_lt_of_pos P (show 0 < M by omega)
    have m0 : 0 ≤ P % M * i := Int.mul_nonneg e0 j4
    have m1 : P % M * i ≤ 4228510729 := by
      have := Int.mul_le_mul (show P % M ≤ 65027 by omega) (show i ≤ 65027 by omega) j4 (by omega)
      omega
    have hii : (i != i) = false := by simp
    have Mp : 0 < M := by omega
    clear hjj HI j1 j2
    go_wp2_with fail
    refine (implNatInt_any Aj gj 0 nj capj fj _ j_5 (by omega)).mono ?_
    rintro e w' ⟨rfl, hw⟩
    obtain rfl := hw.symm
    rw [hkv]
    clear hkv
    generalize intB nj fj = kb
    clear an_5 en_5 mn_5 p_5 j_5
    go_wp2_with fail
    refine (drawRootInt_any a b off n cap f _ (hs.of_all B_5) hB hn).mono ?_
    rintro e w20 ⟨bb, pp, rfl, b0, b9, p0, p9, hbg⟩
    have B_20 := B_5.trans (hbg.mono B_5.size)
    have hT20 := Tab.below hT B_20
    clear B_5 hbg hT
    go_wp2_with fail
    refine (implRootInt_any bb pp _ hT20 (by omega) (by omega)).mono ?_
    rintro e w' ⟨⟨r, root, rfl, hR⟩, hw⟩
    obtain rfl := hw.symm
    cases root with
    | false =>
      clear hR
      go_wp2_with fail
      refine (at_any a b off n cap f 5 _ (hs.of_all B_20) hB hn (by omega)).mono ?_
      rintro e w' ⟨c5, rfl, c0, c9, hw⟩
      obtain rfl := hw.symm
      obtain ⟨cc, hcc⟩ : ∃ cc, cc = c5 % 103 := ⟨_, rfl⟩
      have cc0 : 0 ≤ cc := by omega
      have cc1 : cc ≤ 102 := by omega
      have hcc' := hcc.symm
      have q1 : cc * cc ≤ 10404 := by have := Int.mul_le_mul_of_nonneg_right cc1 cc0; omega
      have q0 : 0 ≤ cc * cc := Int.mul_nonneg cc0 cc0
      clear hcc
      go_wp2_with fail
      refine (implRootInt_any (cc * cc % 103) 103 _ hT20 (by omega) (by omega)).mono ?_
      rintro e w' ⟨⟨r2, sq, rfl, hR2⟩, hw⟩
      obtain rfl := hw.symm
      obtain rfl := root_is cc0 cc1 hR2
      clear hR2
      go_wp2_with fail
      refine (implPrimeInt_any 1019 _ (by omega)).mono ?_
      rintro e w' ⟨⟨o1, rfl, ho1⟩, hw⟩
      obtain rfl := hw.symm
      obtain rfl : o1 = true := ho1.2 ⟨by omega, by omega, prime_1019⟩
      clear ho1
      go_wp2_with fail
      refine (implPrimeInt_any 7147 _ (by omega)).mono ?_
      rintro e w' ⟨⟨o2, rfl, ho2⟩, hw⟩
      obtain rfl := hw.symm
      obtain rfl : o2 = false := by
        cases o2 with
        | false => rfl
        | true => exact absurd (ho2.1 rfl).2.2 not_prime_7147
      clear ho2
      go_wp2
      go_ret
      exact ⟨rfl, B_20⟩
    | true =>
      obtain ⟨z1, z2, z3, z4, z5, z6⟩ := root_half hR
      clear hR
      have z7 : r ≤ 524288 := by omega
      have z8 : r * r ≤ 274877906944 := by have := Int.mul_le_mul z7 z7 z4 (by omega); omega
      have z9 : 0 ≤ r * r := Int.mul_nonneg z4 z4
      have Hz3 := hide z3
      have hbq : (bb != bb) = false := by simp
      have hgt : ¬ pp / 2 < r := by omega
      clear z3 z6
      go_wp2_with fail
      refine (implPrimeInt_any pp _ (by omega)).mono ?_
      rintro e w' ⟨⟨o3, rfl, ho3⟩, hw⟩
      obtain rfl := hw.symm
      obtain rfl : o3 = true := ho3.2 ⟨by omega, by omega, unhide Hz3⟩
      clear ho3 hbq
      go_wp2_with fail
      refine (at_any a b off n cap f 5 _ (hs.of_all B_20) hB hn (by omega)).mono ?_
      rintro e w' ⟨c5, rfl, c0, c9, hw⟩
      obtain rfl := hw.symm
      obtain ⟨cc, hcc⟩ : ∃ cc, cc = c5 % 103 := ⟨_, rfl⟩
      have cc0 : 0 ≤ cc := by omega
      have cc1 : cc ≤ 102 := by omega
      have hcc' := hcc.symm
      have q1 : cc * cc ≤ 10404 := by have := Int.mul_le_mul_of_nonneg_right cc1 cc0; omega
      have q0 : 0 ≤ cc * cc := Int.mul_nonneg cc0 cc0
      clear hcc
      go_wp2_with fail
      refine (implRootInt_any (cc * cc % 103) 103 _ hT20 (by omega) (by omega)).mono ?_
      rintro e w' ⟨⟨r2, sq, rfl, hR2⟩, hw⟩
      obtain rfl := hw.symm
      obtain rfl := root_is cc0 cc1 hR2
      clear hR2
      go_wp2_with fail
      refine (implPrimeInt_any 1019 _ (by omega)).mono ?_
      rintro e w' ⟨⟨o1, rfl, ho1⟩, hw⟩
      obtain rfl := hw.symm
      obtain rfl : o1 = true := ho1.2 ⟨by omega, by omega, prime_1019⟩
      clear ho1
      go_wp2_with fail
      refine (implPrimeInt_any 7147 _ (by omega)).mono ?_
      rintro e w' ⟨⟨o2, rfl, ho2⟩, hw⟩
      obtain rfl := hw.symm
      obtain rfl : o2 = false := by
        cases o2 with
        | false => rfl
        | true => exact absurd (ho2.1 rfl).2.2 not_prime_7147
      clear ho2
      go_wp2
      go_ret
      exact ⟨rfl, B_20⟩

theorem walk (a0 : Option Addr) (len0 cap0 : Nat) (z0 : List Int) (w : World) (w0 : IsRow .u8 w a0 len0 cap0 z0) (hT : Tab w) :
    Calls Tryd.prog 3 #[.slice a0 len0 cap0] w fun e w' => e = .returned (.bool true) ∧ Below w.heap.size w w' := by
  obtain ⟨b, off, hs, hB⟩ := w0.seg
  by_cases hn : len0 ≤ 1048576
  · exact law a0 b off len0 cap0 _ w hT hs hB hn
  · exact law_bad a0 b off len0 cap0 _ w hT hs hB hn

theorem laidL : Rows.fnSmallModRow.laid = [("math/bits.deBruijn32tab", Rows.laid_math_bits_deBruijn32tab), ("math/bits.deBruijn64tab", Rows.laid_math_bits_deBruijn64tab)] := rfl

theorem g_math_bits_deBruijn32tab : Tryd.prog.globalNamed "math/bits.deBruijn32tab" = some 0 := by kernel_rfl
theorem t_math_bits_deBruijn32tab : (Tryd.prog.globals[0]?).map (·.type) = some 67 := by kernel_rfl
theorem g_math_bits_deBruijn64tab : Tryd.prog.globalNamed "math/bits.deBruijn64tab" = some 1 := by kernel_rfl
theorem t_math_bits_deBruijn64tab : (Tryd.prog.globals[1]?).map (·.type) = some 68 := by kernel_rfl

/-- The door's own heap meets the condition. -/
theorem door_met (os : Os) (args : Array Value) : laidMetH Tryd.prog [("math/bits.deBruijn32tab", Rows.laid_math_bits_deBruijn32tab), ("math/bits.deBruijn64tab", Rows.laid_math_bits_deBruijn64tab)] ((World.doorLaid Tryd.prog 400 os).forCall (fun _ _ => 0) ⟨#[], args, []⟩).memory :=
  laidMetH_of_parts3 (fuel := 8) (laidMet_of_run' 8 (by kernel_rfl) (by kernel_rfl)) (by kernel_rfl) (by kernel_rfl)

/-- What the condition gives the walks: the table's cells. -/
theorem of_laid {W : World} (h : laidMetH Tryd.prog [("math/bits.deBruijn32tab", Rows.laid_math_bits_deBruijn32tab), ("math/bits.deBruijn64tab", Rows.laid_math_bits_deBruijn64tab)] W) : Tab W := by
  rw [MakeChecks.laidMetH_plain _ _ _ (by kernel_rfl)] at h
  obtain ⟨ps, ⟨g0, t0, cs0, f0, p0, q0, hg0, ht0, hv0, hd0, ⟨g1, t1, cs1, f1, p1, q1, hg1, ht1, hv1, hd1, _, _⟩, _⟩, _, _⟩ := h
  obtain rfl := Option.some.inj (g_math_bits_deBruijn64tab.symm.trans hg1)
  obtain rfl := Option.some.inj (t_math_bits_deBruijn64tab.symm.trans ht1)
  obtain ⟨xs, m1, rfl, hx1, hlen, hn3, hel⟩ := DataW.trod_array Tryd.underlying68 hd1
  have c5 : Tryd.prog.cellsOf 5 = 1 := by kernel_rfl
  simp only [Prod.mk.injEq] at hx1
  have hxs : xs.map (·.1) = (Lib.deBruijn64tab.map fun (z : Nat) => (.lit (.int .u8 (z : Int)) : DataW Unit)) := by
    have e : (Rows.laid_math_bits_deBruijn64tab : DataW Unit) = .agg (Lib.deBruijn64tab.map fun (z : Nat) => (.lit (.int .u8 (z : Int)) : DataW Unit)) := rfl
    have h2 := hx1.1
    rw [e] at h2
    injection h2 with h3
    exact h3.symm
  intro j hj
  have h0 := hel j hj
  obtain ⟨y, hy⟩ : ∃ y, xs[j]? = some y := ⟨xs[j]'(by omega), List.getElem?_eq_getElem _⟩
  rw [hy] at h0
  obtain ⟨k, e1, e2, _⟩ := DataW.trod_int Tryd.underlying5 h0
  rw [c5, Nat.mul_one] at e1
  have hcell := World.var?_cell hg1 hv1 j
  have e3 : cs1[j]? = some (.int .u8 k) := by
    have : (cs1.toList.drop j)[0]? = some (.int .u8 k) := by
      have h4 := congrArg (fun l => l[0]?) e1
      simpa [List.getElem?_take] using h4
    simpa using this
  rw [hcell, e3]
  have e4 : (xs.map (·.1))[j]? = some y.1 := by simp [hy]
  rw [hxs, e2] at e4
  have hl : Lib.deBruijn64tab.length = 64 := by decide
  simp only [List.getElem?_map] at e4
  cases h6 : Lib.deBruijn64tab[j]? with
  | none => rw [h6] at e4; simp at e4
  | some z =>
    rw [h6] at e4
    simp only [Option.map_some, Option.some.injEq, DataW.lit.injEq, Lit.int.injEq, true_and] at e4
    rw [← e4, List.getD_eq_getElem?_getD, h6]
    rfl

/-! ### THE ROW's STEP -/
set_option maxRecDepth 100000 in
theorem lifted (os : Os) (started : os.Started) (H : Type) (enc : TypeId × Value → H) :
    ReturnsInHanded {} Tryd.checked os 3 .any (fun w args => (Rows.fnSmallModSpec.pre enc Tryd.prog Tryd.f3 [] false w args ∧ laidMetH Tryd.prog [("math/bits.deBruijn32tab", Rows.laid_math_bits_deBruijn32tab), ("math/bits.deBruijn64tab", Rows.laid_math_bits_deBruijn64tab)] w) ∧ sizedMet enc Tryd.prog Tryd.f3 (OpenSpec.ofChange Rows.fnSmallModSpec) false w args)
      (Rows.fnSmallModSpec.post enc Tryd.prog Tryd.f3 false true false false) := by
  refine returnsInHanded_of_change_and (C := Tryd.checked) (X := fun w _ => laidMetH Tryd.prog [("math/bits.deBruijn32tab", Rows.laid_math_bits_deBruijn32tab), ("math/bits.deBruijn64tab", Rows.laid_math_bits_deBruijn64tab)] w) (fun _ _ _ hh h => h.of_heap hh) own started (by kernel_rfl) Tryd.func3
    (ChangeSpec.witness_shaped (enc := enc) (C := Tryd.checked) (os := os) (X := fun w _ => laidMetH Tryd.prog [("math/bits.deBruijn32tab", Rows.laid_math_bits_deBruijn32tab), ("math/bits.deBruijn64tab", Rows.laid_math_bits_deBruijn64tab)] w) false (World.doorLaid Tryd.prog 400 os) #[.slice none 0 0] 8 rfl (World.shaped_of_RefB (by kernel_rfl) (by kernel_rfl)) (by kernel_rfl) (by kernel_rfl) (by kernel_rfl) (door_met os _)) ?_
  intro W base args ds gs before hval0 hW _ _ hL _
  have hval : ∀ (j : Nat) t v, Tryd.f3.params[j]? = some t → args[j]? = some v → Value.okWide Tryd.prog W .any base t v := hval0
  have hW' := hW
  obtain ⟨p, q, hA0, hV, rfl, hfz, hnd⟩ := hW
  have hA : DataW.TrodAll enc Tryd.prog W 0 (fun _ => true) true Tryd.f3.params.toList args.toList ds p := hA0
  rw [Tryd.params3] at hA hval
  obtain ⟨v0, vs0, d0, ds0, p0, q0, hargs, rfl, rfl, h0, r0⟩ := trodAll_cons hA
  obtain ⟨rfl, rfl, rfl⟩ := trodAll_nil r0
  obtain rfl : args = #[v0] := by cases args; simp_all
  obtain ⟨rfl, rfl⟩ := trodVars_none hV
  obtain ⟨a0, len0, cap0, rfl⟩ := okWide_slice Tryd.underlying22 (hval 0 22 v0 rfl rfl)
  have k0 := h0
  have lt0 : ∀ x ∈ p0, x.block < W.heap.size := by obtain ⟨m, hm⟩ := k0; exact DataW.trod_lt m _ _ _ hm
  obtain ⟨z0, w0⟩ : ∃ zs, IsRow .u8 W a0 len0 cap0 zs := by
    obtain ⟨fuel, hf⟩ := h0
    rcases open_ints Tryd.underlying22 Tryd.underlying5 (by kernel_rfl) hf with ⟨hcs, _⟩ | ⟨x, l, c, zs, hcs, _, hl, hm, hz, _, hcell, hwz⟩
    · simp [Value.cells] at hcs
      obtain ⟨rfl, rfl, rfl⟩ := hcs
      exact ⟨[], .inl ⟨rfl, rfl, rfl, rfl⟩⟩
    · simp [Value.cells] at hcs
      obtain ⟨rfl, rfl, rfl⟩ := hcs
      exact ⟨zs, .inr ⟨_, rfl, hl, hm, by simpa using hz, hcell, hwz⟩⟩
  clear hA0 hval0
  have hTab := of_laid hL
  refine (walk a0 len0 cap0 z0 W w0 hTab).mono fun e W' ⟨he, bel⟩ => ?_
  subst he
  exact ⟨_, rfl, _, _, _, [], _, [], hW', trodAll_mk1 (shut_bool Tryd.underlying4 _), (trodAll_cons_mk (Below.trod laidOut (by kernel_rfl) (of_decide_eq_true (by kernel_rfl)) k0 bel lt0) trodAll_mk0), rfl, bel.frame _, fun h => by cases h⟩

theorem over : Rows.fnSmallModRow.holds Tryd.pinned (OpenSpec.ofChange Rows.fnSmallModSpec) :=
  OpenClaim.holds_of_wide 3 Tryd.f3 rfl rfl rfl rfl rfl rfl rfl ⟨rfl, rfl, rfl, rfl, rfl⟩ rfl rfl rfl rfl rfl (by kernel_rfl) Tryd.func3 (by kernel_rfl)
    (of_decide_eq_true (by kernel_rfl)) (by unfold Func.isWrapper; first | (rw [if_pos (by decide +kernel)]; kernel_rfl) | (rw [if_neg (by decide +kernel)]; exact ⟨rfl, rfl⟩))
    (fun os started H enc _ => lifted os started H enc)

/-- ████ THE STATEMENT ████ -/
theorem proved : Rows.FnSmallModSaid := over
end Go.Proofs.YtmkmojcefgcmlaaDoor.fnSmallMod

namespace Go.Proofs.YtmkmojcefgcmlaaDoor
/-- The given statement: the tied card. -/
theorem fnSmallMod_holds : Rows.FnSmallModCardSaid :=
  Claim7.holds_tied_plain_at .later [] [.data, .data] true (true, "62dc21082881c1d9a394d673b2b5be125ea1639f3acedf28d9d4a3d3e97d010d") false
    fnSmallMod.proved (fun _ h => by cases h) (by kernel_rfl) (fun _ h => by cases h) fnSmallMod_row_tie rfl ⟨rfl, rfl⟩ (by kernel_rfl) rfl
    (fun f fn hf hfn => by
      obtain rfl : f = 3 := Option.some.inj ((show Tryd.prog.funcNamed "loop.example/g00148/laws.FnSmallMod" = some 3 by kernel_rfl).symm.trans hf) |>.symm
      obtain rfl : fn = Tryd.f3 := (Option.some.inj (Tryd.func3.symm.trans hfn)).symm
      exact ⟨by kernel_rfl, fun j t ht => by
        rw [Tryd.params3] at ht
        have hm : t ∈ [22] := by have := Array.mem_of_getElem? ht; simpa using this
        have hall : ([22].all fun u => !Tryd.prog.wantsStandIn u) = true := by kernel_rfl
        exact (show Tryd.prog.wantsStandIn t = false by simpa using List.all_eq_true.1 hall t hm)⟩)
    (by kernel_rfl)
#print axioms fnSmallMod_holds
end Go.Proofs.YtmkmojcefgcmlaaDoor
