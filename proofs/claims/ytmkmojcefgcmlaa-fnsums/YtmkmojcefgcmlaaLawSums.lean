/- Proved: at every list of bytes handed to it the law FnSums answers true and leaves its argument as it was: of the two lists that are drawn of at most 1048576 bytes a sum less one is the other one, sums may be turned about, and a product is shared out over a sum, where they fit (beyond that length the law itself answers true at once). No condition. -/
import Derived.Test.YtmkmojcefgcmlaaRows
import Derived.WalkKit
import Derived.ProofKit
import Derived.OpenShut
import Derived.ShutString
import Derived.ChangeOld
import Derived.Below
import Derived.Test.YtmkmojcefgcmlaaDrawEnd
import Derived.Test.YtmkmojcefgcmlaaLists
import Derived.Test.YtmkmojcefgcmlaaSame
import Derived.Test.YtmkmojcefgcmlaaNatAdd
import Derived.Test.YtmkmojcefgcmlaaNatSub
import Derived.Test.YtmkmojcefgcmlaaNatMul
import Derived.Test.YtmkmojcefgcmlaaNatOf2
import Derived.Test.YtmkmojcefgcmlaaNatCmp
import Derived.Test.YtmkmojcefgcmlaaNatOk
namespace Go.Proofs.Ytmkmojcefgcmlaa.fnSums
open Go.ChangeShapes Go.WideShapes Go.ChangeAt Go.RowKit
open Go.ChangeMaps (open_string shut_string)
set_option linter.unusedVariables false

theorem own : ownKnob Try.prog.godebug = none := by kernel_rfl
theorem laidOut : laidOutB Try.prog = true := by kernel_rfl

/-- WHAT THE WALK IS TOLD OF A SLICE OF INTEGERS THAT CAME IN: it is nil; or it leads to a row of 'cap' cells, the numbers 'zs' (the first 'len' are its elements, the rest its spare room), each fitting its kind. -/
def IsRow (k : IntKind) (w : World) (a : Option Addr) (len cap : Nat) (zs : List Int) : Prop :=
  (a = none ∧ len = 0 ∧ cap = 0 ∧ zs = []) ∨
  ∃ x, a = some x ∧ len ≤ cap ∧ cap ≤ maxLen ∧ zs.length = cap ∧ (∀ i, i < zs.length → w.cell? (x.add i) = some (.int k (zs.getD i 0))) ∧ ∀ n ∈ zs, (Lit.int k n).wf = true

theorem IsRow.seg {w : World} {a : Option Addr} {len cap : Nat} {zs : List Int} (h : IsRow .u8 w a len cap zs) : ∃ b off, BSeg w a b off len (fun i => zs.getD i 0) ∧ (∀ i, i < len → 0 ≤ zs.getD i 0 ∧ zs.getD i 0 ≤ 255) := by
  rcases h with ⟨rfl, rfl, rfl, rfl⟩ | ⟨x, rfl, hl, hm, hz, hcell, hwz⟩
  · exact ⟨0, 0, ⟨fun h => absurd h (Nat.lt_irrefl _), fun i hi => absurd hi (Nat.not_lt_zero _)⟩, fun i hi => absurd hi (Nat.not_lt_zero _)⟩
  · obtain ⟨b, off, spot⟩ := x
    by_cases h0 : len = 0
    · subst h0
      exact ⟨0, 0, ⟨fun h => absurd h (Nat.lt_irrefl _), fun i hi => absurd hi (Nat.not_lt_zero _)⟩, fun i hi => absurd hi (Nat.not_lt_zero _)⟩
    · have hspot : spot = none := by simpa [Addr.add] using World.cell?_spot (hcell 0 (by omega))
      subst hspot
      exact ⟨b, off, ⟨fun _ => rfl, fun i hi => by
        have h := hcell i (by omega)
        have e : Addr.add ⟨b, off, none⟩ i = ⟨b, off + i, none⟩ := by
          by_cases h0 : i = 0
          · subst h0; simp [Addr.add]
          · simp [Addr.add, h0]
        rwa [e] at h⟩, fun i hi => by
        have hm : zs.getD i 0 ∈ zs := by
          rw [List.getD_eq_getElem?_getD, List.getElem?_eq_getElem (show i < zs.length by omega)]
          exact List.getElem_mem _
        have := bounds_u8 (hwz _ hm)
        show 0 ≤ zs.getD i 0 ∧ zs.getD i 0 ≤ 255
        omega⟩



theorem hide {p : Prop} (h : p) : Hid p := h
theorem unhide {p : Prop} (h : Hid p) : p := h

theorem big_any (a : Option Addr) (n cap : Nat) (w : World) (hn : n ≤ 1048576) : Calls Try.prog 8 #[.slice a n cap] w fun e w' => e = .returned (.bool false) ∧ w' = w := by
  have h : ¬ (1048576 : Int) < (n : Int) := by omega
  go_enter Try.func8, Try.ntmps8
  go_wp2
  go_ret
  exact ⟨rfl, rfl⟩

theorem big_long (a : Option Addr) (n cap : Nat) (w : World) (hn : ¬ n ≤ 1048576) : Calls Try.prog 8 #[.slice a n cap] w fun e w' => e = .returned (.bool true) ∧ w' = w := by
  have h : (1048576 : Int) < (n : Int) := by omega
  go_enter Try.func8, Try.ntmps8
  go_wp2
  go_ret
  exact ⟨rfl, rfl⟩

theorem natOk_of {n : Nat} {f : Nat → Int} (h : Canon n f) (hn : n ≤ 64) : natOk n f = true := (natOk_iff n f).2 ⟨h.digs, hn, h.last⟩

theorem canon_of {n : Nat} {f : Nat → Int} (h : natOk n f = true) : Canon n f := ⟨((natOk_iff n f).1 h).1, ((natOk_iff n f).1 h).2.2⟩

/-- Two canonical lists of one value are alike. -/
theorem same_of {n m : Nat} {f g : Nat → Int} (hf : Canon n f) (hg : Canon m g) (h : val f n = val g m) : (n == m && alike f g n) = true := by
  obtain ⟨rfl, e⟩ := canon_unique hf hg h
  simp [(alike_iff f g n).2 e]

theorem addQ_of {n m : Nat} {f g : Nat → Int} (hf : natOk n f = true) (hg : natOk m g = true) : addQ n f m g = fitQ (val f n + val g m) := by simp [addQ, hf, hg]
theorem mulQ_of {n m : Nat} {f g : Nat → Int} (hf : natOk n f = true) (hg : natOk m g = true) : mulQ n f m g = fitQ (val f n * val g m) := by simp [mulQ, hf, hg]

/-- What fits has at most 64 digits, and is a natural. -/
theorem fit_some {x : Int} {n : Nat} {f : Nat → Int} {ok : Bool} (h : IsNat (fitQ x) n f ok) (hok : ok = true) : natOk n f = true ∧ val f n = x ∧ x < pw 64 := by
  unfold fitQ at h
  by_cases c : x < pw 64
  · rw [if_pos c] at h
    exact ⟨natOk_of h.1 ((canon_len h.1 64).2 (by rw [h.2.1]; exact c)), h.2.1, c⟩
  · rw [if_neg c] at h
    have := h.2
    rw [hok] at this
    exact absurd this (by decide)

theorem fit_none {x : Int} {n : Nat} {f : Nat → Int} {ok : Bool} (h : IsNat (fitQ x) n f ok) (hok : ok = false) : ¬ x < pw 64 := by
  unfold fitQ at h
  intro c
  rw [if_pos c] at h
  have := h.2.2
  rw [hok] at this
  exact absurd this (by decide)

theorem byte_mul {x y : Int} (x0 : 0 ≤ x) (x1 : x ≤ 255) (y0 : 0 ≤ y) (y1 : y ≤ 255) : 0 ≤ x * y ∧ x * y ≤ 65025 := by
  have a := Int.mul_le_mul_of_nonneg_right x1 y0
  exact ⟨Int.mul_nonneg x0 y0, by omega⟩

theorem byte_mul2 {x y : Int} (x0 : 0 ≤ x) (x1 : x ≤ 65025) (y0 : 0 ≤ y) (y1 : y ≤ 255) : 0 ≤ x * y ∧ x * y ≤ 16581375 := by
  have a := Int.mul_le_mul_of_nonneg_right x1 y0
  exact ⟨Int.mul_nonneg x0 y0, by omega⟩

theorem pw_two : pw 2 = 4294967296 := by simp [pw]

theorem sum_long {va vb : Int} {n m : Nat} (h : pw 64 ≤ va + vb) (hn : n ≤ 64) (hm : m ≤ 64) (ha : va < pw n) (hb : vb < pw m) : n = 64 ∨ m = 64 := by
  by_cases h1 : n = 64
  · exact .inl h1
  · by_cases h2 : m = 64
    · exact .inr h2
    · have p1 := pw_le (show n ≤ 63 by omega)
      have p2 := pw_le (show m ≤ 63 by omega)
      have e : pw 64 = pw 63 * 65536 := rfl
      have := pw_pos 63
      omega

theorem sub_of {n m : Nat} {f g : Nat → Int} {va : Int} (hf : natOk n f = true) (hg : natOk m g = true) (h : val f n = va + val g m) (h0 : 0 ≤ va) : subQ n f m g = some va := by
  unfold subQ
  rw [if_pos (by simp [hf, hg]; omega), h]
  congr 1
  omega

/-- Of the three products: one is too long, and then the sum's and the factor's digits are too many; or all are there. -/
theorem prods {va vb : Int} {np nq nr ns nc : Nat} {fp fq fr fs fc : Nat → Int} {okp okq okr : Bool} (h1 : va ≤ val fs ns) (h2 : vb ≤ val fs ns) (h3 : 0 ≤ val fc nc)
    (hp : IsNat (fitQ (va * val fc nc)) np fp okp) (hq : IsNat (fitQ (vb * val fc nc)) nq fq okq) (hr : IsNat (fitQ (val fs ns * val fc nc)) nr fr okr) (hs : Digs fs ns) (hc : Digs fc nc) :
    ((okp && okq && okr) = false ∧ 64 < ns + nc) ∨ (okp = true ∧ okq = true ∧ okr = true ∧ True) := by
  cases hall : (okp && okq && okr) with
  | true =>
    simp only [Bool.and_eq_true] at hall
    exact .inr ⟨hall.1.1, hall.1.2, hall.2, trivial⟩
  | false =>
    refine .inl ⟨rfl, ?_⟩
    have big : pw 64 ≤ val fs ns * val fc nc := by
      have a := Int.mul_le_mul_of_nonneg_right h1 h3
      have b := Int.mul_le_mul_of_nonneg_right h2 h3
      cases okp with
      | false => have := fit_none hp rfl; omega
      | true =>
        cases okq with
        | false => have := fit_none hq rfl; omega
        | true =>
          cases okr with
          | false => have := fit_none hr rfl; omega
          | true => simp at hall
    have lt := (val_mul_lt hs hc).2
    by_cases c : 64 < ns + nc
    · exact c
    · have := pw_le (show ns + nc ≤ 64 by omega)
      omega

set_option maxHeartbeats 8000000 in
set_option maxRecDepth 100000 in
theorem law_bad (a : Option Addr) (b off n cap : Nat) (f : Nat → Int) (w : World) (hs : BSeg w a b off n f) (hB : ∀ i, i < n → 0 ≤ f i ∧ f i ≤ 255) (hn : ¬ n ≤ 1048576) :
    Calls Try.prog 3 #[.slice a n cap] w fun e w' => e = .returned (.bool true) ∧ Below w.heap.size w w' := by
  go_enter Try.func3, Try.ntmps3
  go_wp2_with fail
  refine (big_long a n cap _ hn).mono ?_
  rintro e w' ⟨rfl, hw⟩
  obtain rfl := hw.symm
  go_wp2
  go_ret
  exact ⟨rfl, Below.refl _ _⟩

set_option maxHeartbeats 8000000 in
set_option maxRecDepth 100000 in
theorem law (a : Option Addr) (b off n cap : Nat) (f : Nat → Int) (w : World) (hs : BSeg w a b off n f) (hB : ∀ i, i < n → 0 ≤ f i ∧ f i ≤ 255) (hn : n ≤ 1048576) :
    Calls Try.prog 3 #[.slice a n cap] w fun e w' => e = .returned (.bool true) ∧ Below w.heap.size w w' := by
  go_enter Try.func3, Try.ntmps3
  go_wp2_with fail
  refine (big_any a n cap _ hn).mono ?_
  rintro e w' ⟨rfl, hw⟩
  obtain rfl := hw.symm
  go_wp2_with fail
  refine (drawNatMul_any a b off n cap f _ hs hB hn).mono ?_
  rintro e w1 ⟨aX, gX, cX, mX, fX, aY, gY, cY, mY, fY, rfl, hmX, hmY, X_1, Y_1, B_1⟩
  cases hok : natOk mX fX with
  | false =>
    have Hq : Hid (addQ mX fX mY fY = none) := by show _ = _; simp [addQ, hok]
    have Hc : Hid (cmpQ mX fX mY fY = -2) := by show _ = _; simp [cmpQ, hok]
    go_wp2_with fail
    refine (specNatOk_any aX gX 0 mX cX fX _ X_1 (by omega)).mono ?_
    rintro e w' ⟨rfl, hw⟩
    obtain rfl := hw.symm
    rw [hok]
    go_wp2_with fail
    refine (implNatAdd_any aX gX 0 mX cX fX aY gY 0 mY cY fY _ X_1 Y_1 (by omega) (by omega)).mono ?_
    rintro e w2 ⟨As, gs, caps, ns, fs, oks, rfl, hns, hNs, hgs, hOs, hbs⟩
    have s_2 := hOs.toSeg
    clear hOs hgs
    have X_2 := X_1.of_all hbs
    have Y_2 := Y_1.of_all hbs
    have B_2 := B_1.trans (hbs.mono B_1.size)
    clear X_1 Y_1 B_1 hbs
    rw [Hq.out] at hNs
    obtain ⟨hzs, hoks⟩ := hNs
    subst hoks
    clear hzs
    go_wp2_with fail
    refine (implNatOk_any aX gX 0 mX cX fX _ X_2 (by omega)).mono ?_
    rintro e w' ⟨rfl, hw⟩
    obtain rfl := hw.symm
    rw [hok]
    go_wp2_with fail
    refine (specNatOk_any aX gX 0 mX cX fX _ X_2 (by omega)).mono ?_
    rintro e w' ⟨rfl, hw⟩
    obtain rfl := hw.symm
    rw [hok]
    go_wp2_with fail
    refine (implNatCompare_any aX gX 0 mX cX fX aY gY 0 mY cY fY _ X_2 Y_2 (by omega) (by omega)).mono ?_
    rintro e w3 ⟨rfl, hQ⟩
    have hbq := hQ.below w2.heap.size
    clear hQ
    have X_3 := X_2.of_all hbq
    have Y_3 := Y_2.of_all hbq
    have s_3 := s_2.of_all hbq
    have B_3 := B_2.trans (hbq.mono B_2.size)
    clear X_2 Y_2 s_2 B_2 hbq 
    rw [Hc.out]
    go_wp2
    go_ret
    exact ⟨rfl, B_3⟩
  | true =>
    cases hok2 : natOk mY fY with
    | false =>
      have Hq : Hid (addQ mX fX mY fY = none) := by show _ = _; simp [addQ, hok2]
      have Hc : Hid (cmpQ mX fX mY fY = -2) := by show _ = _; simp [cmpQ, hok2]
      go_wp2_with fail
      refine (specNatOk_any aX gX 0 mX cX fX _ X_1 (by omega)).mono ?_
      rintro e w' ⟨rfl, hw⟩
      obtain rfl := hw.symm
      rw [hok]
      go_wp2_with fail
      refine (specNatOk_any aY gY 0 mY cY fY _ Y_1 (by omega)).mono ?_
      rintro e w' ⟨rfl, hw⟩
      obtain rfl := hw.symm
      rw [hok2]
      go_wp2_with fail
      refine (implNatAdd_any aX gX 0 mX cX fX aY gY 0 mY cY fY _ X_1 Y_1 (by omega) (by omega)).mono ?_
      rintro e w2 ⟨As, gs, caps, ns, fs, oks, rfl, hns, hNs, hgs, hOs, hbs⟩
      have s_2 := hOs.toSeg
      clear hOs hgs
      have X_2 := X_1.of_all hbs
      have Y_2 := Y_1.of_all hbs
      have B_2 := B_1.trans (hbs.mono B_1.size)
      clear X_1 Y_1 B_1 hbs
      rw [Hq.out] at hNs
      obtain ⟨hzs, hoks⟩ := hNs
      subst hoks
      clear hzs
      go_wp2_with fail
      refine (implNatOk_any aX gX 0 mX cX fX _ X_2 (by omega)).mono ?_
      rintro e w' ⟨rfl, hw⟩
      obtain rfl := hw.symm
      rw [hok]
      go_wp2_with fail
      refine (specNatOk_any aX gX 0 mX cX fX _ X_2 (by omega)).mono ?_
      rintro e w' ⟨rfl, hw⟩
      obtain rfl := hw.symm
      rw [hok]
      go_wp2_with fail
      refine (implNatCompare_any aX gX 0 mX cX fX aY gY 0 mY cY fY _ X_2 Y_2 (by omega) (by omega)).mono ?_
      rintro e w3 ⟨rfl, hQ⟩
      have hbq := hQ.below w2.heap.size
      clear hQ
      have X_3 := X_2.of_all hbq
      have Y_3 := Y_2.of_all hbq
      have s_3 := s_2.of_all hbq
      have B_3 := B_2.trans (hbq.mono B_2.size)
      clear X_2 Y_2 s_2 B_2 hbq 
      rw [Hc.out]
      go_wp2
      go_ret
      exact ⟨rfl, B_3⟩
    | true =>
      have cX' := canon_of hok
      have cY' := canon_of hok2
      have lX : mX ≤ 64 := ((natOk_iff mX fX).1 hok).2.1
      have lY : mY ≤ 64 := ((natOk_iff mY fY).1 hok2).2.1
      have vX := val_bd cX'.digs
      have vY := val_bd cY'.digs
      go_wp2_with fail
      refine (specNatOk_any aX gX 0 mX cX fX _ X_1 (by omega)).mono ?_
      rintro e w' ⟨rfl, hw⟩
      obtain rfl := hw.symm
      rw [hok]
      go_wp2_with fail
      refine (specNatOk_any aY gY 0 mY cY fY _ Y_1 (by omega)).mono ?_
      rintro e w' ⟨rfl, hw⟩
      obtain rfl := hw.symm
      rw [hok2]
      have Hok := hide hok
      have Hok2 := hide hok2
      clear hok hok2
      go_wp2_with fail
      refine (at_any a b off n cap f 0 _ (hs.of_all B_1) hB hn (by omega)).mono ?_
      rintro e w' ⟨x, rfl, x0, x1, hw⟩
      obtain rfl := hw.symm
      go_wp2_with fail
      refine (at_any a b off n cap f 1 _ (hs.of_all B_1) hB hn (by omega)).mono ?_
      rintro e w' ⟨y, rfl, y0, y1, hw⟩
      obtain rfl := hw.symm
      have p1 := byte_mul x0 x1 y0 y1
      go_wp2_with fail
      refine (at_any a b off n cap f 2 _ (hs.of_all B_1) hB hn (by omega)).mono ?_
      rintro e w' ⟨z, rfl, z0, z1, hw⟩
      obtain rfl := hw.symm
      have p2 := byte_mul2 p1.1 p1.2 z0 z1
      obtain ⟨p10, p11⟩ := p1
      obtain ⟨p20, p21⟩ := p2
      go_wp2_with fail
      refine (implNatOf_any (x * y * z + 5) _ (by omega)).mono ?_
      rintro e w2 ⟨Ac, gc, capc, nc, fc, okc, rfl, hnc, hNc, hgc, hOc, hbc⟩
      have c_2 := hOc.toSeg
      clear hOc hgc
      have X_2 := X_1.of_all hbc
      have Y_2 := Y_1.of_all hbc
      have B_2 := B_1.trans (hbc.mono B_1.size)
      clear X_1 Y_1 B_1 hbc
      have hoq : ofQ (x * y * z + 5) = some (x * y * z + 5) := by simp [ofQ]; omega
      rw [hoq] at hNc
      obtain ⟨hCc, hVc, hokc⟩ := hNc
      subst hokc
      clear hoq
      have p2' := pw_two
      have hlc : nc ≤ 64 := Nat.le_trans ((canon_len hCc 2).2 (by rw [hVc]; omega)) (by omega)
      have Hc := hide (natOk_of hCc hlc)
      have vC : 5 ≤ val fc nc := by rw [hVc]; omega
      clear hVc p2'
      go_wp2_with fail
      refine (implNatAdd_any aX gX 0 mX cX fX aY gY 0 mY cY fY _ X_2 Y_2 (by omega) (by omega)).mono ?_
      rintro e w3 ⟨As, gs, caps, ns, fs, oks, rfl, hns, hNs, hgs, hOs, hbs⟩
      have s_3 := hOs.toSeg
      clear hOs hgs
      have X_3 := X_2.of_all hbs
      have Y_3 := Y_2.of_all hbs
      have c_3 := c_2.of_all hbs
      have B_3 := B_2.trans (hbs.mono B_2.size)
      clear X_2 Y_2 c_2 B_2 hbs
      rw [addQ_of (unhide Hok) (unhide Hok2)] at hNs
      cases oks
      · have hnf := fit_none hNs rfl
        have h64 : mX = 64 ∨ mY = 64 := sum_long (by omega) lX lY vX.2 vY.2
        clear hNs hnf
        by_cases hx : mX = 64
        · subst hx
          go_wp2
          go_ret
          exact ⟨rfl, B_3⟩
        · have hx' : ((mX : Int) == 64) = false := by simp; omega
          obtain rfl : mY = 64 := h64.resolve_left hx
          go_wp2
          go_ret
          exact ⟨rfl, B_3⟩
      · obtain ⟨hoks, hVs, hfs⟩ := fit_some hNs rfl
        have hCs := canon_of hoks
        have lS : ns ≤ 64 := ((natOk_iff ns fs).1 hoks).2.1
        have Hs := hide hoks
        have HVs := hide hVs
        clear hNs hoks hVs
        go_wp2_with fail
        refine (implNatAdd_any aY gY 0 mY cY fY aX gX 0 mX cX fX _ Y_3 X_3 (by omega) (by omega)).mono ?_
        rintro e w4 ⟨At, gt, capt, nt, ft, okt, rfl, hnt, hNt, hgt, hOt, hbt⟩
        have t_4 := hOt.toSeg
        clear hOt hgt
        have X_4 := X_3.of_all hbt
        have Y_4 := Y_3.of_all hbt
        have c_4 := c_3.of_all hbt
        have s_4 := s_3.of_all hbt
        have B_4 := B_3.trans (hbt.mono B_3.size)
        clear X_3 Y_3 c_3 s_3 B_3 hbt
        rw [addQ_of (unhide Hok2) (unhide Hok)] at hNt
        have hokt : okt = true := by
          cases okt
          · exact absurd (show val fY mY + val fX mX < pw 64 by omega) (fit_none hNt rfl)
          · rfl
        obtain ⟨ht1, hVt, _⟩ := fit_some hNt hokt
        subst hokt
        have hCt := canon_of ht1
        have HVt := hide hVt
        clear hNt ht1 hVt
        go_wp2_with fail
        refine (implNatSub_any _ gs 0 ns caps fs aY gY 0 mY cY fY _ s_4 Y_4 (by omega) (by omega)).mono ?_
        rintro e w5 ⟨Ad, gd, capd, nd, fd, okd, rfl, hnd, hNd, hgd, hOd, hbd⟩
        have d_5 := hOd.toSeg
        clear hOd hgd
        have X_5 := X_4.of_all hbd
        have Y_5 := Y_4.of_all hbd
        have c_5 := c_4.of_all hbd
        have s_5 := s_4.of_all hbd
        have t_5 := t_4.of_all hbd
        have B_5 := B_4.trans (hbd.mono B_4.size)
        clear X_4 Y_4 c_4 s_4 t_4 B_4 hbd
        have hsq : subQ ns fs mY fY = some (val fX mX) := sub_of (unhide Hs) (unhide Hok2) (unhide HVs) vX.1
        rw [hsq] at hNd
        obtain ⟨hCd, hVd, hokd⟩ := hNd
        subst hokd
        have HVd := hide hVd
        clear hVd hsq
        go_wp2_with fail
        refine (implNatMul_any aX gX 0 mX cX fX Ac gc 0 nc capc fc _ X_5 c_5 (by omega) (by omega)).mono ?_
        rintro e w6 ⟨Ap, gp, capp, np, fp, okp, rfl, hnp, hNp, hgp, hOp, hbp⟩
        have p_6 := hOp.toSeg
        clear hOp hgp
        have X_6 := X_5.of_all hbp
        have Y_6 := Y_5.of_all hbp
        have c_6 := c_5.of_all hbp
        have s_6 := s_5.of_all hbp
        have t_6 := t_5.of_all hbp
        have d_6 := d_5.of_all hbp
        have B_6 := B_5.trans (hbp.mono B_5.size)
        clear X_5 Y_5 c_5 s_5 t_5 d_5 B_5 hbp
        rw [mulQ_of (unhide Hok) (unhide Hc)] at hNp
        go_wp2_with fail
        refine (implNatMul_any aY gY 0 mY cY fY Ac gc 0 nc capc fc _ Y_6 c_6 (by omega) (by omega)).mono ?_
        rintro e w7 ⟨Aq, gq, capq, nq, fq, okq, rfl, hnq, hNq, hgq, hOq, hbq⟩
        have q_7 := hOq.toSeg
        clear hOq hgq
        have X_7 := X_6.of_all hbq
        have Y_7 := Y_6.of_all hbq
        have c_7 := c_6.of_all hbq
        have s_7 := s_6.of_all hbq
        have t_7 := t_6.of_all hbq
        have d_7 := d_6.of_all hbq
        have p_7 := p_6.of_all hbq
        have B_7 := B_6.trans (hbq.mono B_6.size)
        clear X_6 Y_6 c_6 s_6 t_6 d_6 p_6 B_6 hbq
        rw [mulQ_of (unhide Hok2) (unhide Hc)] at hNq
        go_wp2_with fail
        refine (implNatMul_any _ gs 0 ns caps fs Ac gc 0 nc capc fc _ s_7 c_7 (by omega) (by omega)).mono ?_
        rintro e w8 ⟨Ar, gr, capr, nr, fr, okr, rfl, hnr, hNr, hgr, hOr, hbr⟩
        have r_8 := hOr.toSeg
        clear hOr hgr
        have X_8 := X_7.of_all hbr
        have Y_8 := Y_7.of_all hbr
        have c_8 := c_7.of_all hbr
        have s_8 := s_7.of_all hbr
        have t_8 := t_7.of_all hbr
        have d_8 := d_7.of_all hbr
        have p_8 := p_7.of_all hbr
        have q_8 := q_7.of_all hbr
        have B_8 := B_7.trans (hbr.mono B_7.size)
        clear X_7 Y_7 c_7 s_7 t_7 d_7 p_7 q_7 B_7 hbr
        rw [mulQ_of (unhide Hs) (unhide Hc)] at hNr
        have hle : val fX mX ≤ val fs ns ∧ val fY mY ≤ val fs ns := by rw [unhide HVs]; omega
        have HM := hide (prods hle.1 hle.2 (by omega) hNp hNq hNr hCs.digs hCc.digs)
        go_wp2_with fail
        refine (sameInts_any Ad gd 0 nd capd fd aX gX 0 mX cX fX _ d_8 X_8 (by omega)).mono ?_
        rintro e w9' ⟨rfl, q, rfl⟩
        rw [same_of hCd cX' (unhide HVd)]
        have hbq := below_drewN (Below.refl w8.heap.size w8) q
        have X_9 := X_8.of_all hbq
        have Y_9 := Y_8.of_all hbq
        have c_9 := c_8.of_all hbq
        have s_9 := s_8.of_all hbq
        have t_9 := t_8.of_all hbq
        have d_9 := d_8.of_all hbq
        have p_9 := p_8.of_all hbq
        have q_9 := q_8.of_all hbq
        have r_9 := r_8.of_all hbq
        have B_9 := B_8.trans (hbq.mono B_8.size)
        clear X_8 Y_8 c_8 s_8 t_8 d_8 p_8 q_8 r_8 B_8 hbq
        generalize w8.drewN q = w9 at *
        go_wp2_with fail
        refine (sameInts_any _ gs 0 ns caps fs At gt 0 nt capt ft _ s_9 t_9 (by omega)).mono ?_
        rintro e w10' ⟨rfl, q, rfl⟩
        rw [same_of hCs hCt (by rw [unhide HVs, unhide HVt]; omega)]
        have hbq := below_drewN (Below.refl w9.heap.size w9) q
        have X_10 := X_9.of_all hbq
        have Y_10 := Y_9.of_all hbq
        have c_10 := c_9.of_all hbq
        have s_10 := s_9.of_all hbq
        have t_10 := t_9.of_all hbq
        have d_10 := d_9.of_all hbq
        have p_10 := p_9.of_all hbq
        have q_10 := q_9.of_all hbq
        have r_10 := r_9.of_all hbq
        have B_10 := B_9.trans (hbq.mono B_9.size)
        clear X_9 Y_9 c_9 s_9 t_9 d_9 p_9 q_9 r_9 B_9 hbq
        generalize w9.drewN q = w10 at *
        have hcmp : cmpQ ns fs mX fX = cmpV (val fs ns) (val fX mX) := by simp [cmpQ, unhide Hs, unhide Hok]
        have hcn : ¬ cmpV (val fs ns) (val fX mX) < 0 := by unfold cmpV; split <;> (try split) <;> omega
        go_wp2_with fail
        refine (implNatCompare_any _ gs 0 ns caps fs aX gX 0 mX cX fX _ s_10 X_10 (by omega) (by omega)).mono ?_
        rintro e w11 ⟨rfl, hQ⟩
        have hbq := hQ.below w10.heap.size
        clear hQ
        have X_11 := X_10.of_all hbq
        have Y_11 := Y_10.of_all hbq
        have c_11 := c_10.of_all hbq
        have s_11 := s_10.of_all hbq
        have t_11 := t_10.of_all hbq
        have d_11 := d_10.of_all hbq
        have p_11 := p_10.of_all hbq
        have q_11 := q_10.of_all hbq
        have r_11 := r_10.of_all hbq
        have B_11 := B_10.trans (hbq.mono B_10.size)
        clear X_10 Y_10 c_10 s_10 t_10 d_10 p_10 q_10 r_10 B_10 hbq 
        rw [hcmp]
        clear hcmp
        generalize cmpV (val fs ns) (val fX mX) = cc at *
        rcases unhide HM with ⟨hall, hlong⟩ | ⟨rfl, rfl, rfl, hsum⟩
        · have hlong' : (64 : Int) < (ns : Int) + (nc : Int) := by omega
          cases okp
          · go_wp2
            go_ret
            exact ⟨rfl, B_11⟩
          · cases okq
            · go_wp2
              go_ret
              exact ⟨rfl, B_11⟩
            · obtain rfl : okr = false := by simpa using hall
              go_wp2
              go_ret
              exact ⟨rfl, B_11⟩
        · obtain ⟨hp1, hVp, _⟩ := fit_some hNp rfl
          obtain ⟨hq1, hVq, _⟩ := fit_some hNq rfl
          obtain ⟨hr1, hVr, hfr⟩ := fit_some hNr rfl
          have Hp := hide hp1
          have Hq := hide hq1
          have HVr := hide hVr
          have hCr := canon_of hr1
          have HE := hide (show val fp np + val fq nq = val fs ns * val fc nc by rw [hVp, hVq, unhide HVs]; rw [Int.add_mul])
          clear hp1 hq1 hr1 hVp hVq hVr
          go_wp2_with fail
          refine (implNatAdd_any Ap gp 0 np capp fp Aq gq 0 nq capq fq _ p_11 q_11 (by omega) (by omega)).mono ?_
          rintro e w12 ⟨Au, gu, capu, nu, fu, oku, rfl, hnu, hNu, hgu, hOu, hbu⟩
          have u_12 := hOu.toSeg
          clear hOu hgu
          have X_12 := X_11.of_all hbu
          have Y_12 := Y_11.of_all hbu
          have c_12 := c_11.of_all hbu
          have s_12 := s_11.of_all hbu
          have t_12 := t_11.of_all hbu
          have d_12 := d_11.of_all hbu
          have p_12 := p_11.of_all hbu
          have q_12 := q_11.of_all hbu
          have r_12 := r_11.of_all hbu
          have B_12 := B_11.trans (hbu.mono B_11.size)
          clear X_11 Y_11 c_11 s_11 t_11 d_11 p_11 q_11 r_11 B_11 hbu
          rw [addQ_of (unhide Hp) (unhide Hq), unhide HE] at hNu
          have hoku : oku = true := by
            cases oku
            · exact absurd hfr (fit_none hNu rfl)
            · rfl
          obtain ⟨hu1, hVu, _⟩ := fit_some hNu hoku
          subst hoku
          have hCu := canon_of hu1
          have HVu := hide hVu
          clear hNu hu1 hVu hfr hcn
          go_wp2_with fail
          refine (sameInts_any Au gu 0 nu capu fu Ar gr 0 nr capr fr _ u_12 r_12 (by omega)).mono ?_
          rintro e w13' ⟨rfl, q, rfl⟩
          rw [same_of hCu hCr (by rw [unhide HVu, unhide HVr])]
          have hbq := below_drewN (Below.refl w12.heap.size w12) q
          have X_13 := X_12.of_all hbq
          have Y_13 := Y_12.of_all hbq
          have c_13 := c_12.of_all hbq
          have s_13 := s_12.of_all hbq
          have t_13 := t_12.of_all hbq
          have d_13 := d_12.of_all hbq
          have p_13 := p_12.of_all hbq
          have q_13 := q_12.of_all hbq
          have r_13 := r_12.of_all hbq
          have u_13 := u_12.of_all hbq
          have B_13 := B_12.trans (hbq.mono B_12.size)
          clear X_12 Y_12 c_12 s_12 t_12 d_12 p_12 q_12 r_12 u_12 B_12 hbq
          generalize w12.drewN q = w13 at *
          go_wp2
          go_ret
          exact ⟨rfl, B_13⟩

theorem walk (a0 : Option Addr) (len0 cap0 : Nat) (z0 : List Int) (w : World) (w0 : IsRow .u8 w a0 len0 cap0 z0) :
    Calls Try.prog 3 #[.slice a0 len0 cap0] w fun e w' => e = .returned (.bool true) ∧ Below w.heap.size w w' := by
  obtain ⟨b, off, hs, hB⟩ := w0.seg
  by_cases hn : len0 ≤ 1048576
  · exact law a0 b off len0 cap0 _ w hs hB hn
  · exact law_bad a0 b off len0 cap0 _ w hs hB hn

/-! ### THE ROW's STEP: WRITTEN OUT: LEAVE IT -/
set_option maxRecDepth 100000 in
theorem lifted (os : Os) (started : os.Started) (H : Type) (enc : TypeId × Value → H) :
    ReturnsInHanded {} Try.checked os 3 .any (Rows.fnSumsSpec.pre6 enc Try.prog Try.f3 Rows.fnSumsRow.domain false) (Rows.fnSumsSpec.post enc Try.prog Try.f3 false true false false) := by
  refine returnsInHanded_of_change (C := Try.checked) own started (by kernel_rfl) Try.func3
    (ChangeSpec.witness6 (enc := enc) (C := Try.checked) false ⟨#[], #[.slice none 0 0], []⟩ 8 (by kernel_rfl) (by kernel_rfl) (by kernel_rfl) (by kernel_rfl)) ?_
  intro W base args ds gs before hval0 hW hcnd _
  have hval : ∀ (j : Nat) t v, Try.f3.params[j]? = some t → args[j]? = some v → Value.okWide Try.prog W .any base t v := hval0
  have hW' := hW
  obtain ⟨p, q, hA0, hV, rfl, hfz, hnd⟩ := hW
  have hA : DataW.TrodAll enc Try.prog W 0 (fun _ => true) true Try.f3.params.toList args.toList ds p := hA0
  rw [Try.params3] at hA hval
  obtain ⟨v0, vs0, d0, ds0, p0, q0, hargs, rfl, rfl, h0, r0⟩ := trodAll_cons hA
  obtain ⟨rfl, rfl, rfl⟩ := trodAll_nil r0
  obtain rfl : args = #[v0] := by cases args; simp_all
  obtain ⟨rfl, rfl⟩ := trodVars_none hV
  obtain ⟨a0, len0, cap0, rfl⟩ := okWide_slice Try.underlying22 (hval 0 22 v0 rfl rfl)
  have k0 := h0
  have lt0 : ∀ x ∈ p0, x.block < W.heap.size := by obtain ⟨m, hm⟩ := k0; exact DataW.trod_lt m _ _ _ hm
  obtain ⟨z0, w0⟩ : ∃ zs, IsRow .u8 W a0 len0 cap0 zs := by
    obtain ⟨fuel, hf⟩ := h0
    rcases open_ints Try.underlying22 Try.underlying5 (by kernel_rfl) hf with ⟨hcs, _⟩ | ⟨x, l, c, zs, hcs, _, hl, hm, hz, _, hcell, hwz⟩
    · simp [Value.cells] at hcs
      obtain ⟨rfl, rfl, rfl⟩ := hcs
      exact ⟨[], .inl ⟨rfl, rfl, rfl, rfl⟩⟩
    · simp [Value.cells] at hcs
      obtain ⟨rfl, rfl, rfl⟩ := hcs
      exact ⟨zs, .inr ⟨_, rfl, hl, hm, by simpa using hz, hcell, hwz⟩⟩
  clear hA0 hval0
  refine (walk a0 len0 cap0 z0 W w0).mono fun e W' ⟨he, bel⟩ => ?_
  subst he
  exact ⟨_, rfl, _, _, _, [], _, [], hW', trodAll_mk1 (shut_bool Try.underlying4 _), (trodAll_cons_mk (Below.trod laidOut (by kernel_rfl) (of_decide_eq_true (by kernel_rfl)) k0 bel lt0) trodAll_mk0), rfl, bel.frame _, fun h => by cases h⟩

theorem over : Rows.fnSumsRow.holds Try.pinned (OpenSpec.ofChange Rows.fnSumsSpec) :=
  OpenClaim.holds_of_wide 3 Try.f3 rfl rfl rfl rfl rfl rfl rfl ⟨rfl, rfl, rfl, rfl, rfl⟩ rfl rfl rfl rfl rfl (by kernel_rfl) Try.func3 (by kernel_rfl)
    (of_decide_eq_true (by kernel_rfl)) (by unfold Func.isWrapper; first | (rw [if_pos (by decide +kernel)]; kernel_rfl) | (rw [if_neg (by decide +kernel)]; exact ⟨rfl, rfl⟩))
    (fun os started H enc _ => lifted os started H enc)

/-- ████ THE STATEMENT ████ -/
theorem proved : Rows.FnSumsSaid := over
end Go.Proofs.Ytmkmojcefgcmlaa.fnSums

namespace Go.Proofs.Ytmkmojcefgcmlaa
/-- The given statement. -/
theorem fnSums_holds : Rows.FnSumsSaid := fnSums.proved
#print axioms fnSums_holds
end Go.Proofs.Ytmkmojcefgcmlaa
