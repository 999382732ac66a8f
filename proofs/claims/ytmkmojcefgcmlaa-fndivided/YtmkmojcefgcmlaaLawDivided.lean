/- Proved: at every list of bytes handed to it the law FnDivided answers true and leaves its argument as it was: of the two lists that are drawn of at most 1048576 bytes, where they are naturals and the second is not 0, the first is the second as often as told and what is left, which is less; its bytes are it again, and it has no fewer; a small number comes back from its natural (beyond that length the law itself answers true at once). No condition. -/
import Derived.Test.YtmkmojcefgcmlaaRows
import Derived.WalkKit
import Derived.ProofKit
import Derived.OpenShut
import Derived.ShutString
import Derived.ChangeOld
import Derived.Below
import Derived.Test.YtmkmojcefgcmlaaDrawEnd
import Derived.Test.YtmkmojcefgcmlaaLists
import Derived.Test.YtmkmojcefgcmlaaSame
import Derived.Test.YtmkmojcefgcmlaaNatAdd
import Derived.Test.YtmkmojcefgcmlaaNatSub
import Derived.Test.YtmkmojcefgcmlaaNatMul
import Derived.Test.YtmkmojcefgcmlaaNatOf2
import Derived.Test.YtmkmojcefgcmlaaNatCmp
import Derived.Test.YtmkmojcefgcmlaaNatOk
import Derived.Test.YtmkmojcefgcmlaaNatDiv
import Derived.Test.YtmkmojcefgcmlaaNatBytes2
import Derived.Test.YtmkmojcefgcmlaaNatRead2
import Derived.Test.YtmkmojcefgcmlaaNatInt2
namespace Go.Proofs.Ytmkmojcefgcmlaa.fnDivided
open Go.ChangeShapes Go.WideShapes Go.ChangeAt Go.RowKit
open Go.ChangeMaps (open_string shut_string)
set_option linter.unusedVariables false

theorem own : ownKnob Try.prog.godebug = none := by kernel_rfl
theorem laidOut : laidOutB Try.prog = true := by kernel_rfl

/-- WHAT THE WALK IS TOLD OF A SLICE OF INTEGERS THAT CAME IN: it is nil; or it leads to a row of 'cap' cells, the numbers 'zs' (the first 'len' are its elements, the rest its spare room), each fitting its kind. -/
def IsRow (k : IntKind) (w : World) (a : Option Addr) (len cap : Nat) (zs : List Int) : Prop :=
  (a = none ∧ len = 0 ∧ cap = 0 ∧ zs = []) ∨
  ∃ x, a = some x ∧ len ≤ cap ∧ cap ≤ maxLen ∧ zs.length = cap ∧ (∀ i, i < zs.length → w.cell? (x.add i) = some (.int k (zs.getD i 0))) ∧ ∀ n ∈ zs, (Lit.int k n).wf = true

theorem IsRow.seg {w : World} {a : Option Addr} {len cap : Nat} {zs : List Int} (h : IsRow .u8 w a len cap zs) : ∃ b off, BSeg w a b off len (fun i => zs.getD i 0) ∧ (∀ i, i < len → 0 ≤ zs.getD i 0 ∧ zs.getD i 0 ≤ 255) := by
  rcases h with ⟨rfl, rfl, rfl, rfl⟩ | ⟨x, rfl, hl, hm, hz, hcell, hwz⟩
  · exact ⟨0, 0, ⟨fun h => absurd h (Nat.lt_irrefl _), fun i hi => absurd hi (Nat.not_lt_zero _)⟩, fun i hi => absurd hi (Nat.not_lt_zero _)⟩
  · obtain ⟨b, off, spot⟩ := x
    by_cases h0 : len = 0
    · subst h0
      exact ⟨0, 0, ⟨fun h => absurd h (Nat.lt_irrefl _), fun i hi => absurd hi (Nat.not_lt_zero _)⟩, fun i hi => absurd hi (Nat.not_lt_zero _)⟩
    · have hspot : spot = none := by simpa [Addr.add] using World.cell?_spot (hcell 0 (by omega))
      subst hspot
      exact ⟨b, off, ⟨fun _ => rfl, fun i hi => by
        have h := hcell i (by omega)
        have e : Addr.add ⟨b, off, none⟩ i = ⟨b, off + i, none⟩ := by
          by_cases h0 : i = 0
          · subst h0; simp [Addr.add]
          · simp [Addr.add, h0]
        rwa [e] at h⟩, fun i hi => by
        have hm : zs.getD i 0 ∈ zs := by
          rw [List.getD_eq_getElem?_getD, List.getElem?_eq_getElem (show i < zs.length by omega)]
          exact List.getElem_mem _
        have := bounds_u8 (hwz _ hm)
        show 0 ≤ zs.getD i 0 ∧ zs.getD i 0 ≤ 255
        omega⟩



theorem hide {p : Prop} (h : p) : Hid p := h
theorem unhide {p : Prop} (h : Hid p) : p := h

theorem big_any (a : Option Addr) (n cap : Nat) (w : World) (hn : n ≤ 1048576) : Calls Try.prog 8 #[.slice a n cap] w fun e w' => e = .returned (.bool false) ∧ w' = w := by
  have h : ¬ (1048576 : Int) < (n : Int) := by omega
  go_enter Try.func8, Try.ntmps8
  go_wp2
  go_ret
  exact ⟨rfl, rfl⟩

theorem big_long (a : Option Addr) (n cap : Nat) (w : World) (hn : ¬ n ≤ 1048576) : Calls Try.prog 8 #[.slice a n cap] w fun e w' => e = .returned (.bool true) ∧ w' = w := by
  have h : (1048576 : Int) < (n : Int) := by omega
  go_enter Try.func8, Try.ntmps8
  go_wp2
  go_ret
  exact ⟨rfl, rfl⟩

theorem natOk_of {n : Nat} {f : Nat → Int} (h : Canon n f) (hn : n ≤ 64) : natOk n f = true := (natOk_iff n f).2 ⟨h.digs, hn, h.last⟩

theorem canon_of {n : Nat} {f : Nat → Int} (h : natOk n f = true) : Canon n f := ⟨((natOk_iff n f).1 h).1, ((natOk_iff n f).1 h).2.2⟩

/-- Two canonical lists of one value are alike. -/
theorem same_of {n m : Nat} {f g : Nat → Int} (hf : Canon n f) (hg : Canon m g) (h : val f n = val g m) : (n == m && alike f g n) = true := by
  obtain ⟨rfl, e⟩ := canon_unique hf hg h
  simp [(alike_iff f g n).2 e]

theorem addQ_of {n m : Nat} {f g : Nat → Int} (hf : natOk n f = true) (hg : natOk m g = true) : addQ n f m g = fitQ (val f n + val g m) := by simp [addQ, hf, hg]
theorem mulQ_of {n m : Nat} {f g : Nat → Int} (hf : natOk n f = true) (hg : natOk m g = true) : mulQ n f m g = fitQ (val f n * val g m) := by simp [mulQ, hf, hg]

/-- What fits has at most 64 digits, and is a natural. -/
theorem fit_some {x : Int} {n : Nat} {f : Nat → Int} {ok : Bool} (h : IsNat (fitQ x) n f ok) (hok : ok = true) : natOk n f = true ∧ val f n = x ∧ x < pw 64 := by
  unfold fitQ at h
  by_cases c : x < pw 64
  · rw [if_pos c] at h
    exact ⟨natOk_of h.1 ((canon_len h.1 64).2 (by rw [h.2.1]; exact c)), h.2.1, c⟩
  · rw [if_neg c] at h
    have := h.2
    rw [hok] at this
    exact absurd this (by decide)

theorem fit_none {x : Int} {n : Nat} {f : Nat → Int} {ok : Bool} (h : IsNat (fitQ x) n f ok) (hok : ok = false) : ¬ x < pw 64 := by
  unfold fitQ at h
  intro c
  rw [if_pos c] at h
  have := h.2.2
  rw [hok] at this
  exact absurd this (by decide)

theorem byte_mul {x y : Int} (x0 : 0 ≤ x) (x1 : x ≤ 255) (y0 : 0 ≤ y) (y1 : y ≤ 255) : 0 ≤ x * y ∧ x * y ≤ 65025 := by
  have a := Int.mul_le_mul_of_nonneg_right x1 y0
  exact ⟨Int.mul_nonneg x0 y0, by omega⟩

theorem byt_bd {n : Nat} {f : Nat → Int} (h : Digs f n) (i : Nat) : 0 ≤ byt n f i ∧ byt n f i ≤ 255 := by
  have := ext_bd h (i / 2)
  unfold byt
  by_cases e : i % 2 = 0
  · rw [if_pos e]; omega
  · rw [if_neg e]; omega

theorem bitLen_small (x : Int) (h0 : 0 ≤ x) (h1 : x ≤ 65535) (h : Lib.bitLen x.toNat ≤ 8) : x / 256 = 0 := by
  by_cases c : 256 ≤ x
  · have := Lib.bitLen_shift8 x.toNat (by omega) (by omega)
    have h2 : 1 ≤ Lib.bitLen (x.toNat / 256) := by rw [Lib.bitLen_half (x.toNat / 256) (by omega) (by omega)]; omega
    omega
  · omega

theorem bitLen_pos (x : Int) (h0 : 0 < x) (h1 : x ≤ 65535) : 1 ≤ Lib.bitLen x.toNat := by
  rw [Lib.bitLen_half x.toNat (by omega) (by omega)]; omega

/-- How many bytes a natural needs. -/
theorem bytes_need {n : Nat} {f : Nat → Int} {k : Nat} (hok : natOk n f = true) (h1 : bitsOf n f ≤ 8 * (k : Int)) : n ≤ (k + 1) / 2 ∧ ∀ i, k ≤ i → byt n f i = 0 := by
  obtain ⟨hd, h64, hl⟩ := (natOk_iff n f).1 hok
  by_cases h0 : n = 0
  · subst h0
    refine ⟨by omega, fun i _ => ?_⟩
    have : ext 0 f (i / 2) = 0 := ext_out (by omega)
    unfold byt
    rw [this]; simp
  · have d := hd (n - 1) (by omega)
    have hl' := hl.resolve_left h0
    have b1 := bitLen_pos (f (n - 1)) (by omega) d.2
    simp only [bitsOf, if_neg h0] at h1
    refine ⟨by omega, fun i hi => ?_⟩
    by_cases c : n ≤ i / 2
    · have : ext n f (i / 2) = 0 := ext_out c
      unfold byt
      rw [this]; simp
    · have e : i / 2 = n - 1 := by omega
      have o : i % 2 = 1 := by omega
      have b8 : Lib.bitLen (f (n - 1)).toNat ≤ 8 := by omega
      unfold byt
      rw [if_neg (by omega), e, ext_in (by omega)]
      exact bitLen_small _ d.1 d.2 b8

/-- Bytes come back. -/
theorem bytes_back {n : Nat} {f : Nat → Int} {k : Nat} (hok : natOk n f = true) (h1 : bitsOf n f ≤ 8 * (k : Int)) : val (rd k (fun p => byt n f (k - 1 - p))) ((k + 1) / 2) = val f n := by
  obtain ⟨hL, hz⟩ := bytes_need hok h1
  have e : ∀ j, rd k (fun p => byt n f (k - 1 - p)) j = ext n f j := by
    intro j
    have rbe : ∀ i, rb k (fun p => byt n f (k - 1 - p)) i = byt n f i := by
      intro i
      unfold rb
      by_cases c : i < k
      · rw [if_pos c]
        show byt n f (k - 1 - (k - 1 - i)) = _
        rw [show k - 1 - (k - 1 - i) = i by omega]
      · rw [if_neg c, hz i (by omega)]
    unfold rd
    rw [rbe, rbe]
    unfold byt
    rw [if_pos (by omega), if_neg (by omega), show 2 * j / 2 = j by omega, show (2 * j + 1) / 2 = j by omega]
    omega
  rw [val_congr (fun i _ => e i), val_ext hL]

theorem bits_le {n : Nat} {f : Nat → Int} (hok : natOk n f = true) : 0 ≤ bitsOf n f ∧ bitsOf n f ≤ 1024 := by
  obtain ⟨hd, h64, hl⟩ := (natOk_iff n f).1 hok
  by_cases h0 : n = 0
  · subst h0; simp [bitsOf]
  · have d := hd (n - 1) (by omega)
    have b := bitLen_le16 (f (n - 1)) d.1 d.2
    simp only [bitsOf, if_neg h0]
    omega

theorem bytB_yes {n : Nat} {f : Nat → Int} {k : Nat} (hok : natOk n f = true) (hk : k ≤ 128) (h1 : bitsOf n f ≤ 8 * (k : Int)) : bytB n f k = true := by
  unfold bytB
  rw [hok]
  simp [h1]
  omega

theorem bytB_no {n : Nat} {f : Nat → Int} {z : Int} (h1 : ¬ bitsOf n f ≤ 8 * z) : bytB n f z = false := by
  unfold bytB
  simp [h1]

theorem bytes_yes (a : Option Addr) (b off n cap : Nat) (f : Nat → Int) (k : Nat) (w : World) (hs : Seg w a b off n f) (hn : n ≤ 1048576) (hby : bytB n f k = true) :
    Calls Try.prog 23 #[.slice a n cap, .int .i64 (k : Int)] w fun e w' => GivesB w k (fun p => byt n f (k - 1 - p)) true e w' :=
  (implNatBytes_any a b off n cap f (k : Int) w hs hn).mono (fun e w' h => by
    unfold GivesBytes at h
    rw [hby] at h
    simpa using h)

theorem bytes_no (a : Option Addr) (b off n cap : Nat) (f : Nat → Int) (z : Int) (w : World) (hs : Seg w a b off n f) (hn : n ≤ 1048576) (hby : bytB n f z = false) :
    Calls Try.prog 23 #[.slice a n cap, .int .i64 z] w fun e w' => GivesB w 0 (fun p => byt n f (z.toNat - 1 - p)) false e w' :=
  (implNatBytes_any a b off n cap f z w hs hn).mono (fun e w' h => by
    unfold GivesBytes at h
    rw [hby] at h
    simpa using h)

theorem small_of {n : Nat} {f : Nat → Int} (hc : Canon n f) (h : val f n < 281474976710656) : smallB n f = true := by
  have e : pw 3 = 281474976710656 := by simp [pw]
  have := (canon_len hc 3).2 (by omega)
  simp [smallB]
  omega

set_option maxHeartbeats 8000000 in
set_option maxRecDepth 100000 in
theorem law_bad (a : Option Addr) (b off n cap : Nat) (f : Nat → Int) (w : World) (hs : BSeg w a b off n f) (hB : ∀ i, i < n → 0 ≤ f i ∧ f i ≤ 255) (hn : ¬ n ≤ 1048576) :
    Calls Try.prog 4 #[.slice a n cap] w fun e w' => e = .returned (.bool true) ∧ Below w.heap.size w w' := by
  go_enter Try.func4, Try.ntmps4
  go_wp2_with fail
  refine (big_long a n cap _ hn).mono ?_
  rintro e w' ⟨rfl, hw⟩
  obtain rfl := hw.symm
  go_wp2
  go_ret
  exact ⟨rfl, Below.refl _ _⟩

set_option maxHeartbeats 8000000 in
set_option maxRecDepth 100000 in
theorem law (a : Option Addr) (b off n cap : Nat) (f : Nat → Int) (w : World) (hs : BSeg w a b off n f) (hB : ∀ i, i < n → 0 ≤ f i ∧ f i ≤ 255) (hn : n ≤ 1048576) :
    Calls Try.prog 4 #[.slice a n cap] w fun e w' => e = .returned (.bool true) ∧ Below w.heap.size w w' := by
  go_enter Try.func4, Try.ntmps4
  go_wp2_with fail
  refine (big_any a n cap _ hn).mono ?_
  rintro e w' ⟨rfl, hw⟩
  obtain rfl := hw.symm
  go_wp2_with fail
  refine (drawNatDiv_any a b off n cap f _ hs hB hn).mono ?_
  rintro e w1 ⟨aX, gX, cX, mX, fX, aY, gY, cY, mY, fY, rfl, hmX, hmY, X_1, Y_1, B_1⟩
  go_wp2_with fail
  refine (implNatDiv_any aX gX 0 mX cX fX aY gY 0 mY cY fY _ X_1 Y_1 (by omega) (by omega)).mono ?_
  rintro e w2 ⟨Aq, gq, cq, nq, fq, Ar, gr, cr, nr, fr, okd, rfl, hnq, hnr, hD, _, _, _, hOq, hOr, hb⟩
  have q_2 := hOq.toSeg
  have r_2 := hOr.toSeg
  have X_2 := X_1.of_all hb
  have Y_2 := Y_1.of_all hb
  have B_2 := B_1.trans (hb.mono B_1.size)
  clear hOq hOr X_1 Y_1 B_1 hb
  go_wp2_with fail
  refine (specNatDiv_any aX gX 0 mX cX fX aY gY 0 mY cY fY _ X_2 Y_2 (by omega) (by omega)).mono ?_
  rintro e w3 ⟨Au, gu, cu, nu, fu, Av, gv, cv, nv, fv, okd2, rfl, hnu, hnv, hD2, _, _, _, _, _, hb⟩
  have q_3 := q_2.of_all hb
  have r_3 := r_2.of_all hb
  have X_3 := X_2.of_all hb
  have Y_3 := Y_2.of_all hb
  have B_3 := B_2.trans (hb.mono B_2.size)
  obtain rfl : okd = okd2 := hD.1.trans hD2.1.symm
  clear hD2 q_2 r_2 X_2 Y_2 B_2 hb
  cases okd with
  | false =>
    obtain ⟨rfl, rfl⟩ := hD.2.1 rfl
    clear hD
    go_wp2
    go_ret
    exact ⟨rfl, B_3⟩
  | true =>
    obtain ⟨hCq, hVq, hCr, hVr⟩ := hD.2.2 rfl
    have hdb := hD.1
    clear hD
    simp only [divB, Bool.true_eq, Bool.and_eq_true, Bool.not_eq_true', beq_eq_false_iff_ne] at hdb
    obtain ⟨⟨hok, hok2⟩, hne0⟩ := hdb
    have cX' := canon_of hok
    have cY' := canon_of hok2
    have lX : mX ≤ 64 := ((natOk_iff mX fX).1 hok).2.1
    have lY : mY ≤ 64 := ((natOk_iff mY fY).1 hok2).2.1
    have vX := val_bd cX'.digs
    have vY := canon_pos cY' (by omega)
    have pX := pw_le lX
    have d0 := Int.ediv_nonneg vX.1 (Int.le_of_lt vY)
    have d1 := Int.ediv_le_self (val fY mY) vX.1
    have m0 := Int.emod_nonneg (val fX mX) (show val fY mY ≠ 0 by omega)
    have m1 := Int.emod_lt_of_pos (val fX mX) vY
    have hde := Int.emod_add_mul_ediv (val fX mX) (val fY mY)
    have hmul : val fq nq * val fY mY ≤ val fX mX := by
      rw [hVq]
      have := Int.mul_ediv_self_le (x := val fX mX) (k := val fY mY) (by omega)
      rw [Int.mul_comm]; exact this
    have lq : nq ≤ 64 := (canon_len hCq 64).2 (by rw [hVq]; omega)
    have pY := pw_le lY
    have bY := (val_bd cY'.digs).2
    have lr : nr ≤ 64 := (canon_len hCr 64).2 (by rw [hVr]; omega)
    have Hq := hide (natOk_of hCq lq)
    have Hr := hide (natOk_of hCr lr)
    have HE := hide (show val fq nq * val fY mY + val fr nr = val fX mX by rw [hVq, hVr, Int.mul_comm]; omega)
    have HrY := hide (show val fr nr < val fY mY by rw [hVr]; exact m1)
    have Hok := hide hok
    have Hok2 := hide hok2
    have HbX := hide (bits_le hok)
    clear hVq hVr hok hok2 d0 d1 m0 m1 hde lq lr
    go_wp2_with fail
    refine (implNatMul_any Aq gq 0 nq cq fq aY gY 0 mY cY fY _ q_3 Y_3 (by omega) (by omega)).mono ?_
    rintro e w4 ⟨Ap, gp, capp, np, fp, okp, rfl, hnp, hNp, hgp, hOp, hbp⟩
    have p_4 := hOp.toSeg
    clear hOp hgp
    have X_4 := X_3.of_all hbp
    have Y_4 := Y_3.of_all hbp
    have q_4 := q_3.of_all hbp
    have r_4 := r_3.of_all hbp
    have B_4 := B_3.trans (hbp.mono B_3.size)
    clear X_3 Y_3 q_3 r_3 B_3 hbp
    rw [mulQ_of (unhide Hq) (unhide Hok2)] at hNp
    have hokp : okp = true := by
      cases okp
      · exact absurd (show val fq nq * val fY mY < pw 64 by omega) (fit_none hNp rfl)
      · rfl
    obtain ⟨hp1, hVp, _⟩ := fit_some hNp hokp
    subst hokp
    have Hp := hide hp1
    have HVp := hide hVp
    clear hNp hp1 hVp
    go_wp2_with fail
    refine (implNatAdd_any Ap gp 0 np capp fp Ar gr 0 nr cr fr _ p_4 r_4 (by omega) (by omega)).mono ?_
    rintro e w5 ⟨As, gs, caps, ns, fs, oks, rfl, hns, hNs, hgs, hOs, hbs⟩
    have s_5 := hOs.toSeg
    clear hOs hgs
    have X_5 := X_4.of_all hbs
    have Y_5 := Y_4.of_all hbs
    have q_5 := q_4.of_all hbs
    have r_5 := r_4.of_all hbs
    have p_5 := p_4.of_all hbs
    have B_5 := B_4.trans (hbs.mono B_4.size)
    clear X_4 Y_4 q_4 r_4 p_4 B_4 hbs
    rw [addQ_of (unhide Hp) (unhide Hr), unhide HVp, unhide HE] at hNs
    have hoks : oks = true := by
      cases oks
      · exact absurd (show val fX mX < pw 64 by omega) (fit_none hNs rfl)
      · rfl
    obtain ⟨hs1, hVs, _⟩ := fit_some hNs hoks
    subst hoks
    have hCs := canon_of hs1
    have HVs := hide hVs
    clear hNs hs1 hVs
    go_wp2_with fail
    refine (sameInts_any As gs 0 ns caps fs aX gX 0 mX cX fX _ s_5 X_5 (by omega)).mono ?_
    rintro e w6' ⟨rfl, q, rfl⟩
    rw [same_of hCs cX' (unhide HVs)]
    have hbq := below_drewN (Below.refl w5.heap.size w5) q
    have X_6 := X_5.of_all hbq
    have Y_6 := Y_5.of_all hbq
    have q_6 := q_5.of_all hbq
    have r_6 := r_5.of_all hbq
    have p_6 := p_5.of_all hbq
    have s_6 := s_5.of_all hbq
    have B_6 := B_5.trans (hbq.mono B_5.size)
    clear X_5 Y_5 q_5 r_5 p_5 s_5 B_5 hbq
    generalize w5.drewN q = w6 at *
    have hcmp : cmpQ nr fr mY fY = -1 := by simp [cmpQ, unhide Hr, unhide Hok2]; exact cmpV_lt (unhide HrY)
    go_wp2_with fail
    refine (implNatCompare_any Ar gr 0 nr cr fr aY gY 0 mY cY fY _ r_6 Y_6 (by omega) (by omega)).mono ?_
    rintro e w7 ⟨rfl, hQ⟩
    have hbq := hQ.below w6.heap.size
    clear hQ
    have X_7 := X_6.of_all hbq
    have Y_7 := Y_6.of_all hbq
    have q_7 := q_6.of_all hbq
    have r_7 := r_6.of_all hbq
    have p_7 := p_6.of_all hbq
    have s_7 := s_6.of_all hbq
    have B_7 := B_6.trans (hbq.mono B_6.size)
    clear X_6 Y_6 q_6 r_6 p_6 s_6 B_6 hbq 
    rw [hcmp]
    clear hcmp
    have hbq : bitsQ mX fX = bitsOf mX fX := by simp [bitsQ, unhide Hok]
    go_wp2_with fail
    refine (implNatBits_any aX gX 0 mX cX fX _ X_7 (by omega)).mono ?_
    rintro e w' ⟨rfl, hw⟩
    obtain rfl := hw.symm
    rw [hbq]
    clear hbq
    obtain ⟨bz0, bz1⟩ := unhide HbX
    obtain ⟨bt, hbt⟩ : ∃ bt, bt = bitsOf mX fX := ⟨_, rfl⟩
    rw [← hbt] at bz0 bz1
    rw [← hbt]
    have Hbt := hide hbt
    clear hbt HbX
    obtain ⟨k, hk⟩ := Int.eq_ofNat_of_zero_le (show 0 ≤ (bt + 7) / 8 by omega)
    have hk128 : k ≤ 128 := by omega
    have Hle := hide (show bitsOf mX fX ≤ 8 * (k : Int) by rw [← unhide Hbt]; omega)
    have Hno := hide (bytB_no (n := mX) (f := fX) (z := (k : Int) - 1) (show ¬ bitsOf mX fX ≤ 8 * ((k : Int) - 1) by rw [← unhide Hbt]; omega))
    have Hby := hide (bytB_yes (unhide Hok) hk128 (unhide Hle))
    go_wp2_with fail
    refine (bytes_yes aX gX 0 mX cX fX k _ X_7 (by omega) (unhide Hby)).mono ?_
    rintro e w8 ⟨At, gt, ct, rfl, hgt, hOt, hbt⟩
    have t_8 := hOt.toBSeg
    have X_8 := X_7.of_all hbt
    have Y_8 := Y_7.of_all hbt
    have q_8 := q_7.of_all hbt
    have r_8 := r_7.of_all hbt
    have p_8 := p_7.of_all hbt
    have s_8 := s_7.of_all hbt
    have B_8 := B_7.trans (hbt.mono B_7.size)
    clear X_7 Y_7 q_7 r_7 p_7 s_7 B_7 hbt hOt hgt
    go_wp2_with fail
    refine (implNatRead_any At gt 0 k ct _ _ t_8 (by omega) (fun i _ => byt_bd cX'.digs _)).mono ?_
    rintro e w9 ⟨Az, gz, capz, nz, fz, okz, rfl, hnz, hNz, hgz, hOz, hbz⟩
    have z_9 := hOz.toSeg
    clear hOz hgz
    have X_9 := X_8.of_all hbz
    have Y_9 := Y_8.of_all hbz
    have q_9 := q_8.of_all hbz
    have r_9 := r_8.of_all hbz
    have p_9 := p_8.of_all hbz
    have s_9 := s_8.of_all hbz
    have B_9 := B_8.trans (hbz.mono B_8.size)
    clear X_8 Y_8 q_8 r_8 p_8 s_8 B_8 hbz
    have hrq : readQ k (fun p => byt mX fX (k - 1 - p)) = some (val fX mX) := by rw [readQ, if_pos hk128, bytes_back (unhide Hok) (unhide Hle)]
    rw [hrq] at hNz
    obtain ⟨hCz, hVz, hokz⟩ := hNz
    subst hokz
    have HVz := hide hVz
    clear hVz hrq
    by_cases hk0 : k = 0
    · subst hk0
      have hk' : ¬ (0 : Int) < (bt + 7) / 8 := by rw [hk]; omega
      go_wp2_with fail
      refine (at_any a b off n cap f 0 _ (hs.of_all B_9) hB hn (by omega)).mono ?_
      rintro e w' ⟨x, rfl, x0, x1, hw⟩
      obtain rfl := hw.symm
      go_wp2_with fail
      refine (at_any a b off n cap f 1 _ (hs.of_all B_9) hB hn (by omega)).mono ?_
      rintro e w' ⟨y, rfl, y0, y1, hw⟩
      obtain rfl := hw.symm
      obtain ⟨p10, p11⟩ := byte_mul x0 x1 y0 y1
      go_wp2_with fail
      refine (implNatOf_any (x * y) _ (by omega)).mono ?_
      rintro e w30 ⟨Ao, go, capo, no, fo, oko, rfl, hno, hNo, hgo, hOo, hbo⟩
      have o_30 := hOo.toSeg
      clear hOo hgo
      have X_30 := X_9.of_all hbo
      have Y_30 := Y_9.of_all hbo
      have q_30 := q_9.of_all hbo
      have r_30 := r_9.of_all hbo
      have p_30 := p_9.of_all hbo
      have s_30 := s_9.of_all hbo
      have z_30 := z_9.of_all hbo
      have B_30 := B_9.trans (hbo.mono B_9.size)
      clear X_9 Y_9 q_9 r_9 p_9 s_9 z_9 B_9 hbo
      have hoq : ofQ (x * y) = some (x * y) := by simp [ofQ]; omega
      rw [hoq] at hNo
      obtain ⟨hCo, hVo, hoko⟩ := hNo
      subst hoko
      have e3 : pw 3 = 281474976710656 := by simp [pw]
      have lo : no ≤ 64 := Nat.le_trans ((canon_len hCo 3).2 (by rw [hVo]; omega)) (by omega)
      have hiV : intV no fo = x * y := by unfold intV; rw [natOk_of hCo lo, small_of hCo (by rw [hVo]; omega)]; simpa using hVo
      have hiB : intB no fo = true := by unfold intB; rw [natOk_of hCo lo, small_of hCo (by rw [hVo]; omega)]; rfl
      clear hoq hVo e3
      go_wp2_with fail
      refine (implNatInt_any Ao go 0 no capo fo _ o_30 (by omega)).mono ?_
      rintro e w' ⟨rfl, hw⟩
      obtain rfl := hw.symm
      rw [hiV, hiB]
      clear hiV hiB
      have hxx : (x * y == x * y) = true := by simp
      generalize x * y = xy at *
      go_wp2_with fail
      refine (sameInts_any Az gz 0 nz capz fz aX gX 0 mX cX fX _ z_30 X_30 (by omega)).mono ?_
      rintro e w31' ⟨rfl, q, rfl⟩
      rw [same_of hCz cX' (unhide HVz)]
      have hbq := below_drewN (Below.refl w30.heap.size w30) q
      have X_31 := X_30.of_all hbq
      have Y_31 := Y_30.of_all hbq
      have q_31 := q_30.of_all hbq
      have r_31 := r_30.of_all hbq
      have p_31 := p_30.of_all hbq
      have s_31 := s_30.of_all hbq
      have z_31 := z_30.of_all hbq
      have o_31 := o_30.of_all hbq
      have B_31 := B_30.trans (hbq.mono B_30.size)
      clear X_30 Y_30 q_30 r_30 p_30 s_30 z_30 o_30 B_30 hbq
      generalize w30.drewN q = w31 at *
      go_wp2
      go_ret
      exact ⟨rfl, B_31⟩
    · have hkp : (0 : Int) < (k : Int) := by omega
      go_wp2_with fail
      refine (bytes_no aX gX 0 mX cX fX ((k : Int) - 1) _ X_9 (by omega) (unhide Hno)).mono ?_
      rintro e w10 ⟨Ah, gh, ch, rfl, hgh, hOh, hbh⟩
      clear hgh hOh hk
      have X_10 := X_9.of_all hbh
      have Y_10 := Y_9.of_all hbh
      have q_10 := q_9.of_all hbh
      have r_10 := r_9.of_all hbh
      have p_10 := p_9.of_all hbh
      have s_10 := s_9.of_all hbh
      have z_10 := z_9.of_all hbh
      have B_10 := B_9.trans (hbh.mono B_9.size)
      clear X_9 Y_9 q_9 r_9 p_9 s_9 z_9 B_9 hbh 
      go_wp2_with fail
      refine (at_any a b off n cap f 0 _ (hs.of_all B_10) hB hn (by omega)).mono ?_
      rintro e w' ⟨x, rfl, x0, x1, hw⟩
      obtain rfl := hw.symm
      go_wp2_with fail
      refine (at_any a b off n cap f 1 _ (hs.of_all B_10) hB hn (by omega)).mono ?_
      rintro e w' ⟨y, rfl, y0, y1, hw⟩
      obtain rfl := hw.symm
      obtain ⟨p10, p11⟩ := byte_mul x0 x1 y0 y1
      go_wp2_with fail
      refine (implNatOf_any (x * y) _ (by omega)).mono ?_
      rintro e w30 ⟨Ao, go, capo, no, fo, oko, rfl, hno, hNo, hgo, hOo, hbo⟩
      have o_30 := hOo.toSeg
      clear hOo hgo
      have X_30 := X_10.of_all hbo
      have Y_30 := Y_10.of_all hbo
      have q_30 := q_10.of_all hbo
      have r_30 := r_10.of_all hbo
      have p_30 := p_10.of_all hbo
      have s_30 := s_10.of_all hbo
      have z_30 := z_10.of_all hbo
      have B_30 := B_10.trans (hbo.mono B_10.size)
      clear X_10 Y_10 q_10 r_10 p_10 s_10 z_10 B_10 hbo
      have hoq : ofQ (x * y) = some (x * y) := by simp [ofQ]; omega
      rw [hoq] at hNo
      obtain ⟨hCo, hVo, hoko⟩ := hNo
      subst hoko
      have e3 : pw 3 = 281474976710656 := by simp [pw]
      have lo : no ≤ 64 := Nat.le_trans ((canon_len hCo 3).2 (by rw [hVo]; omega)) (by omega)
      have hiV : intV no fo = x * y := by unfold intV; rw [natOk_of hCo lo, small_of hCo (by rw [hVo]; omega)]; simpa using hVo
      have hiB : intB no fo = true := by unfold intB; rw [natOk_of hCo lo, small_of hCo (by rw [hVo]; omega)]; rfl
      clear hoq hVo e3
      go_wp2_with fail
      refine (implNatInt_any Ao go 0 no capo fo _ o_30 (by omega)).mono ?_
      rintro e w' ⟨rfl, hw⟩
      obtain rfl := hw.symm
      rw [hiV, hiB]
      clear hiV hiB
      have hxx : (x * y == x * y) = true := by simp
      generalize x * y = xy at *
      go_wp2_with fail
      refine (sameInts_any Az gz 0 nz capz fz aX gX 0 mX cX fX _ z_30 X_30 (by omega)).mono ?_
      rintro e w31' ⟨rfl, q, rfl⟩
      rw [same_of hCz cX' (unhide HVz)]
      have hbq := below_drewN (Below.refl w30.heap.size w30) q
      have X_31 := X_30.of_all hbq
      have Y_31 := Y_30.of_all hbq
      have q_31 := q_30.of_all hbq
      have r_31 := r_30.of_all hbq
      have p_31 := p_30.of_all hbq
      have s_31 := s_30.of_all hbq
      have z_31 := z_30.of_all hbq
      have o_31 := o_30.of_all hbq
      have B_31 := B_30.trans (hbq.mono B_30.size)
      clear X_30 Y_30 q_30 r_30 p_30 s_30 z_30 o_30 B_30 hbq
      generalize w30.drewN q = w31 at *
      go_wp2
      go_ret
      exact ⟨rfl, B_31⟩

theorem walk (a0 : Option Addr) (len0 cap0 : Nat) (z0 : List Int) (w : World) (w0 : IsRow .u8 w a0 len0 cap0 z0) :
    Calls Try.prog 4 #[.slice a0 len0 cap0] w fun e w' => e = .returned (.bool true) ∧ Below w.heap.size w w' := by
  obtain ⟨b, off, hs, hB⟩ := w0.seg
  by_cases hn : len0 ≤ 1048576
  · exact law a0 b off len0 cap0 _ w hs hB hn
  · exact law_bad a0 b off len0 cap0 _ w hs hB hn

/-! ### THE ROW's STEP: WRITTEN OUT: LEAVE IT -/
set_option maxRecDepth 100000 in
theorem lifted (os : Os) (started : os.Started) (H : Type) (enc : TypeId × Value → H) :
    ReturnsInHanded {} Try.checked os 4 .any (Rows.fnDividedSpec.pre6 enc Try.prog Try.f4 Rows.fnDividedRow.domain false) (Rows.fnDividedSpec.post enc Try.prog Try.f4 false true false false) := by
  refine returnsInHanded_of_change (C := Try.checked) own started (by kernel_rfl) Try.func4
    (ChangeSpec.witness6 (enc := enc) (C := Try.checked) false ⟨#[], #[.slice none 0 0], []⟩ 8 (by kernel_rfl) (by kernel_rfl) (by kernel_rfl) (by kernel_rfl)) ?_
  intro W base args ds gs before hval0 hW hcnd _
  have hval : ∀ (j : Nat) t v, Try.f4.params[j]? = some t → args[j]? = some v → Value.okWide Try.prog W .any base t v := hval0
  have hW' := hW
  obtain ⟨p, q, hA0, hV, rfl, hfz, hnd⟩ := hW
  have hA : DataW.TrodAll enc Try.prog W 0 (fun _ => true) true Try.f4.params.toList args.toList ds p := hA0
  rw [Try.params4] at hA hval
  obtain ⟨v0, vs0, d0, ds0, p0, q0, hargs, rfl, rfl, h0, r0⟩ := trodAll_cons hA
  obtain ⟨rfl, rfl, rfl⟩ := trodAll_nil r0
  obtain rfl : args = #[v0] := by cases args; simp_all
  obtain ⟨rfl, rfl⟩ := trodVars_none hV
  obtain ⟨a0, len0, cap0, rfl⟩ := okWide_slice Try.underlying22 (hval 0 22 v0 rfl rfl)
  have k0 := h0
  have lt0 : ∀ x ∈ p0, x.block < W.heap.size := by obtain ⟨m, hm⟩ := k0; exact DataW.trod_lt m _ _ _ hm
  obtain ⟨z0, w0⟩ : ∃ zs, IsRow .u8 W a0 len0 cap0 zs := by
    obtain ⟨fuel, hf⟩ := h0
    rcases open_ints Try.underlying22 Try.underlying5 (by kernel_rfl) hf with ⟨hcs, _⟩ | ⟨x, l, c, zs, hcs, _, hl, hm, hz, _, hcell, hwz⟩
    · simp [Value.cells] at hcs
      obtain ⟨rfl, rfl, rfl⟩ := hcs
      exact ⟨[], .inl ⟨rfl, rfl, rfl, rfl⟩⟩
    · simp [Value.cells] at hcs
      obtain ⟨rfl, rfl, rfl⟩ := hcs
      exact ⟨zs, .inr ⟨_, rfl, hl, hm, by simpa using hz, hcell, hwz⟩⟩
  clear hA0 hval0
  refine (walk a0 len0 cap0 z0 W w0).mono fun e W' ⟨he, bel⟩ => ?_
  subst he
  exact ⟨_, rfl, _, _, _, [], _, [], hW', trodAll_mk1 (shut_bool Try.underlying4 _), (trodAll_cons_mk (Below.trod laidOut (by kernel_rfl) (of_decide_eq_true (by kernel_rfl)) k0 bel lt0) trodAll_mk0), rfl, bel.frame _, fun h => by cases h⟩

theorem over : Rows.fnDividedRow.holds Try.pinned (OpenSpec.ofChange Rows.fnDividedSpec) :=
  OpenClaim.holds_of_wide 4 Try.f4 rfl rfl rfl rfl rfl rfl rfl ⟨rfl, rfl, rfl, rfl, rfl⟩ rfl rfl rfl rfl rfl (by kernel_rfl) Try.func4 (by kernel_rfl)
    (of_decide_eq_true (by kernel_rfl)) (by unfold Func.isWrapper; first | (rw [if_pos (by decide +kernel)]; kernel_rfl) | (rw [if_neg (by decide +kernel)]; exact ⟨rfl, rfl⟩))
    (fun os started H enc _ => lifted os started H enc)

/-- ████ THE STATEMENT ████ -/
theorem proved : Rows.FnDividedSaid := over
end Go.Proofs.Ytmkmojcefgcmlaa.fnDivided

namespace Go.Proofs.Ytmkmojcefgcmlaa
/-- The given statement. -/
theorem fnDivided_holds : Rows.FnDividedSaid := fnDivided.proved
#print axioms fnDivided_holds
end Go.Proofs.Ytmkmojcefgcmlaa
