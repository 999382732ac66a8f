/- Walks: the program's Puny (written by mkpny.py). -/
import Derived.Test.YtjpdllhhganbpaaPnS
namespace Go.Proofs.Ytjpdllhhganbpaa
set_option linter.unusedVariables false
set_option linter.unusedSimpArgs false
open Go.RowKit

/-- The program's puny state, in block K. -/
def psP (w : World) (K : Nat) (a b c : Int) : Prop := w.heap[K]? = some (.cells #[.int .i64 a, .int .i64 b, .int .i64 c] 42 (0, 0))
theorem psP_cells {w : World} {K : Nat} {a b c : Int} (h : psP w K a b c) : w.cell? ⟨K, 0, none⟩ = some (.int .i64 a) ∧ w.cell? ⟨K, 1, none⟩ = some (.int .i64 b) ∧ w.cell? ⟨K, 2, none⟩ = some (.int .i64 c) ∧ w.frozen? ⟨K, 0, none⟩ = false ∧ w.frozen? ⟨K, 1, none⟩ = false ∧ w.frozen? ⟨K, 2, none⟩ = false := by
  unfold psP at h
  refine ⟨?_, ?_, ?_, ?_, ?_, ?_⟩ <;> simp only [World.cell?, World.frozen?, h] <;> rfl
theorem psP_lt {w : World} {K : Nat} {a b c : Int} (h : psP w K a b c) : K < w.heap.size := (Array.getElem?_eq_some_iff.1 h).1
theorem psP_ext {w w' : World} {K : Nat} {a b c : Int} (h : psP w K a b c) (e : Ext w w') : psP w' K a b c := (Below.block e K (psP_lt h)).trans h
theorem psP_ne {w : World} {K : Nat} {a b c : Int} {B n : Nat} {v : Value} {xs : List Value} (h : psP w K a b c) (ho : w.ownsRow B 5 1 v n xs) : some K ≠ v.ownBlock := by
  rcases ho.2 with ⟨rfl, _⟩ | ⟨g, cap, cur, rfl, hb, hg, rest⟩
  · simp [Value.ownBlock]
  · intro e
    simp only [Value.ownBlock, Option.some.injEq] at e
    subst e
    rw [h] at hg
    simp at hg
theorem psP_grown' {w w' : World} {K : Nat} {a b c : Int} {B n : Nat} {v : Value} {xs : List Value} (h : psP w K a b c) (ho : w.ownsRow B 5 1 v n xs) (hg : w.grownBy w' v.ownBlock) : psP w' K a b c :=
  (hg.block K (psP_lt h) (psP_ne h ho)).trans h
theorem psP_grown {w w' : World} {K : Nat} {a b c : Int} {B n : Nat} {v : Value} {xs : List Value} {o : Obj} (h : psP w K a b c) (ho : w.ownsRow B 5 1 v n xs) (hg : (w.alloc o).grownBy w' v.ownBlock) : psP w' K a b c :=
  (hg.block K (by have := psP_lt h; simp; omega) (psP_ne h ho)).trans (psP_ext h (Ext.alloc _ _))
theorem psP_put {w : World} {K : Nat} {a b c : Int} (a' b' c' : Int) (h : psP w K a b c) : psP (((w.setCell ⟨K, 0, none⟩ (.int .i64 a')).setCell ⟨K, 1, none⟩ (.int .i64 b')).setCell ⟨K, 2, none⟩ (.int .i64 c')) K a' b' c' :=
  heap_setCell_same _ _ _ _ _ _ (heap_setCell_same _ _ _ _ _ _ (heap_setCell_same _ _ _ _ _ _ h))
theorem owns_setK {w : World} {K o : Nat} {B n : Nat} {v : Value} {xs : List Value} (u : Value) (ho : w.ownsRow B 5 1 v n xs) (hK : some K ≠ v.ownBlock) : (w.setCell ⟨K, o, none⟩ u).ownsRow B 5 1 v n xs := by
  refine ⟨ho.1, ?_⟩
  rcases ho.2 with h0 | ⟨g, cap, cur, rfl, hb, hg, rest⟩
  · exact .inl h0
  · refine .inr ⟨g, cap, cur, rfl, hb, ?_, rest⟩
    rw [heap_setCell_other _ _ _ _ (fun e => hK (by rw [e]; rfl))]
    exact hg
theorem owns_put {w : World} {K : Nat} {a b c : Int} (u0 u1 u2 : Value) {B n : Nat} {v : Value} {xs : List Value} (ho : w.ownsRow B 5 1 v n xs) (h : psP w K a b c) : (((w.setCell ⟨K, 0, none⟩ u0).setCell ⟨K, 1, none⟩ u1).setCell ⟨K, 2, none⟩ u2).ownsRow B 5 1 v n xs :=
  owns_setK u2 (owns_setK u1 (owns_setK u0 ho (psP_ne h ho)) (psP_ne h ho)) (psP_ne h ho)
theorem ext_put {w0 w : World} {K : Nat} (u0 u1 u2 : Value) (he : Ext w0 w) (hK : w0.heap.size ≤ K) : Ext w0 (((w.setCell ⟨K, 0, none⟩ u0).setCell ⟨K, 1, none⟩ u1).setCell ⟨K, 2, none⟩ u2) :=
  below_touch he ((((Touch.refl K w).set 0 u0).set 1 u1).set 2 u2) hK
/-- How many are told, as the block has it. -/
def tellI (w : World) (K : Nat) : Nat := match w.cell? ⟨K, 1, none⟩ with | some (.int _ x) => x.toNat | _ => 0
theorem tellI_of {w : World} {K : Nat} {a c : Int} {b : Nat} (h : psP w K a b c) : tellI w K = b := by
  unfold tellI
  rw [(psP_cells h).2.1]
  simp

theorem wp_append_bsg {o : Oper} {a0 : Act} {K : Act → World → Prop} {Q : Exit → Act → World → Prop} {w : World} (s x : Operand)
    (ho : o.op = .call { callee := .builtin .append, args := #[s, x], argTypes := #[28, 28] })
    (base : Nat) (v : Value) (n : Nat) (xs : List Value) (hs : a0.eval s = v) (hown : w.ownsRow base 5 1 v n xs)
    (a : Option Addr) (b off m c : Nat) (f : Nat → Int) (hx : a0.eval x = .slice a m c) (hB : BSeg w a b off m f) (hlen : n + m ≤ 1099511627776) (hbase : base ≤ w.heap.size)
    (h : ∀ v' w', w'.ownsRow base 5 1 v' (n + m) (xs ++ byts f m) → w.grownBy w' v.ownBlock → K (a0.put o.dst v') w') : o.wp Try.prog a0 w K Q := by
  obtain ⟨i0, hi, hz0, hz1, hz2⟩ := info_parts Try.info5
  have hml : n + m ≤ maxLen := by unfold maxLen; omega
  cases a with
  | none =>
    have hm : m = 0 := by
      cases m with
      | zero => rfl
      | succ m => have := hB.at' (Nat.succ_pos _); cases this
    subst hm
    have hr := run_append_nothing (P := Try.prog) base 28 o.type 5 i0 1 Try.underlying28 hi v n c xs hown
    unfold Oper.wp
    simp [execOp, ho, resolve, invoke, builtin, hs, hx, hr, Result.andThen]
    exact h v w (by rw [show byts f 0 = [] from rfl, List.append_nil]; exact hown) ⟨rfl, rfl, rfl, Nat.le_refl _, fun _ _ _ => rfl⟩
  | some ad =>
    refine wp_append_own w s x 28 ho base 5 i0 (.int .u8 0) 1 1 Try.underlying28 hi hz0 hz1 hz2 rfl (by decide) v n xs hs hown ad m c (byts f m) hx (by rw [byts_length, Nat.mul_one]) ?_ (byts_one f m) hml (by omega) hbase ?_
    · intro j u hj
      have hjm : j < m := by have := (List.getElem?_eq_some_iff.1 hj).1; rwa [byts_length] at this
      have := hB.at' (by omega)
      obtain rfl := Option.some.inj this
      rw [show (byts f m)[j]? = some (.int .u8 (f j)) by simp [byts, hjm]] at hj
      obtain rfl := Option.some.inj hj
      have e : Addr.add ⟨b, off, none⟩ j = ⟨b, off + j, none⟩ := by
        by_cases h0 : j = 0
        · subst h0; simp [Addr.add]
        · simp [Addr.add, h0]
      rw [e]
      exact hB.cell j hjm
    · intro v' w' h1 h2 h3
      exact h v' w' h1 h2

theorem wpList_append_bsg {ops : Array Oper} {rest : List Oper} {o : Oper} {a0 : Act} {Q : Exit → Act → World → Prop} {w : World} (hgd : o.guard = none) (s x : Operand)
    (ho : o.op = .call { callee := .builtin .append, args := #[s, x], argTypes := #[28, 28] })
    (base : Nat) (v : Value) (n : Nat) (xs : List Value) (hs : a0.eval s = v) (hown : w.ownsRow base 5 1 v n xs)
    (a : Option Addr) (b off m c : Nat) (f : Nat → Int) (hx : a0.eval x = .slice a m c) (hB : BSeg w a b off m f) (hlen : n + m ≤ 1099511627776) (hbase : base ≤ w.heap.size)
    (h : ∀ v' w', w'.ownsRow base 5 1 v' (n + m) (xs ++ byts f m) → w.grownBy w' v.ownBlock → wpList Try.prog ops Q rest (a0.put o.dst v') w') : wpList Try.prog ops Q (o :: rest) a0 w :=
  wpList_plain hgd fun K hK => wp_append_bsg s x ho base v n xs hs hown a b off m c f hx hB hlen hbase fun v' w' h1 h2 => hK _ _ (h v' w' h1 h2)

set_option maxHeartbeats 6400000 in
set_option maxRecDepth 100000 in
theorem implPuny_any (a : Option Addr) (b off n cap : Nat) (f : Nat → Int) (w : World) (hs : Seg w a b off n f) (hn : n ≤ 1048576) :
    Calls Try.prog 13 #[.slice a n cap] w fun e w' => e = .returned (.tuple #[.string (punyS n f), .bool (wordB n f)]) ∧ Ext w w' := by
  obtain ⟨i0, hi, hz0, hz1, hz2⟩ := info_parts Try.info5
  have HW := hide (wordOk_any a b off n cap f w hs hn)
  cases hwb : wordB n f
  · have hV : punyS n f = ⟨#[]⟩ := by unfold punyS; rw [hwb]; rfl
    rw [hwb] at HW
    rw [hV]
    go_enter Try.func13, Try.ntmps13
    go_wp2_with (go_at_call 30; refine HW.out.mono ?_; rintro e w3 ⟨rfl, hw⟩; obtain rfl := hw.symm)
    go_ret2
    exact ⟨rfl, Ext.refl _⟩
  · rw [hwb] at HW
    obtain ⟨hn1, hn20, hf⟩ := word_is hwb
    obtain rfl := hs.at' (by omega)
    have HF := hide hf
    have HK20 := hide hn20
    obtain ⟨R, hRR⟩ : ∃ R, R = punyL f n := ⟨_, rfl⟩
    have HV : Hid (Ending.returned (.tuple #[.string (strOfNums R), .bool true]) = .returned (.tuple #[.string (punyS n f), .bool true])) := by
      show _ = _
      unfold punyS
      rw [hRR, hwb]
      rfl
    have HNb := hide (nearBytes_any (some ⟨b, off, none⟩) b off n cap f w hs hn20 hf)
    have HNL := hide (nearL_len f n)
    have HN20 : Hid ((nearL f n).length ≤ 20) := by show _ ≤ _; rw [nearL_len]; have := cnt_le f 128 n; omega
    have HPN : Hid (R = pout (nearL f n).length n f n ⟨(nearL f n).length, 0, 72, markL (nearL f n)⟩ 128) := by show _ = _; rw [hRR, punyL, nearL_len]
    clear hf hwb hRR
    generalize nearL f n = N at *
    go_enter Try.func13, Try.ntmps13
    go_wp2_with (go_at_call 30; refine HW.out.mono ?_; rintro e w3 ⟨rfl, hw⟩; obtain rfl := hw.symm)
    refine HNb.out.mono ?_
    rintro e w1 ⟨v1, rfl, hO1, hE1⟩
    obtain ⟨va, vg, vc, rfl, hvg, hvn, hvc, hvB⟩ := owns_seg (f := fun i => N.getD i 0) (by rw [← bys_byts]; exact hO1)
    have HO1 := hide hO1
    have HE1 := hide hE1
    clear hvg hvn hvc hvB hO1 hE1 HW HNb
    go_wp2_with fail
    refine (newPunyState_any (N.length : Int) w1).mono ?_
    rintro e w2 ⟨rfl, hE2⟩
    unfold psV
    have HO2 := hide (World.ownsRow.alloc (owns_ext' HO1.out hE2) (.cells #[.int .i64 (N.length : Int), .int .i64 (N.length : Int), .int .i64 72] 42))
    have HE2 := hide (Ext.trans (Ext.trans HE1.out hE2) (Ext.alloc w2 (.cells #[.int .i64 (N.length : Int), .int .i64 (N.length : Int), .int .i64 72] 42)))
    have HP2 : Hid (psP (w2.alloc (.cells #[.int .i64 (N.length : Int), .int .i64 (N.length : Int), .int .i64 72] 42)) w2.heap.size N.length N.length 72) := heap_alloc_new _ _
    have HKw : Hid (w.heap.size ≤ w2.heap.size) := Nat.le_trans (Below.size HE1.out) (Below.size hE2)
    clear hE2 HO1 HE1
    by_cases hb0 : 0 < N.length
    · have hb1 : (0 : Int) < (N.length : Int) := by omega
      have HMK : Hid (markL N = N ++ [45]) := by show _ = _; unfold markL; rw [if_pos hb0]
      go_wp2_with (at_builtin; refine wpList_append_own _ rfl _ _ 28 rfl w.heap.size 5 i0 (.int .u8 0) 1 1 Try.underlying28 hi hz0 hz1 hz2 rfl (by decide) _ _ _ rfl (HO2.out.alloc _) ⟨w2.heap.size + 1, 0, none⟩ 1 1 [.int .u8 45] rfl rfl (by have := cell_one_new (w2.alloc (.cells #[.int .i64 (N.length : Int), .int .i64 (N.length : Int), .int .i64 72] 42)) (.int .u8 45) 5; rw [show (w2.alloc (.cells #[.int .i64 (N.length : Int), .int .i64 (N.length : Int), .int .i64 72] 42)).heap.size = w2.heap.size + 1 by simp] at this; exact this) (bys_one _) (by have := HN20.out; unfold maxLen; omega) (by have := HN20.out; omega) (by have := HKw.out; simp; omega) ?_; intro v' w4 hown' hgrow hnil)
      have HNN := hide (bys_step HO2.out HE2.out hown' hgrow)
      have HPS := hide (psP_grown HP2.out HO2.out hgrow)
      clear hown' hgrow hnil HO2 HE2 HP2
      have HOS := hide HNN.out.1
      have HES := hide HNN.out.2
      clear HNN
      generalize w2.heap.size = K at *
      go_wp2
      go_loopw [4, 6, 7] (fun v c d wr => ∃ (F : Nat) (s : PS) (nn : Int), c = .int .i64 nn ∧ d = .int .i64 s.d ∧ OutB f n nn s ∧ n - s.h ≤ F ∧ pout N.length n f F s nn = R ∧ wr.ownsRow w.heap.size 5 1 v s.o.length (bys s.o) ∧ psP wr K N.length s.h s.b ∧ Ext w wr) (fun _ _ _ wr => n - tellI wr K)
      case atStart => exact ⟨n, ⟨N.length, 0, 72, markL N⟩, 128, rfl, rfl, ⟨HNL.out, by decide, by decide, Int.le_refl _, by show (0 : Int) ≤ 21 * 128; omega, by show (0 : Int) ≤ 72; omega, by show (72 : Int) ≤ 2000000000; omega, by simp only [HMK.out, List.length_append, List.length_singleton]; have := HN20.out; omega⟩, by simp only []; omega, HPN.out.symm, by simp only [HMK.out]; exact HOS.out, HPS.out, HES.out⟩
      case round =>
        clear HOS HES HPN HMK HPS
        obtain ⟨F, s, nn, rfl, rfl, hOB, hFF, hP, hO, hps, hE⟩ := hrel
        obtain ⟨sh, sd, sb, so⟩ := s
        simp only at hOB hFF hP hO hps
        have HOB := hide hOB
        have HFF := hide hFF
        have HP := hide hP
        have HO := hide hO
        have HE := hide hE
        have Hps := hide hps
        have HTL : Hid (tellI wr K = sh) := tellI_of hps
        obtain ⟨k0, k1, k2, kf0, kf1, kf2⟩ := psP_cells hps
        clear hOB hFF hP hO hE hps
        have sh20 : sh ≤ 20 := by have := HOB.out.h; have := cnt_le f nn n; simp only at *; omega
        by_cases hlt : sh < n
        · have hln : (sh : Int) < (n : Int) := by omega
          have HX : Hid (∃ i, i < n ∧ nn ≤ f i) := cnt_some (by rw [← HOB.out.h]; exact hlt)
          have HM := hide (lst_spec (n := nn) (m := 1114111) (fun i hi => (HF.out i hi).2) (by omega) HX.out)
          have HLe := hide (leastFrom_any (some ⟨b, off, none⟩) b off n cap f nn wr (hs.of_all HE.out) HK20.out)
          generalize lst f nn 1114111 n = m at *
          obtain ⟨m0, m1, m2, p0, p1, hIB⟩ := HOB.out.into HK20.out hlt (fun i hi => (HF.out i hi).2) HM.out
          have HIB := hide hIB
          have d0 := HOB.out.d0
          have d1 := HOB.out.d1
          have HST : Hid (∀ (s2 : PS), s2 = pinF N.length m f n ⟨sh, sd + (m - nn) * ((sh : Int) + 1), sb, so⟩ → InB f n m n s2 → ∃ G, n - s2.h ≤ G ∧ R = pout N.length n f G ⟨s2.h, s2.d + 1, s2.b, s2.o⟩ (m + 1)) := by
            intro s2 h2 B2
            obtain ⟨G, h3, h4⟩ := pout_step HK20.out HFF.out HOB.out hlt (fun i hi => (HF.out i hi).2) HM.out h2 B2
            exact ⟨G, h3, by rw [← HP.out, h4]⟩
          have HSM : Hid (∀ s2 : PS, InB f n m n s2 → sh < s2.h) := by
            intro s2 B2
            obtain ⟨i, i1, i2⟩ := HM.out.at'
            have := B2.h
            have := cntE_pos i1 i2
            have := cnt_gap HM.out.ge HM.out.gap
            have := HOB.out.h
            simp only at *
            omega
          clear hIB HX HOB HFF HP HM
          simp only at d0 d1
          generalize hPP : (m - nn) * ((sh : Int) + 1) = P at *
          have w1 : wrap64 P = P := by unfold wrap64; omega
          have w2 : wrap64 (sd + P) = sd + P := by unfold wrap64; omega
          go_wp2_with (go_at_call 32; refine HLe.out.mono ?_; rintro e w' ⟨rfl, hw⟩; obtain rfl := hw.symm)
          go_loopw [4, 7, 45] (fun v d i wr => ∃ (j : Nat) (s : PS), j ≤ n ∧ i = .int .i64 j ∧ d = .int .i64 s.d ∧ s = pinF N.length m f j ⟨sh, sd + P, sb, so⟩ ∧ InB f n m j s ∧ wr.ownsRow w.heap.size 5 1 v s.o.length (bys s.o) ∧ psP wr K N.length s.h s.b ∧ Ext w wr) (fun _ _ i _ => n - (intOf i).toNat)
          case atStart => exact ⟨0, ⟨sh, sd + P, sb, so⟩, Nat.zero_le _, rfl, rfl, rfl, HIB.out, HO.out, Hps.out, HE.out⟩
          case round =>
            clear HIB HO HE w1 w2 hPP Hps k0 k1 k2 kf0 kf1 kf2 HLe
            obtain ⟨j, s, hj, rfl, rfl, hpin, hIB, hO, hps, hE⟩ := hrel
            have HIB := hide hIB
            have HO := hide hO
            have HE := hide hE
            have Hpin := hide hpin
            have Hps := hide hps
            obtain ⟨k0, k1, k2, kf0, kf1, kf2⟩ := psP_cells hps
            clear hIB hO hE hpin hps
            have e0 := HIB.out.d0
            have e1 := HIB.out.d1
            have eb0 := HIB.out.b0
            have eb1 := HIB.out.b1
            have el := HIB.out.l1
            have eh : s.h ≤ 20 := by have := HIB.out.h; have := cnt_cntE_le f m n; have : cntE f m j ≤ cntE f m n := cntE_mono f m hj; omega
            by_cases hjl : j < n
            · have hjn : (j : Int) < (n : Int) := by omega
              have hc := (hs.of_all HE.out).cell j hjl
              have HNB := hide (HIB.out.step (basic := N.length) m0 m1 HK20.out hjl)
              have HNP : Hid (pin N.length m (f j) s = pinF N.length m f (j + 1) ⟨sh, sd + P, sb, so⟩) := by show _ = _; rw [pinF, ← Hpin.out]
              obtain ⟨q, hq⟩ : ∃ q, q = pin N.length m (f j) s := ⟨_, rfl⟩
              rw [← hq] at HNB HNP
              clear HIB Hpin
              by_cases c0 : f j = m
              · have hqq : q = ⟨s.h + 1, 0, pbias s.d (s.h + 1) (s.h == N.length), s.o ++ dgs s.b s.d⟩ := by rw [hq, pin, if_pos c0]
                have HQ := hide hqq
                have x1 : ¬ f j < m := by omega
                have x2 : (f j == m) = true := by simp [c0]
                have hbq : ((s.h : Int) == (N.length : Int)) = (s.h == N.length) := by
                  cases e : (s.h == N.length)
                  · simp at e ⊢; omega
                  · simp at e ⊢; omega
                have HBi : Hid (∀ w, Calls Try.prog 26 #[.agg #[.int .i64 (N.length : Int), .int .i64 (s.h : Int), .int .i64 s.b], .int .i64 s.d] w fun e w' => e = .returned (.agg #[.int .i64 (N.length : Int), .int .i64 ((s.h : Int) + 1), .int .i64 (pbias s.d ((s.h : Int) + 1) (s.h == N.length))]) ∧ Ext w w') := fun w => by
                  have := behind_any (N.length : Int) (s.h : Int) s.b s.d (by omega) (by omega) e0 (by omega) w
                  rw [hbq] at this
                  exact this
                have HDi := hide (digits_any (N.length : Int) (s.h : Int) s.b s.d eb0 eb1 e0 (by omega) wr)
                have HLn := hide (dgs_len s.b s.d)
                clear hbq hqq hq
                have Hc0 := hide c0
                clear c0
                obtain ⟨sh', sd', sb', so'⟩ := s
                simp only at e0 e1 eb0 eb1 el eh HQ HBi HDi HLn HO Hps k0 k1 k2
                generalize pbias sd' ((sh' : Int) + 1) (sh' == N.length) = PB at *
                generalize dgs sb' sd' = D at *
                unfold psV at HDi
                go_wp2_with fail
                refine HDi.out.mono ?_
                rintro e w3 ⟨dv, rfl, hDO, hDE⟩
                obtain ⟨da, dg, dc, rfl, hdg, hdn, hdc, hdB⟩ := owns_seg (f := fun i => D.getD i 0) (by rw [← bys_byts]; exact hDO)
                have HO3 := hide (owns_ext' HO.out hDE)
                have Hps3 := hide (psP_ext Hps.out hDE)
                have HE3 := hide (Ext.trans HE.out hDE)
                have HdB := hide hdB.toBSeg
                clear hDO hDE hdg hdn hdc hdB HO Hps HE HDi k0 k1 k2 kf0 kf1 kf2
                go_wp2_with (at_builtin; refine wpList_append_bsg rfl _ _ rfl w.heap.size _ _ _ rfl HO3.out da dg 0 D.length dc (fun i => D.getD i 0) rfl HdB.out (by have := HLn.out; omega) (by have := Below.size HE3.out; omega) ?_; intro v' w4 hown' hgrow; obtain ⟨k0, k1, k2, kf0, kf1, kf2⟩ := psP_cells (psP_grown' Hps3.out HO3.out hgrow))
                have HO4 : Hid (w4.ownsRow w.heap.size 5 1 v' (so' ++ D).length (bys (so' ++ D))) := by
                  show World.ownsRow _ _ _ _ _ _ _
                  rw [List.length_append, show bys (so' ++ D) = bys so' ++ byts (fun i => D.getD i 0) D.length by rw [← bys_byts]; simp [bys]]
                  exact hown'
                have Hps4 := hide (psP_grown' Hps3.out HO3.out hgrow)
                have HE4 : Hid (Ext w w4) := (Below.refl _ _).trans (HE3.out.grown hgrow (Below.size HE3.out) (fun i hi => (HO3.out.lt i hi).1))
                clear hown' hgrow HO3 Hps3 HE3 HdB HLn
                refine (HBi.out _).mono ?_
                rintro e w5 ⟨rfl, hE5⟩
                have HO5 := hide (owns_ext' HO4.out hE5)
                have hps5 := psP_ext Hps4.out hE5
                have HE5 := hide (Ext.trans HE4.out hE5)
                clear hE5 HO4 Hps4 HE4 k0 k1 k2 kf0 kf1 kf2
                obtain ⟨k0, k1, k2, kf0, kf1, kf2⟩ := psP_cells hps5
                have Hps6 := hide (psP_put (N.length : Int) ((sh' : Int) + 1) PB hps5)
                have HO6 := hide (owns_put (.int .i64 (N.length : Int)) (.int .i64 ((sh' : Int) + 1)) (.int .i64 PB) HO5.out hps5)
                have HE6 := hide (ext_put (.int .i64 (N.length : Int)) (.int .i64 ((sh' : Int) + 1)) (.int .i64 PB) HE5.out HKw.out)
                clear hps5 HO5 HE5
                go_wp2
                go_roundw
                case rel =>
                  have hqx := HQ.out
                  exact ⟨j + 1, q, by omega, by go_num, by rw [hqx], HNP.out, HNB.out, by rw [hqx]; exact HO6.out, by rw [hqx]; exact Hps6.out, HE6.out⟩
                case measure => simp [intOf]; omega
              · have x2 : (f j == m) = false := by simp [c0]
                by_cases c1 : f j < m
                · have hqq : q = ⟨s.h, s.d + 1, s.b, s.o⟩ := by rw [hq, pin, if_neg c0, if_pos c1]
                  have HQ := hide hqq
                  clear hqq hq
                  obtain ⟨sh', sd', sb', so'⟩ := s
                  simp only at e0 e1 HQ HO Hps
                  have w9 : wrap64 (sd' + 1) = sd' + 1 := by unfold wrap64; omega
                  go_wp2
                  go_roundw
                  case rel =>
                    have hqx := HQ.out
                    exact ⟨j + 1, q, by omega, by go_num, by rw [hqx], HNP.out, HNB.out, by rw [hqx]; exact HO.out, by rw [hqx]; exact Hps.out, HE.out⟩
                  case measure => simp [intOf]; omega
                · have hqq : q = s := by rw [hq, pin, if_neg c0, if_neg c1]
                  subst hqq
                  clear hq
                  go_wp2
                  go_roundw
                  case rel => exact ⟨j + 1, q, by omega, by go_num, rfl, HNP.out, HNB.out, HO.out, Hps.out, HE.out⟩
                  case measure => simp [intOf]; omega
            · obtain rfl : j = n := by omega
              obtain ⟨G, hG, hR⟩ := HST.out s Hpin.out HIB.out
              have HG := hide hG
              have HR := hide hR
              have HOB2 := hide (HIB.out.out HK20.out m0 m1)
              have HS2 := hide (HSM.out s HIB.out)
              clear hG hR HST HSM HIB Hpin
              obtain ⟨sh', sd', sb', so'⟩ := s
              simp only at HG HR HOB2 HO HS2 e0 e1 Hps
              have w9 : wrap64 (sd' + 1) = sd' + 1 := by unfold wrap64; omega
              go_wp2
              go_roundw
              case rel => exact ⟨G, ⟨sh', sd' + 1, sb', so'⟩, m + 1, by go_num, rfl, HOB2.out, HG.out, HR.out.symm, HO.out, Hps.out, HE.out⟩
              case measure =>
                rw [tellI_of Hps.out, HTL.out]
                have := HS2.out
                omega
        · have hln : ¬ (sh : Int) < (n : Int) := by omega
          have hend : so = R := by have h := HP.out; rw [pout_end (by simpa using hlt)] at h; exact h
          subst hend
          obtain ⟨va, vg, vc, rfl, hvg, hvn, hvc, hvB⟩ := owns_seg (f := fun i => so.getD i 0) (by rw [← bys_byts]; exact HO.out)
          have hcv := conv_seg (cap := vc) hvB.toBSeg
          rw [nums_list] at hcv
          clear hvg hvn hvc hvB HO
          go_wp2
          go_ret2
          exact ⟨HV.out, HE.out⟩
    · have hb1 : ¬ (0 : Int) < (N.length : Int) := by omega
      have HMK : Hid (markL N = N) := by show _ = _; unfold markL; rw [if_neg hb0]
      have HOS := hide HO2.out
      have HES := hide HE2.out
      have HPS := hide HP2.out
      clear HO2 HE2 HP2
      go_wp2
      generalize w2.alloc (.cells #[.int .i64 (N.length : Int), .int .i64 (N.length : Int), .int .i64 72] 42) = W2 at *
      generalize w2.heap.size = K at *
      go_loopw [4, 6, 7] (fun v c d wr => ∃ (F : Nat) (s : PS) (nn : Int), c = .int .i64 nn ∧ d = .int .i64 s.d ∧ OutB f n nn s ∧ n - s.h ≤ F ∧ pout N.length n f F s nn = R ∧ wr.ownsRow w.heap.size 5 1 v s.o.length (bys s.o) ∧ psP wr K N.length s.h s.b ∧ Ext w wr) (fun _ _ _ wr => n - tellI wr K)
      case atStart => exact ⟨n, ⟨N.length, 0, 72, markL N⟩, 128, rfl, rfl, ⟨HNL.out, by decide, by decide, Int.le_refl _, by show (0 : Int) ≤ 21 * 128; omega, by show (0 : Int) ≤ 72; omega, by show (72 : Int) ≤ 2000000000; omega, by simp only [HMK.out]; have := HN20.out; omega⟩, by simp only []; omega, HPN.out.symm, by simp only [HMK.out]; exact HOS.out, HPS.out, HES.out⟩
      case round =>
        clear HOS HES HPN HMK HPS
        obtain ⟨F, s, nn, rfl, rfl, hOB, hFF, hP, hO, hps, hE⟩ := hrel
        obtain ⟨sh, sd, sb, so⟩ := s
        simp only at hOB hFF hP hO hps
        have HOB := hide hOB
        have HFF := hide hFF
        have HP := hide hP
        have HO := hide hO
        have HE := hide hE
        have Hps := hide hps
        have HTL : Hid (tellI wr K = sh) := tellI_of hps
        obtain ⟨k0, k1, k2, kf0, kf1, kf2⟩ := psP_cells hps
        clear hOB hFF hP hO hE hps
        have sh20 : sh ≤ 20 := by have := HOB.out.h; have := cnt_le f nn n; simp only at *; omega
        by_cases hlt : sh < n
        · have hln : (sh : Int) < (n : Int) := by omega
          have HX : Hid (∃ i, i < n ∧ nn ≤ f i) := cnt_some (by rw [← HOB.out.h]; exact hlt)
          have HM := hide (lst_spec (n := nn) (m := 1114111) (fun i hi => (HF.out i hi).2) (by omega) HX.out)
          have HLe := hide (leastFrom_any (some ⟨b, off, none⟩) b off n cap f nn wr (hs.of_all HE.out) HK20.out)
          generalize lst f nn 1114111 n = m at *
          obtain ⟨m0, m1, m2, p0, p1, hIB⟩ := HOB.out.into HK20.out hlt (fun i hi => (HF.out i hi).2) HM.out
          have HIB := hide hIB
          have d0 := HOB.out.d0
          have d1 := HOB.out.d1
          have HST : Hid (∀ (s2 : PS), s2 = pinF N.length m f n ⟨sh, sd + (m - nn) * ((sh : Int) + 1), sb, so⟩ → InB f n m n s2 → ∃ G, n - s2.h ≤ G ∧ R = pout N.length n f G ⟨s2.h, s2.d + 1, s2.b, s2.o⟩ (m + 1)) := by
            intro s2 h2 B2
            obtain ⟨G, h3, h4⟩ := pout_step HK20.out HFF.out HOB.out hlt (fun i hi => (HF.out i hi).2) HM.out h2 B2
            exact ⟨G, h3, by rw [← HP.out, h4]⟩
          have HSM : Hid (∀ s2 : PS, InB f n m n s2 → sh < s2.h) := by
            intro s2 B2
            obtain ⟨i, i1, i2⟩ := HM.out.at'
            have := B2.h
            have := cntE_pos i1 i2
            have := cnt_gap HM.out.ge HM.out.gap
            have := HOB.out.h
            simp only at *
            omega
          clear hIB HX HOB HFF HP HM
          simp only at d0 d1
          generalize hPP : (m - nn) * ((sh : Int) + 1) = P at *
          have w1 : wrap64 P = P := by unfold wrap64; omega
          have w2 : wrap64 (sd + P) = sd + P := by unfold wrap64; omega
          go_wp2_with (go_at_call 32; refine HLe.out.mono ?_; rintro e w' ⟨rfl, hw⟩; obtain rfl := hw.symm)
          go_loopw [4, 7, 45] (fun v d i wr => ∃ (j : Nat) (s : PS), j ≤ n ∧ i = .int .i64 j ∧ d = .int .i64 s.d ∧ s = pinF N.length m f j ⟨sh, sd + P, sb, so⟩ ∧ InB f n m j s ∧ wr.ownsRow w.heap.size 5 1 v s.o.length (bys s.o) ∧ psP wr K N.length s.h s.b ∧ Ext w wr) (fun _ _ i _ => n - (intOf i).toNat)
          case atStart => exact ⟨0, ⟨sh, sd + P, sb, so⟩, Nat.zero_le _, rfl, rfl, rfl, HIB.out, HO.out, Hps.out, HE.out⟩
          case round =>
            clear HIB HO HE w1 w2 hPP Hps k0 k1 k2 kf0 kf1 kf2 HLe
            obtain ⟨j, s, hj, rfl, rfl, hpin, hIB, hO, hps, hE⟩ := hrel
            have HIB := hide hIB
            have HO := hide hO
            have HE := hide hE
            have Hpin := hide hpin
            have Hps := hide hps
            obtain ⟨k0, k1, k2, kf0, kf1, kf2⟩ := psP_cells hps
            clear hIB hO hE hpin hps
            have e0 := HIB.out.d0
            have e1 := HIB.out.d1
            have eb0 := HIB.out.b0
            have eb1 := HIB.out.b1
            have el := HIB.out.l1
            have eh : s.h ≤ 20 := by have := HIB.out.h; have := cnt_cntE_le f m n; have : cntE f m j ≤ cntE f m n := cntE_mono f m hj; omega
            by_cases hjl : j < n
            · have hjn : (j : Int) < (n : Int) := by omega
              have hc := (hs.of_all HE.out).cell j hjl
              have HNB := hide (HIB.out.step (basic := N.length) m0 m1 HK20.out hjl)
              have HNP : Hid (pin N.length m (f j) s = pinF N.length m f (j + 1) ⟨sh, sd + P, sb, so⟩) := by show _ = _; rw [pinF, ← Hpin.out]
              obtain ⟨q, hq⟩ : ∃ q, q = pin N.length m (f j) s := ⟨_, rfl⟩
              rw [← hq] at HNB HNP
              clear HIB Hpin
              by_cases c0 : f j = m
              · have hqq : q = ⟨s.h + 1, 0, pbias s.d (s.h + 1) (s.h == N.length), s.o ++ dgs s.b s.d⟩ := by rw [hq, pin, if_pos c0]
                have HQ := hide hqq
                have x1 : ¬ f j < m := by omega
                have x2 : (f j == m) = true := by simp [c0]
                have hbq : ((s.h : Int) == (N.length : Int)) = (s.h == N.length) := by
                  cases e : (s.h == N.length)
                  · simp at e ⊢; omega
                  · simp at e ⊢; omega
                have HBi : Hid (∀ w, Calls Try.prog 26 #[.agg #[.int .i64 (N.length : Int), .int .i64 (s.h : Int), .int .i64 s.b], .int .i64 s.d] w fun e w' => e = .returned (.agg #[.int .i64 (N.length : Int), .int .i64 ((s.h : Int) + 1), .int .i64 (pbias s.d ((s.h : Int) + 1) (s.h == N.length))]) ∧ Ext w w') := fun w => by
                  have := behind_any (N.length : Int) (s.h : Int) s.b s.d (by omega) (by omega) e0 (by omega) w
                  rw [hbq] at this
                  exact this
                have HDi := hide (digits_any (N.length : Int) (s.h : Int) s.b s.d eb0 eb1 e0 (by omega) wr)
                have HLn := hide (dgs_len s.b s.d)
                clear hbq hqq hq
                have Hc0 := hide c0
                clear c0
                obtain ⟨sh', sd', sb', so'⟩ := s
                simp only at e0 e1 eb0 eb1 el eh HQ HBi HDi HLn HO Hps k0 k1 k2
                generalize pbias sd' ((sh' : Int) + 1) (sh' == N.length) = PB at *
                generalize dgs sb' sd' = D at *
                unfold psV at HDi
                go_wp2_with fail
                refine HDi.out.mono ?_
                rintro e w3 ⟨dv, rfl, hDO, hDE⟩
                obtain ⟨da, dg, dc, rfl, hdg, hdn, hdc, hdB⟩ := owns_seg (f := fun i => D.getD i 0) (by rw [← bys_byts]; exact hDO)
                have HO3 := hide (owns_ext' HO.out hDE)
                have Hps3 := hide (psP_ext Hps.out hDE)
                have HE3 := hide (Ext.trans HE.out hDE)
                have HdB := hide hdB.toBSeg
                clear hDO hDE hdg hdn hdc hdB HO Hps HE HDi k0 k1 k2 kf0 kf1 kf2
                go_wp2_with (at_builtin; refine wpList_append_bsg rfl _ _ rfl w.heap.size _ _ _ rfl HO3.out da dg 0 D.length dc (fun i => D.getD i 0) rfl HdB.out (by have := HLn.out; omega) (by have := Below.size HE3.out; omega) ?_; intro v' w4 hown' hgrow; obtain ⟨k0, k1, k2, kf0, kf1, kf2⟩ := psP_cells (psP_grown' Hps3.out HO3.out hgrow))
                have HO4 : Hid (w4.ownsRow w.heap.size 5 1 v' (so' ++ D).length (bys (so' ++ D))) := by
                  show World.ownsRow _ _ _ _ _ _ _
                  rw [List.length_append, show bys (so' ++ D) = bys so' ++ byts (fun i => D.getD i 0) D.length by rw [← bys_byts]; simp [bys]]
                  exact hown'
                have Hps4 := hide (psP_grown' Hps3.out HO3.out hgrow)
                have HE4 : Hid (Ext w w4) := (Below.refl _ _).trans (HE3.out.grown hgrow (Below.size HE3.out) (fun i hi => (HO3.out.lt i hi).1))
                clear hown' hgrow HO3 Hps3 HE3 HdB HLn
                refine (HBi.out _).mono ?_
                rintro e w5 ⟨rfl, hE5⟩
                have HO5 := hide (owns_ext' HO4.out hE5)
                have hps5 := psP_ext Hps4.out hE5
                have HE5 := hide (Ext.trans HE4.out hE5)
                clear hE5 HO4 Hps4 HE4 k0 k1 k2 kf0 kf1 kf2
                obtain ⟨k0, k1, k2, kf0, kf1, kf2⟩ := psP_cells hps5
                have Hps6 := hide (psP_put (N.length : Int) ((sh' : Int) + 1) PB hps5)
                have HO6 := hide (owns_put (.int .i64 (N.length : Int)) (.int .i64 ((sh' : Int) + 1)) (.int .i64 PB) HO5.out hps5)
                have HE6 := hide (ext_put (.int .i64 (N.length : Int)) (.int .i64 ((sh' : Int) + 1)) (.int .i64 PB) HE5.out HKw.out)
                clear hps5 HO5 HE5
                go_wp2
                go_roundw
                case rel =>
                  have hqx := HQ.out
                  exact ⟨j + 1, q, by omega, by go_num, by rw [hqx], HNP.out, HNB.out, by rw [hqx]; exact HO6.out, by rw [hqx]; exact Hps6.out, HE6.out⟩
                case measure => simp [intOf]; omega
              · have x2 : (f j == m) = false := by simp [c0]
                by_cases c1 : f j < m
                · have hqq : q = ⟨s.h, s.d + 1, s.b, s.o⟩ := by rw [hq, pin, if_neg c0, if_pos c1]
                  have HQ := hide hqq
                  clear hqq hq
                  obtain ⟨sh', sd', sb', so'⟩ := s
                  simp only at e0 e1 HQ HO Hps
                  have w9 : wrap64 (sd' + 1) = sd' + 1 := by unfold wrap64; omega
                  go_wp2
                  go_roundw
                  case rel =>
                    have hqx := HQ.out
                    exact ⟨j + 1, q, by omega, by go_num, by rw [hqx], HNP.out, HNB.out, by rw [hqx]; exact HO.out, by rw [hqx]; exact Hps.out, HE.out⟩
                  case measure => simp [intOf]; omega
                · have hqq : q = s := by rw [hq, pin, if_neg c0, if_neg c1]
                  subst hqq
                  clear hq
                  go_wp2
                  go_roundw
                  case rel => exact ⟨j + 1, q, by omega, by go_num, rfl, HNP.out, HNB.out, HO.out, Hps.out, HE.out⟩
                  case measure => simp [intOf]; omega
            · obtain rfl : j = n := by omega
              obtain ⟨G, hG, hR⟩ := HST.out s Hpin.out HIB.out
              have HG := hide hG
              have HR := hide hR
              have HOB2 := hide (HIB.out.out HK20.out m0 m1)
              have HS2 := hide (HSM.out s HIB.out)
              clear hG hR HST HSM HIB Hpin
              obtain ⟨sh', sd', sb', so'⟩ := s
              simp only at HG HR HOB2 HO HS2 e0 e1 Hps
              have w9 : wrap64 (sd' + 1) = sd' + 1 := by unfold wrap64; omega
              go_wp2
              go_roundw
              case rel => exact ⟨G, ⟨sh', sd' + 1, sb', so'⟩, m + 1, by go_num, rfl, HOB2.out, HG.out, HR.out.symm, HO.out, Hps.out, HE.out⟩
              case measure =>
                rw [tellI_of Hps.out, HTL.out]
                have := HS2.out
                omega
        · have hln : ¬ (sh : Int) < (n : Int) := by omega
          have hend : so = R := by have h := HP.out; rw [pout_end (by simpa using hlt)] at h; exact h
          subst hend
          obtain ⟨va, vg, vc, rfl, hvg, hvn, hvc, hvB⟩ := owns_seg (f := fun i => so.getD i 0) (by rw [← bys_byts]; exact HO.out)
          have hcv := conv_seg (cap := vc) hvB.toBSeg
          rw [nums_list] at hcv
          clear hvg hvn hvc hvB HO
          go_wp2
          go_ret2
          exact ⟨HV.out, HE.out⟩

end Go.Proofs.Ytjpdllhhganbpaa
