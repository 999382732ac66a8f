/- Walk: the model's l1Div. -/
import Derived.Test.YtmkmojcefgcmlaaLong
import Derived.Test.YtmkmojcefgcmlaaNatSub
namespace Go.Proofs.Ytmkmojcefgcmlaa
set_option linter.unusedVariables false
open Go.RowKit

/-- In mid-division by the model: the places of the quotient from k on are done, and what is left is known. -/
structure Diving (w wr : World) (f h : Nat → Int) (n n2 k : Nat) (q : Nat → Int) (gr nr capr : Nat) (rf : Nat → Int) : Prop where
  own : Own wr (some ⟨w.heap.size, 0, none⟩) w.heap.size 0 n q
  digs : Digs q n
  low : ∀ j, j < k → q j = 0
  rest : Own wr (some ⟨gr, 0, none⟩) gr 0 nr rf
  gt : w.heap.size < gr
  cap : nr ≤ capr
  canon : Canon nr rf
  lt : val rf nr < val h n2
  val : Proofs.Ytmkmojcefgcmlaa.val (fun j => q (k + j)) (n - k) * Proofs.Ytmkmojcefgcmlaa.val h n2 + Proofs.Ytmkmojcefgcmlaa.val rf nr = Proofs.Ytmkmojcefgcmlaa.val (fun j => f (k + j)) (n - k)
  size : w.heap.size < wr.heap.size
  below : Below w.heap.size w wr

theorem rest_len {h rf : Nat → Int} {n2 nr : Nat} (hh : Digs h n2) (hc : Canon nr rf) (hlt : val rf nr < val h n2) : nr ≤ n2 := by
  by_cases e : nr ≤ n2
  · exact e
  · have := canon_lt hh hc (by omega); omega

/-- One digit more comes down. -/
theorem own_consed {w : World} {base : Nat} {v : Value} {x : Int} {nr : Nat} {rf : Nat → Int} (h : w.ownsRow base 3 1 v (1 + nr) ([.int .i64 x] ++ ints rf nr)) (hv : v ≠ .slice none 0 0) :
    ∃ g cap, v = .slice (some ⟨g, 0, none⟩) (nr + 1) cap ∧ base ≤ g ∧ nr + 1 ≤ cap ∧ Own w (some ⟨g, 0, none⟩) g 0 (nr + 1) (consF x rf) := by
  have e : [Value.int .i64 x] ++ ints rf nr = ints (consF x rf) (nr + 1) := by
    apply List.ext_getElem?
    intro i
    by_cases hi : i = 0
    · subst hi; simp [ints, consF]
    · obtain ⟨j, rfl⟩ : ∃ j, i = j + 1 := ⟨i - 1, by omega⟩
      by_cases hj : j < nr
      · simp [ints, consF, hj]
      · simp [ints, hj]
  rw [e, show 1 + nr = nr + 1 by omega] at h
  exact own_some h hv

theorem owns_one (w : World) (x : Int) : (w.alloc (.cells #[.int .i64 x] 3)).ownsRow w.heap.size 3 1 (.slice (some ⟨w.heap.size, 0, none⟩) 1 1) 1 [.int .i64 x] :=
  ⟨by simp, .inr ⟨w.heap.size, 1, #[.int .i64 x], rfl, Nat.le_refl _, heap_alloc_new w _, Nat.le_refl _, by unfold maxLen; omega, by simp, by simp⟩⟩

/-- The quotient's next digit and what is left. -/
theorem dive_val {f h q : Nat → Int} {n m n2 : Nat} {r lo : Int} (hm : m < n)
    (hv : val (fun j => q (m + 1 + j)) (n - (m + 1)) * val h n2 + r = val (fun j => f (m + 1 + j)) (n - (m + 1))) :
    val (fun j => upd q m lo (m + j)) (n - m) * val h n2 + (f m + 65536 * r - val h n2 * lo) = val (fun j => f (m + j)) (n - m) := by
  rw [← step_top f hm, ← step_top (upd q m lo) hm, ← hv, upd_same]
  rw [val_congr (f := fun j => upd q m lo (m + 1 + j)) (g := fun j => q (m + 1 + j)) (fun i _ => upd_other (by omega))]
  generalize val (fun j => q (m + 1 + j)) (n - (m + 1)) = V at *
  grind

set_option maxHeartbeats 3200000 in
theorem l1Div_any (a : Option Addr) (b off n cap : Nat) (f : Nat → Int) (a2 : Option Addr) (b2 off2 n2 cap2 : Nat) (h : Nat → Int) (w : World) (hs : Seg w a b off n f) (hs2 : Seg w a2 b2 off2 n2 h)
    (hn : n ≤ 4000) (hn2 : n2 ≤ 4000) (h0 : 0 < n2) (hf : Digs f n) (hh : Canon n2 h) :
    Calls Try.prog 50 #[.slice a n cap, .slice a2 n2 cap2] w fun e w' => GivesTwo w (val f n / val h n2) (val f n % val h n2) e w' := by
  have hb := canon_pos hh h0
  obtain ⟨i0, hi, hz0, hz1, hz2⟩ := info_parts Try.info3
  have hmk := run_make_row' (P := Try.prog) 24 3 (.int .i64 0) 8 Try.underlying24 Try.info3 rfl .i64 .i64 n (by omega) (by omega)
  go_enter Try.func50, Try.ntmps50
  go_wp2
  clear hmk
  go_loopw [7, 8] (fun v si wr => ∃ (k : Nat) (q : Nat → Int) (gr nr capr : Nat) (rf : Nat → Int), k ≤ n ∧ si = .int .i64 ((k : Int) - 1) ∧ v = .slice (some ⟨gr, 0, none⟩) nr capr ∧ Diving w wr f h n n2 k q gr nr capr rf) (fun _ si _ => (intOf si + 1).toNat)
  case atStart =>
    refine ⟨n, fun _ => 0, w.heap.size + 1, 0, 0, fun _ => 0, Nat.le_refl _, by go_num, rfl, ?_⟩
    have hr := Own.of_row (n := n) (f := fun _ => 0) (World.rowIs_made w (.int .i64 0) n 3) (Nat.le_refl _)
    refine ⟨hr.of_all ((Below.refl _ _).alloc (Nat.le_refl _) _), fun i _ => by omega, fun _ _ => rfl, Own.nil _ _ _ _ _, by omega, Nat.le_refl _, ⟨fun i hi => absurd hi (Nat.not_lt_zero _), .inl rfl⟩, hb, ?_, by simp; omega, ((Below.refl _ _).alloc (Nat.le_refl _) _).alloc (by simp) _⟩
    rw [Nat.sub_self]; simp [val]
  case round =>
    obtain ⟨k, q, gr, nr, capr, rf, hk, rfl, rfl, hI⟩ := hrel
    by_cases hk0 : k = 0
    · subst hk0
      have hV : val q n * val h n2 + val rf nr = val f n := by
        have := hI.val
        rw [Nat.sub_zero, val_congr (f := fun j => q (0 + j)) (g := q) (fun i _ => by rw [Nat.zero_add]), val_congr (f := fun j => f (0 + j)) (g := f) (fun i _ => by rw [Nat.zero_add])] at this
        exact this
      have r0 := (val_bd hI.canon.digs).1
      have r1 := hI.lt
      have HQ : Hid (val q n = val f n / val h n2) := by
        show _ = _
        rw [← hV, Int.add_comm, Int.add_mul_ediv_right _ _ (by omega), Int.ediv_eq_zero_of_lt r0 r1]; omega
      have HR : Hid (val rf nr = val f n % val h n2) := by
        show _ = _
        rw [← hV, Int.add_comm, Int.add_mul_emod_self_right, Int.emod_eq_of_lt r0 r1]
      have hrl := rest_len hh.digs hI.canon hI.lt
      have hO := hI.own
      have hr := hI.rest
      have hD := hI.digs
      have hB := hI.below
      have hC := hI.canon
      have gt := hI.gt
      have sz := hI.size
      clear hI hV r0 r1
      go_wp2_with fail
      refine (l1Norm_any w.heap.size 0 n _ q _ hO.toSeg (by omega) (Nat.le_refl _)).mono ?_
      rintro e w2 ⟨g3, cap3, m, rfl, hm, hmc, hz, hl, hg3, hO3, hB3⟩
      have r3 := hr.of_all hB3
      have hlt : 0 < nr → gr < wr.heap.size := fun h => hr.lt h
      have hBB := hB.trans (hB3.mono hB.size)
      go_wp2
      go_ret2
      exact ⟨_, g3, cap3, m, q, _, gr, capr, nr, rf, rfl, by omega, by omega, ⟨hD.mono hm, hl⟩, (val_noughts hm hz).trans HQ.out, hC, HR.out, by omega, by omega, fun _ h2 => by have := hlt h2; omega, hO3, r3, hBB⟩
    · obtain ⟨m, rfl⟩ : ∃ m, k = m + 1 := ⟨k - 1, by omega⟩
      have hmn : (m : Int) < (n : Int) := by omega
      obtain rfl := hs.at' (by omega)
      have hc := (hs.of_all hI.below).cell m (by omega)
      obtain ⟨f0, f1⟩ := hf m (by omega)
      have hrl := rest_len hh.digs hI.canon hI.lt
      have hnews := (hI.rest.of_all ((Below.refl wr.heap.size wr).alloc (Nat.le_refl _) (.cells #[.int .i64 (f m)] 3))).toSeg.news'
      have hnews2 := (hI.rest.of_all ((Below.refl wr.heap.size wr).alloc (Nat.le_refl _) (.cells #[.int .i64 (f m)] 3))).toSeg.news
      go_wp2_with (at_builtin; refine wpList_append_own _ rfl _ _ 24 rfl wr.heap.size 3 i0 (.int .i64 0) 1 8 Try.underlying24 hi hz0 hz1 hz2 rfl (by decide) (.slice (some ⟨wr.heap.size, 0, none⟩) 1 1) 1 [.int .i64 (f m)] rfl (owns_one wr (f m)) ⟨gr, 0, none⟩ nr capr (ints rf nr) rfl (by rw [ints_length]; omega) hnews2 (ints_one rf nr) (by unfold maxLen; omega) (by omega) (by simp) ?_; intro v' w2 hown' hgrow hnil)
      obtain ⟨g2, cap2', hv2, hg2, hc2, hO2⟩ := own_consed hown' (fun e => by have := (hnil.1 e).1; simp at this)
      have B2 : Below wr.heap.size wr w2 := ((Below.refl wr.heap.size wr).alloc (Nat.le_refl _) _).grown hgrow (by simp) (fun j hj => ((owns_one wr (f m)).lt j hj).1)
      rw [hv2]
      clear hv2 hown' hgrow hnil hnews hnews2 hc
      go_wp2_with fail
      refine (l1Norm_any g2 0 (nr + 1) cap2' _ _ hO2.toSeg (by omega) hc2).mono ?_
      rintro e w3 hN
      obtain ⟨g3, cap3, n3, f3, rfl, hn3, hc3, hC3, hV3, hg3, hO3, B3⟩ := hN.val B2 (consF_digs f0 f1 hI.canon.digs) (by omega)
      rw [val_consF] at hV3
      have r0 := (val_bd hI.canon.digs).1
      have hlt := hI.lt
      have hR1 : f m + 65536 * val rf nr < 65536 * val h n2 := by omega
      have hn3' : n3 ≤ n2 + 1 := by
        have := rest_len (h := ext n2 h) (rf := f3) (n2 := n2 + 1) (nr := n3) (ext_digs hh.digs _)
        by_cases e : n3 ≤ n2 + 1
        · exact e
        · have p := (canon_len hC3 (n2 + 1)).2 (by rw [hV3]; have := (val_bd hh.digs).2; simp only [pw]; omega)
          exact p
      have gt3 : w.heap.size < g3 := by have := hI.size; omega
      have q3 := hI.own.of_all B3
      have hBw := hI.below.trans (B3.mono hI.below.size)
      have hsz : w.heap.size < w3.heap.size := by have := hI.size; have := B3.size; omega
      have HV3 : Hid (val f3 n3 = f m + 65536 * val rf nr) := hV3
      have Hval := hI.val
      have HVal : Hid (val (fun j => q (m + 1 + j)) (n - (m + 1)) * val h n2 + val rf nr = val (fun j => f (m + 1 + j)) (n - (m + 1))) := Hval
      have hqd := hI.digs
      have hql := hI.low
      have HR : Hid (0 ≤ val f3 n3 ∧ val f3 n3 < 65536 * val h n2) := ⟨by rw [hV3]; omega, by rw [hV3]; exact hR1⟩
      clear hN hV3 Hval hI hO2 B2 B3 hR1 hlt r0 hg2 hg3
      obtain ⟨R, hR⟩ : ∃ R, R = val f3 n3 := ⟨_, rfl⟩
      rw [← hR] at HV3 HR
      have HRv : Hid (R = val f3 n3) := hR
      clear hR
      go_wp2
      go_loopw [9, 10] (fun slo shi wi => ∃ lo hi : Int, 0 ≤ lo ∧ lo ≤ hi ∧ hi ≤ 65535 ∧ slo = .int .i64 lo ∧ shi = .int .i64 hi ∧ Hid (lo * val h n2 ≤ R ∧ R < (hi + 1) * val h n2) ∧ Below w3.heap.size w3 wi) (fun slo shi _ => (intOf shi - intOf slo).toNat)
      case atStart => exact ⟨0, 65535, by omega, by omega, by omega, rfl, rfl, ⟨by have := HR.out; omega, by have := HR.out; omega⟩, Below.refl _ _⟩
      case round =>
        obtain ⟨lo, hi', hl0, hlh, hh1, rfl, rfl, HB, Bi⟩ := hrel
        by_cases hgo : lo < hi'
        · obtain ⟨mid, hmid⟩ : ∃ mid : Int, mid = (lo + hi' + 1) / 2 := ⟨_, rfl⟩
          have hm1 : lo < mid := by omega
          have hm2 : mid ≤ hi' := by omega
          have hm3 : (lo + hi' + 1) / 2 = mid := hmid.symm
          clear hmid
          have sB := hs2.of_all (hBw.trans (Bi.mono (Nat.le_of_lt hsz)))
          go_wp2_with fail
          refine (l1Times_any a2 b2 off2 n2 cap2 h mid _ sB (by omega) hh.digs (by omega) (by omega)).mono ?_
          rintro e w5 ⟨g5, cap5, n5, f5, rfl, hn5, hc5, hC5, hV5, hg5, hO5, B5⟩
          have B35 := Bi.trans (B5.mono Bi.size)
          have s35 := hO3.toSeg.of_all B35
          have HV5 : Hid (val f5 n5 = val h n2 * mid) := hV5
          clear hV5 sB
          go_wp2_with fail
          refine (l1Compare_any _ g5 0 n5 cap5 f5 _ g3 0 n3 cap3 f3 _ hO5.toSeg s35 hn5 hn3 hC5 hC3).mono ?_
          rintro e w6 ⟨rfl, hQ⟩
          have B36 := B35.trans (hQ.below _)
          rw [HV5.out, ← HRv.out]
          clear hQ B35 s35 B5 hO5 hC5 HV5 hg5 hc5
          by_cases hle : val h n2 * mid ≤ R
          · have hcm : cmpV (val h n2 * mid) R ≤ 0 := by unfold cmpV; split <;> (try split) <;> omega
            have HB' : Hid (mid * val h n2 ≤ R ∧ R < (hi' + 1) * val h n2) := ⟨by rw [Int.mul_comm]; exact hle, HB.out.2⟩
            generalize cmpV (val h n2 * mid) R = cc at *
            clear hle HB
            go_wp2
            go_roundw
            case rel => exact ⟨mid, hi', by omega, by omega, by omega, rfl, rfl, HB', B36⟩
            case measure => simp [intOf]; omega
          · have hcm : ¬ cmpV (val h n2 * mid) R ≤ 0 := by rw [cmpV_gt (by omega)]; omega
            have HB' : Hid (lo * val h n2 ≤ R ∧ R < (mid - 1 + 1) * val h n2) := ⟨HB.out.1, by rw [show mid - 1 + 1 = mid by omega, Int.mul_comm]; omega⟩
            generalize cmpV (val h n2 * mid) R = cc at *
            clear hle HB
            go_wp2
            go_roundw
            case rel => exact ⟨lo, mid - 1, by omega, by omega, by omega, rfl, rfl, HB', B36⟩
            case measure => simp [intOf]; omega
        · obtain rfl : lo = hi' := by omega
          have HB' := HB.out
          have hqe := quo_eq hb HB'.1 HB'.2
          have hle : val h n2 * lo ≤ R := by rw [Int.mul_comm]; exact HB'.1
          have hlt2 : R < val h n2 * lo + val h n2 := by have := HB'.2; rw [Int.add_mul, Int.one_mul, Int.mul_comm] at this; exact this
          have Bw := hBw.trans (Bi.mono (Nat.le_of_lt hsz))
          have q4 := q3.of_all Bi
          obtain ⟨hc1, hz1⟩ := q4.cell0 (show m < n by omega)
          have q5 := q4.set0 (show m < n by omega) lo
          have T := (Touch.refl w.heap.size wr).set m (.int .i64 lo)
          have B5 := below_touch Bw T (Nat.le_refl _)
          have r5 := (hO3.of_all Bi).touch T (fun _ => by omega)
          have hsz5 : w.heap.size < (wr.setCell ⟨w.heap.size, m, none⟩ (.int .i64 lo)).heap.size := by have := Bi.size; simp [World.setCell]; omega
          have Hle : Hid (val h n2 * lo ≤ R ∧ R < val h n2 * lo + val h n2) := ⟨hle, hlt2⟩
          clear HB HB' hqe hle hlt2 q4 q3 Bi Bw T hO3 hBw hsz
          go_wp2_with fail
          generalize wr.setCell ⟨w.heap.size, m, none⟩ (.int .i64 lo) = w5 at *
          refine (l1Times_any a2 b2 off2 n2 cap2 h lo _ (hs2.of_all B5) (by omega) hh.digs (by omega) (by omega)).mono ?_
          rintro e w7 ⟨g7, cap7, n7, f7, rfl, hn7, hc7, hC7, hV7, hg7, hO7, B7⟩
          have q7 := q5.of_all B7
          have r7 := r5.of_all B7
          have B57 := B5.trans (B7.mono B5.size)
          have hsz7 : w.heap.size < w7.heap.size := by have := B7.size; omega
          have HV7 : Hid (val f7 n7 = val h n2 * lo) := hV7
          have hle7 : val f7 n7 ≤ val f3 n3 := by rw [hV7, ← HRv.out]; exact Hle.out.1
          have hlen := canon_le hC3 hC7 hle7
          clear hV7 q5 r5 B5 B7 hsz5 hg7
          go_wp2_with fail
          refine (l1Sub_any _ g3 0 n3 cap3 f3 _ g7 0 n7 cap7 f7 _ r7.toSeg hO7.toSeg (by omega) hlen hC3.digs hC7.digs hle7).mono ?_
          rintro e w8 ⟨g8, cap8, n8, f8, rfl, hn8, hc8, hC8, hV8, hg8, hO8, B8⟩
          have q8 := q7.of_all B8
          have B58 := B57.trans (B8.mono B57.size)
          have hsz8 : w.heap.size < w8.heap.size := by have := B8.size; omega
          have HV8 : Hid (val f8 n8 = R - val h n2 * lo) := by show _ = _; rw [hV8, HV7.out, ← HRv.out]
          have gt8 : w.heap.size < g8 := by omega
          clear hV8 q7 r7 hO7 B57 B8 hsz7 hle7 hlen hg8
          have hD : Diving w w8 f h n n2 m (upd q m lo) g8 n8 cap8 f8 := by
            refine ⟨q8, upd_digs hqd (by omega) (by omega), fun j hj => by rw [upd_other (by omega)]; exact hql j (by omega), hO8, gt8, hc8, hC8, ?_, ?_, hsz8, B58⟩
            · rw [HV8.out]; have := Hle.out; omega
            · rw [HV8.out, HV3.out]; exact dive_val (by omega) HVal.out
          clear q8 hO8 hC8 B58 hsz8 HV8 gt8
          go_wp2
          go_roundw
          case rel => exact ⟨m, upd q m lo, g8, n8, cap8, f8, by omega, by go_num, rfl, hD⟩
          case measure => simp [intOf]

end Go.Proofs.Ytmkmojcefgcmlaa
