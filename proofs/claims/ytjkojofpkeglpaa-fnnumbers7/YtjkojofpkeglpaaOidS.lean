/- Walks: ReadOid of the program and of the model. -/
import Derived.Test.YtjkojofpkeglpaaOidR
namespace Go.Proofs.Ytjkojofpkeglpaa
set_option linter.unusedVariables false
set_option linter.unusedSimpArgs false
open Go.RowKit

/-- A new list of ints, one's own, and ok. -/
def GivesIo (w : World) (M : Nat) (F : Nat → Int) (ok : Bool) (e : Ending) (w' : World) : Prop :=
  ∃ a g cap, e = .returned (.tuple #[.slice a M cap, .bool ok]) ∧ w.heap.size ≤ g ∧ Own w' a g 0 M F ∧ Below w.heap.size w w'

/-- The same, with what its room is. -/
def GivesIc (w : World) (M : Nat) (F : Nat → Int) (ok : Bool) (e : Ending) (w' : World) : Prop :=
  ∃ a g cap, e = .returned (.tuple #[.slice a M cap, .bool ok]) ∧ w.heap.size ≤ g ∧ Own w' a g 0 M F ∧ Below w.heap.size w w' ∧ M ≤ cap ∧ cap ≤ 9223372036854775807

theorem pst_nums {f : Nat → Int} {n : Nat} (hy : ∀ i, i < n → 0 ≤ f i ∧ f i < 256) : ∀ p, p ≤ n → ∀ i, i < (pst f p).cnt → 0 ≤ (pst f p).F i ∧ (pst f p).F i ≤ 1000000000 := by
  intro p
  induction p with
  | zero => exact fun _ i hi => absurd hi (Nat.not_lt_zero _)
  | succ p ih =>
    intro hp
    have h0 := ih (by omega)
    obtain ⟨h1, h2, h3⟩ := pst_good hy p (by omega)
    have hb := hy p (by omega)
    show ∀ i, i < (pStep (pst f p) (f p)).cnt → 0 ≤ (pStep (pst f p) (f p)).F i ∧ (pStep (pst f p) (f p)).F i ≤ 1000000000
    generalize pst f p = s at *
    unfold pStep
    split
    · exact h0
    · split
      · exact h0
      · rename_i c2
        split
        · intro i hi
          show 0 ≤ updN _ _ _ i ∧ updN _ _ _ i ≤ 1000000000
          unfold updN
          split
          · omega
          · exact h0 i (by have : i < s.cnt + 1 := hi; omega)
        · exact h0

theorem fst40_range {x : Int} (h0 : 0 ≤ x) : 0 ≤ fst40 x ∧ fst40 x ≤ 2 ∧ 40 * fst40 x ≤ x := by unfold fst40; split <;> omega
theorem fst40_min {x : Int} : min (x / 40) 2 = fst40 x := by unfold fst40; split <;> omega

theorem two_list {P R : Int} {F : Nat → Int} (hR : F 0 - 40 * P = R) (i : Nat) : catF (fun i => if i = 0 then P else R) 2 (fun i => F (i + 1)) i = if i = 0 then P else if i = 1 then F 0 - 40 * P else F (i - 1) := by
  unfold catF
  match i with
  | 0 => rfl
  | 1 => exact hR.symm
  | i + 2 => rfl

theorem Grw.of_below {X : Nat → Prop} {B : Nat} {a b : World} (h : Below B a b) (hX : ∀ k, B ≤ k → X k) : Grw X a b :=
  ⟨h.os, h.tape, h.output, h.size, fun k hk hn => h.block k (by
    by_cases hh : k < B
    · exact hh
    · exact absurd (hX k (by omega)) hn)⟩
theorem oF_range (g : Nat → Int) (k : Nat) {M : Nat} : ∀ i, i < M → 0 ≤ oF g k i ∧ oF g k i < 256 := by
  intro i _
  induction k generalizing i with
  | zero => exact s7_range _ _
  | succ k ih =>
    show 0 ≤ catF _ _ _ i ∧ catF _ _ _ i < 256
    unfold catF
    split
    · exact ih _ (by assumption)
    · exact s7_range _ _

set_option maxHeartbeats 3200000 in
set_option maxRecDepth 100000 in
theorem implReadOid_cap (a : Option Addr) (b off n cap : Nat) (f : Nat → Int) (w : World) (hn : n ≤ 1048576) (hs : BSeg w a b off n f) (hy : ∀ i, i < n → 0 ≤ f i ∧ f i < 256) :
    Calls Try.prog 23 #[.slice a n cap] w fun e w' => GivesIc w (roM f n) (roG f n) (roB f n) e w' := by
  have HR := hide (readOidNumbers_any a b off n cap f w hn hs hy)
  have HN := hide (pst_nums hy n (Nat.le_refl _))
  have HG := hide (pst_good hy n (Nat.le_refl _))
  have HB : Hid (roB f n = (decide (0 < (pst f n).cnt) && (oidB (roG f n) (roN f n) && (oidM (roG f n) (roN f n) == n && alike (oF (roG f n) (roN f n - 2)) f (oidM (roG f n) (roN f n)))))) := rfl
  have HRN : Hid (roN f n = (pst f n).cnt + 1) := rfl
  have HRG : Hid (∀ i, roG f n i = if i = 0 then fst40 ((pst f n).F 0) else if i = 1 then (pst f n).F 0 - 40 * fst40 ((pst f n).F 0) else (pst f n).F (i - 1)) := fun _ => rfl
  have HM : Hid (roM f n = if roB f n = true then roN f n else 0) := rfl
  have Hs := hide hs
  have Hy := hide hy
  clear hs hy
  obtain ⟨s, hsE⟩ : ∃ s, pst f n = s := ⟨_, rfl⟩
  rw [hsE] at HR HN HG HB HRN HRG
  clear hsE
  obtain ⟨C, F, acc, stop⟩ := s
  simp only at HR HN HG HB HRN HRG
  by_cases h0 : C = 0
  · subst h0
    have HF : Hid (roB f n = false) := by unfold Hid; rw [HB.out]; rfl
    have HM0 : Hid (roM f n = 0) := by unfold Hid; rw [HM.out, HF.out]; rfl
    clear HB HM
    go_enter Try.func23, Try.ntmps23
    go_wp2_with fail
    refine HR.out.mono ?_
    rintro e w1 ⟨v, rfl, hO, hE⟩
    obtain ⟨va, vg, vc, rfl, hvg, -, -, -⟩ := iowns_seg hO
    have HE := hide hE
    clear hO hE hvg HR
    go_wp2
    go_ret2
    rw [HM0.out]
    exact ⟨_, w1.heap.size, _, ret_so HF.out.symm, Below.size HE.out, Own.nil _ _ _ _ _, HE.out.trans (Ext.alloc _ _), by omega, by omega⟩
  · have c0 : 0 < C := by omega
    obtain ⟨f0, f1⟩ := HN.out 0 c0
    obtain ⟨r0, r1, r2⟩ := fst40_range f0
    have q0 : (F 0).tdiv 40 = F 0 / 40 := Int.tdiv_eq_ediv_of_nonneg f0
    have q1 := fst40_min (x := F 0)
    have C12 : C ≤ 12 := HG.out.2.1
    have z0 : ((C : Int) == 0) = false := by simp; omega
    have z1 : (0 : Int) < C := by omega
    go_enter Try.func23, Try.ntmps23
    go_wp2_with fail
    refine HR.out.mono ?_
    rintro e w1 ⟨v, rfl, hO, hE⟩
    obtain ⟨va, vg, vc, rfl, hvg, hvn, hvc, hvO⟩ := iowns_seg hO
    obtain rfl := hvO.at' (by omega)
    have hd0 : w1.cell? ⟨vg, 0, none⟩ = some (.int .i64 (F 0)) := by simpa using hvO.cell 0 (by omega)
    have HO := hide hvO
    have HE := hide hE
    clear hO hE hvO HR
    have hP : ∃ P, fst40 (F 0) = P := ⟨_, rfl⟩
    obtain ⟨P, hP⟩ := hP
    rw [hP] at r0 r1 r2
    have HP := hide hP
    have hpc : P < 2 ∧ F 0 / 40 = P ∨ F 0 / 40 = 2 ∧ P = 2 ∨ 2 < F 0 / 40 ∧ P = 2 := by rw [← hP]; unfold fst40; split <;> omega
    have HS1 := hide (Hs.out.of_all HE.out)
    have lvg : vg < w1.heap.size := World.block_lt_of_cell? _ _ hd0
    obtain ⟨D, hD⟩ : ∃ D, C - 1 = D := ⟨_, rfl⟩
    have HD := hide hD
    have HDC : Hid (C = D + 1) := by unfold Hid; omega
    have hcc : vc = 1 ∨ (1 : Int) < vc ∧ vc ≠ 1 := by omega
    have HGe := hide (fun i => HRG.out i)
    have w0 : wrap64 (40 * P) = 40 * P := by unfold wrap64; omega
    have w0' : IntKind.i64.wrap (40 * P) = 40 * P := by rw [IntKind.wrap_i64]; omega
    obtain ⟨R, hR⟩ : ∃ R, F 0 - 40 * P = R := ⟨_, rfl⟩
    have w2 : wrap64 (F 0 - 40 * P) = R := by unfold wrap64; omega
    have w2' : IntKind.i64.wrap (F 0 - 40 * P) = R := by rw [IntKind.wrap_i64]; omega
    have HRR := hide hR
    have Hvg := hide hvg
    clear hP HRG q1 hR hvg
    rcases hcc with rfl | ⟨hcc, hcn⟩
    · rcases hpc with ⟨p0, p1⟩ | ⟨p0, p1⟩ | ⟨p0, p1⟩ <;> (
        go_wp2_with fail
        first
        | rw [show Value.int .i64 2 = Value.int .i64 P by rw [p1]]
        | skip
        clear p0 p1 q0
        obtain ⟨X, hX⟩ : ∃ X : Nat → Prop, X = fun k => w1.heap.size ≤ k := ⟨_, rfl⟩
        have x0 : ∀ k, k < w1.heap.size → ¬ X k := fun k h => by rw [hX]; simp; omega
        have x1 : ∀ k, w1.heap.size ≤ k → X k := fun k h => by rw [hX]; exact h
        clear hX
        have k0 := cell_reC hd0 (x0 _ (World.block_lt_of_cell? _ _ hd0))
        have j2 : ¬ C = 0 := h0
        refine anyK_begin X 12 rfl (by kernel_rfl) ?_
        refine anyK_take 0 7 5 rfl (by decide) (by kernel_rfl) (fun _ _ d _ _ h => by cases d <;> exact h) ?_
        repeat (refine headC_step (fun K hK => ?_); go_simp; first | (refine hK _ ?_; clear hK K) | (apply Exists.intro; refine ⟨fun _ => ?_, hK _ ?_⟩; (fail); clear hK K))
        refine headC_nil ?_
        clear k0 w0 w0' w2 w2'
        have e1 : 1 ≤ C := by omega
        have e2 : (1 : Int) ≤ C := by omega
        refine anyK_take 8 2 3 rfl (by decide) (by kernel_rfl) (fun _ _ d _ _ h => by cases d <;> exact h) ?_
        repeat (refine headC_step (fun K hK => ?_); go_simp; first | (refine hK _ ?_; clear hK K) | (apply Exists.intro; refine ⟨fun _ => ?_, hK _ ?_⟩; (fail); clear hK K))
        refine headC_nil ?_
        refine anyK_one 7 (by kernel_rfl) ?_
        refine stepK_run rfl ?_
        intro w3 h3 K2 hK2
        go_simp
        refine hK2 _ _ (.of_ext (h3.trans (Ext.alloc _ _))) ?_
        clear hK2 K2
        have HO1 := hide (World.ownsRow_lit (e := 3) (size := 1) (base := w1.heap.size) w3 #[.int .i64 P, .int .i64 R] 2 (Below.size h3) (by decide) rfl)
        have HS3 := hide (HO.out.toSeg.of_all (h3.trans (Ext.alloc w3 (.cells #[.int .i64 P, .int .i64 R] 3))))
        have E4 := hide (h3.trans (Ext.alloc w3 (.cells #[.int .i64 P, .int .i64 R] 3)))
        generalize w3.alloc (.cells #[.int .i64 P, .int .i64 R] 3) = w4 at *
        have Hl3 := hide (Below.size h3)
        generalize w3.heap.size = SL at *
        clear h3
        refine anyK_one 10 (by kernel_rfl) ?_
        refine stepK_run rfl ?_
        intro w5 h5 K2 hK2
        have HO5 := hide (iowns_ext' HO1.out h5)
        have HS5 : Hid (Seg w5 (some ⟨vg, 0, none⟩) vg 0 D (fun i => F (i + 1))) := hide ⟨fun _ => rfl, fun i hi => by
          have hh := HDC.out
          have := (HS3.out.of_all h5).cell (i + 1) (by omega)
          rw [show 0 + (i + 1) = 1 + i by omega] at this
          first
          | exact this
          | (exfalso; omega)⟩
        have E5 := hide (E4.out.trans h5)
        have hB5 : w1.heap.size ≤ w5.heap.size := Below.size E5.out
        rw [if_pos (show _ = true by kernel_rfl)]
        refine wp_append_is _ _ rfl w1.heap.size _ 2 _ rfl HO5.out _ vg 0 D _ (fun i => F (i + 1)) rfl HS5.out (by have := HDC.out; omega) hB5 ?_
        intro v6 w6 hO6 h6
        refine hK2 _ _ ((Grw.of_ext E5.out).trans (Grw.of_below h6 x1)) ?_
        clear hK2 K2
        have HL : Hid (w6.ownsRow w1.heap.size 3 1 v6 (C + 1) (ints (roG f n) (C + 1))) := by
          unfold Hid
          have hh := HDC.out
          have e : ([.int .i64 P, .int .i64 R] : List Value) = ints (fun i => if i = 0 then P else R) 2 := rfl
          rw [show ((#[Value.int .i64 P, .int .i64 R]).toList ++ ints (fun i => F (i + 1)) D) = ints (fun i => if i = 0 then P else R) 2 ++ ints (fun i => F (i + 1)) D from rfl, intz_append] at hO6
          rw [show C + 1 = 2 + D by omega]
          refine iowns_congr hO6 (fun i hi => ?_)
          rw [HGe.out i, HP.out]
          exact two_list HRR.out i
        have HE6 : Hid (Ext w w6) := hide (Below.trans (HE.out.trans E5.out) (Below.mono h6 (Below.size HE.out)))
        have HE16 : Hid (Below w1.heap.size w1 w6) := hide (Below.trans E5.out h6)
        have HS6 := hide (HS1.out.of_all HE16.out)
        clear hO6 h6 HS5 HO5 HS3 HO1 E4 h5 E5 hB5
        obtain ⟨xa, xg, xc, rfl, hxg, hxn, hxc, hxO⟩ := iowns_seg HL.out
        have HX := hide hxO
        have Hxg := hide hxg
        clear hxO hxg HL
        refine anyK_take 11 1 0 rfl (by decide) (by kernel_rfl) (fun _ _ d _ _ h => by cases d <;> exact h) ?_
        repeat (refine headC_step (fun K hK => ?_); go_simp; first | (refine hK _ ?_; clear hK K) | (apply Exists.intro; refine ⟨fun _ => ?_, hK _ ?_⟩; (fail); clear hK K))
        refine headC_nil ?_
        refine anyK_done (by kernel_rfl) ?_ 0
        intro w7 h7
        replace HX := hide (HX.out.of_all h7)
        replace HE6 := hide (HE6.out.trans h7)
        replace HS6 := hide (HS6.out.of_all h7)
        clear h7 x0 x1 X HE16
        rw [HRN.out] at HB HM
        obtain ⟨OK, hOK⟩ : ∃ OK, oidB (roG f n) (C + 1) = OK := ⟨_, rfl⟩
        have HOB := hide (implOidBytes_any xa xg 0 (C + 1) xc (roG f n) w7 hxn hxc HX.out.toSeg)
        rw [hOK] at HOB HB
        have HOK := hide hOK
        clear hOK
        go_wp2_with fail
        refine HOB.out.mono ?_
        rintro e w8 ⟨ya, yg, yc, rfl, hyg, hyO, hyE⟩
        clear HOB
        have HY := hide hyO.toBSeg
        replace HX := hide (HX.out.of_all hyE)
        replace HE6 : Hid (Ext w w8) := hide (HE6.out.trans hyE)
        replace HS6 := hide (HS6.out.of_all hyE)
        clear hyE hyO hyg
        have Hw1 := hide (Nat.le_trans (Below.size HE.out) Hxg.out)
        cases OK with
        | false =>
          have HF : Hid (roB f n = false) := by unfold Hid; rw [HB.out, Bool.false_and, Bool.and_false]
          have HM0 : Hid (roM f n = 0) := by unfold Hid; rw [HM.out, HF.out]; rfl
          go_wp2
          go_ret2
          rw [HM0.out]
          exact ⟨_, w8.heap.size, _, ret_so HF.out.symm, Below.size HE6.out, Own.nil _ _ _ _ _, HE6.out.trans (Ext.alloc _ _), by omega, by omega⟩
        | true =>
          go_wp2_with fail
          refine (bytesEqual_any ya yg 0 _ yc _ _ b off n _ f w8 HY.out HS6.out (oF_range _ _) Hy.out).mono ?_
          rintro e w9 ⟨rfl, hw9⟩
          subst hw9
          have HB2 : Hid (roB f n = (oidM (roG f n) (C + 1) == n && alike (oF (roG f n) (C + 1 - 2)) f (oidM (roG f n) (C + 1)))) := by
            unfold Hid; rw [HB.out, decide_eq_true c0, Bool.true_and, Bool.true_and]
          rw [← HB2.out]
          obtain ⟨r, hr⟩ : ∃ r, roB f n = r := ⟨_, rfl⟩
          rw [hr]
          have Hr := hide hr
          clear hr
          cases r with
          | false =>
            have HM0 : Hid (roM f n = 0) := by unfold Hid; rw [HM.out, Hr.out]; rfl
            go_wp2
            go_ret2
            rw [HM0.out]
            exact ⟨_, _, _, ret_so Hr.out.symm, Below.size HE6.out, Own.nil _ _ _ _ _, HE6.out.trans (Ext.alloc _ _), by omega, by omega⟩
          | true =>
            have HM0 : Hid (roM f n = C + 1) := by unfold Hid; rw [HM.out, Hr.out]; rfl
            go_wp2
            go_ret2
            rw [HM0.out]
            exact ⟨_, xg, _, ret_so Hr.out.symm, Hw1.out, HX.out, HE6.out, hxn, hxc⟩)
    · rcases hpc with ⟨p0, p1⟩ | ⟨p0, p1⟩ | ⟨p0, p1⟩ <;> (
        go_wp2_with fail
        first
        | rw [show Value.int .i64 2 = Value.int .i64 P by rw [p1]]
        | skip
        clear p0 p1 q0
        obtain ⟨X, hX⟩ : ∃ X : Nat → Prop, X = fun k => w1.heap.size ≤ k := ⟨_, rfl⟩
        have x0 : ∀ k, k < w1.heap.size → ¬ X k := fun k h => by rw [hX]; simp; omega
        have x1 : ∀ k, w1.heap.size ≤ k → X k := fun k h => by rw [hX]; exact h
        clear hX
        have k0 := cell_reC hd0 (x0 _ (World.block_lt_of_cell? _ _ hd0))
        have j2 : ¬ C = 0 := h0
        refine anyK_begin X 12 rfl (by kernel_rfl) ?_
        refine anyK_take 0 7 5 rfl (by decide) (by kernel_rfl) (fun _ _ d _ _ h => by cases d <;> exact h) ?_
        repeat (refine headC_step (fun K hK => ?_); go_simp; first | (refine hK _ ?_; clear hK K) | (apply Exists.intro; refine ⟨fun _ => ?_, hK _ ?_⟩; (fail); clear hK K))
        refine headC_nil ?_
        clear k0 w0 w0' w2 w2'
        have e1 : 1 ≤ C := by omega
        have e2 : (1 : Int) ≤ C := by omega
        refine anyK_take 8 2 3 rfl (by decide) (by kernel_rfl) (fun _ _ d _ _ h => by cases d <;> exact h) ?_
        repeat (refine headC_step (fun K hK => ?_); go_simp; first | (refine hK _ ?_; clear hK K) | (apply Exists.intro; refine ⟨fun _ => ?_, hK _ ?_⟩; (fail); clear hK K))
        refine headC_nil ?_
        refine anyK_one 7 (by kernel_rfl) ?_
        refine stepK_run rfl ?_
        intro w3 h3 K2 hK2
        go_simp
        refine hK2 _ _ (.of_ext (h3.trans (Ext.alloc _ _))) ?_
        clear hK2 K2
        have HO1 := hide (World.ownsRow_lit (e := 3) (size := 1) (base := w1.heap.size) w3 #[.int .i64 P, .int .i64 R] 2 (Below.size h3) (by decide) rfl)
        have HS3 := hide (HO.out.toSeg.of_all (h3.trans (Ext.alloc w3 (.cells #[.int .i64 P, .int .i64 R] 3))))
        have E4 := hide (h3.trans (Ext.alloc w3 (.cells #[.int .i64 P, .int .i64 R] 3)))
        generalize w3.alloc (.cells #[.int .i64 P, .int .i64 R] 3) = w4 at *
        have Hl3 := hide (Below.size h3)
        generalize w3.heap.size = SL at *
        clear h3
        refine anyK_one 10 (by kernel_rfl) ?_
        refine stepK_run rfl ?_
        intro w5 h5 K2 hK2
        have HO5 := hide (iowns_ext' HO1.out h5)
        have HS5 : Hid (Seg w5 (some ⟨vg, 1, none⟩) vg 1 D (fun i => F (i + 1))) := hide ⟨fun _ => rfl, fun i hi => by
          have hh := HDC.out
          have := (HS3.out.of_all h5).cell (i + 1) (by omega)
          rw [show 0 + (i + 1) = 1 + i by omega] at this
          first
          | exact this
          | (exfalso; omega)⟩
        have E5 := hide (E4.out.trans h5)
        have hB5 : w1.heap.size ≤ w5.heap.size := Below.size E5.out
        rw [if_pos (show _ = true by kernel_rfl)]
        refine wp_append_is _ _ rfl w1.heap.size _ 2 _ rfl HO5.out _ vg 1 D _ (fun i => F (i + 1)) rfl HS5.out (by have := HDC.out; omega) hB5 ?_
        intro v6 w6 hO6 h6
        refine hK2 _ _ ((Grw.of_ext E5.out).trans (Grw.of_below h6 x1)) ?_
        clear hK2 K2
        have HL : Hid (w6.ownsRow w1.heap.size 3 1 v6 (C + 1) (ints (roG f n) (C + 1))) := by
          unfold Hid
          have hh := HDC.out
          have e : ([.int .i64 P, .int .i64 R] : List Value) = ints (fun i => if i = 0 then P else R) 2 := rfl
          rw [show ((#[Value.int .i64 P, .int .i64 R]).toList ++ ints (fun i => F (i + 1)) D) = ints (fun i => if i = 0 then P else R) 2 ++ ints (fun i => F (i + 1)) D from rfl, intz_append] at hO6
          rw [show C + 1 = 2 + D by omega]
          refine iowns_congr hO6 (fun i hi => ?_)
          rw [HGe.out i, HP.out]
          exact two_list HRR.out i
        have HE6 : Hid (Ext w w6) := hide (Below.trans (HE.out.trans E5.out) (Below.mono h6 (Below.size HE.out)))
        have HE16 : Hid (Below w1.heap.size w1 w6) := hide (Below.trans E5.out h6)
        have HS6 := hide (HS1.out.of_all HE16.out)
        clear hO6 h6 HS5 HO5 HS3 HO1 E4 h5 E5 hB5
        obtain ⟨xa, xg, xc, rfl, hxg, hxn, hxc, hxO⟩ := iowns_seg HL.out
        have HX := hide hxO
        have Hxg := hide hxg
        clear hxO hxg HL
        refine anyK_take 11 1 0 rfl (by decide) (by kernel_rfl) (fun _ _ d _ _ h => by cases d <;> exact h) ?_
        repeat (refine headC_step (fun K hK => ?_); go_simp; first | (refine hK _ ?_; clear hK K) | (apply Exists.intro; refine ⟨fun _ => ?_, hK _ ?_⟩; (fail); clear hK K))
        refine headC_nil ?_
        refine anyK_done (by kernel_rfl) ?_ 0
        intro w7 h7
        replace HX := hide (HX.out.of_all h7)
        replace HE6 := hide (HE6.out.trans h7)
        replace HS6 := hide (HS6.out.of_all h7)
        clear h7 x0 x1 X HE16
        rw [HRN.out] at HB HM
        obtain ⟨OK, hOK⟩ : ∃ OK, oidB (roG f n) (C + 1) = OK := ⟨_, rfl⟩
        have HOB := hide (implOidBytes_any xa xg 0 (C + 1) xc (roG f n) w7 hxn hxc HX.out.toSeg)
        rw [hOK] at HOB HB
        have HOK := hide hOK
        clear hOK
        go_wp2_with fail
        refine HOB.out.mono ?_
        rintro e w8 ⟨ya, yg, yc, rfl, hyg, hyO, hyE⟩
        clear HOB
        have HY := hide hyO.toBSeg
        replace HX := hide (HX.out.of_all hyE)
        replace HE6 : Hid (Ext w w8) := hide (HE6.out.trans hyE)
        replace HS6 := hide (HS6.out.of_all hyE)
        clear hyE hyO hyg
        have Hw1 := hide (Nat.le_trans (Below.size HE.out) Hxg.out)
        cases OK with
        | false =>
          have HF : Hid (roB f n = false) := by unfold Hid; rw [HB.out, Bool.false_and, Bool.and_false]
          have HM0 : Hid (roM f n = 0) := by unfold Hid; rw [HM.out, HF.out]; rfl
          go_wp2
          go_ret2
          rw [HM0.out]
          exact ⟨_, w8.heap.size, _, ret_so HF.out.symm, Below.size HE6.out, Own.nil _ _ _ _ _, HE6.out.trans (Ext.alloc _ _), by omega, by omega⟩
        | true =>
          go_wp2_with fail
          refine (bytesEqual_any ya yg 0 _ yc _ _ b off n _ f w8 HY.out HS6.out (oF_range _ _) Hy.out).mono ?_
          rintro e w9 ⟨rfl, hw9⟩
          subst hw9
          have HB2 : Hid (roB f n = (oidM (roG f n) (C + 1) == n && alike (oF (roG f n) (C + 1 - 2)) f (oidM (roG f n) (C + 1)))) := by
            unfold Hid; rw [HB.out, decide_eq_true c0, Bool.true_and, Bool.true_and]
          rw [← HB2.out]
          obtain ⟨r, hr⟩ : ∃ r, roB f n = r := ⟨_, rfl⟩
          rw [hr]
          have Hr := hide hr
          clear hr
          cases r with
          | false =>
            have HM0 : Hid (roM f n = 0) := by unfold Hid; rw [HM.out, Hr.out]; rfl
            go_wp2
            go_ret2
            rw [HM0.out]
            exact ⟨_, _, _, ret_so Hr.out.symm, Below.size HE6.out, Own.nil _ _ _ _ _, HE6.out.trans (Ext.alloc _ _), by omega, by omega⟩
          | true =>
            have HM0 : Hid (roM f n = C + 1) := by unfold Hid; rw [HM.out, Hr.out]; rfl
            go_wp2
            go_ret2
            rw [HM0.out]
            exact ⟨_, xg, _, ret_so Hr.out.symm, Hw1.out, HX.out, HE6.out, hxn, hxc⟩)

theorem implReadOid_any (a : Option Addr) (b off n cap : Nat) (f : Nat → Int) (w : World) (hn : n ≤ 1048576) (hs : BSeg w a b off n f) (hy : ∀ i, i < n → 0 ≤ f i ∧ f i < 256) :
    Calls Try.prog 23 #[.slice a n cap] w fun e w' => GivesIo w (roM f n) (roG f n) (roB f n) e w' := by
  refine (implReadOid_cap a b off n cap f w hn hs hy).mono ?_
  rintro e w' ⟨a, g, c, rfl, h1, h2, h3, -, -⟩
  exact ⟨a, g, c, rfl, h1, h2, h3⟩

theorem l1Min_int (x y : Int) (w : World) : Calls Try.prog 42 #[.int .i64 x, .int .i64 y] w fun e w' => e = .returned (.int .i64 (if x < y then x else y)) ∧ w' = w := by
  by_cases h : x < y
  · rw [if_pos h]
    go_enter Try.func42, Try.ntmps42
    go_wp2
    go_ret
    exact ⟨rfl, rfl⟩
  · rw [if_neg h]
    go_enter Try.func42, Try.ntmps42
    go_wp2
    go_ret
    exact ⟨rfl, rfl⟩

set_option maxHeartbeats 3200000 in
set_option maxRecDepth 100000 in
theorem specReadOid_any (a : Option Addr) (b off n cap : Nat) (f : Nat → Int) (w : World) (hn : n ≤ 1048576) (hs : BSeg w a b off n f) (hy : ∀ i, i < n → 0 ≤ f i ∧ f i < 256) :
    Calls Try.prog 22 #[.slice a n cap] w fun e w' => GivesIo w (roM f n) (roG f n) (roB f n) e w' := by
  have HMS := hide (mst_ok (f := f) (n := n))
  have HM : Hid (roM f n = if roB f n = true then roN f n else 0) := rfl
  have Hs := hide hs
  have Hy := hide hy
  clear hs hy
  have HO : Hid (((w.alloc (.cells #[] 3)).alloc (.cells #[] 3)).ownsRow w.heap.size 3 1 (.slice (some ⟨w.heap.size + 1, 0, none⟩) 0 0) 0 (ints (fun _ => 0) 0)) := by
    have := World.ownsRow_made (base := w.heap.size) (e := 3) (size := 1) (w.alloc (.cells #[] 3)) #[] 0 (by simp) (by simp) rfl
    unfold Hid
    rw [show ints (fun _ => 0) 0 = [] from rfl]
    simpa using this
  have HE := hide ((Ext.alloc w (.cells #[] 3)).trans (Ext.alloc _ (.cells #[] 3)))
  go_enter Try.func22, Try.ntmps22
  go_wp2
  rename_i K hK
  have HK := hide hK
  clear hK
  go_loopw [5, 6, 7] (fun v x i wr => ∃ p : Nat, p ≤ n ∧ i = .int .i64 (p : Int) ∧ x = .int .i64 (mst f p).acc ∧ wr.ownsRow w.heap.size 3 1 v (mst f p).cnt (ints (mst f p).F (mst f p).cnt) ∧ Ext w wr) (fun _ _ i _ => n - (intOf i).toNat)
  case atStart => exact ⟨0, by omega, rfl, rfl, HO.out, HE.out⟩
  case round =>
    clear HO HE
    obtain ⟨p, hp, rfl, rfl, hO, hE⟩ := hrel
    have HO := hide hO
    have HE := hide hE
    clear hO hE
    obtain ⟨g1, g2, g3⟩ := mst_good Hy.out p hp
    by_cases hlt : p < n
    · have hpn : (p : Int) < n := by omega
      obtain rfl := Hs.out.at' (by omega)
      have hc := Hs.out.cell p hlt
      have hc2 : wr.cell? ⟨b, off + p, none⟩ = some (.int .u8 (f p)) := by
        rw [World.cell?_of_block (a := ⟨b, off + p, none⟩) (Below.block HE.out b (World.block_lt_of_cell? _ _ hc))]; exact hc
      obtain ⟨y0, y1⟩ := Hy.out p hlt
      have HP : Hid (mst f (p + 1) = mStep (mst f p) (f p)) := rfl
      clear hc
      obtain ⟨s, hsE⟩ : ∃ s, mst f p = s := ⟨_, rfl⟩
      rw [hsE] at HO g1 g2 g3 HP ⊢
      clear hsE
      obtain ⟨c, F, acc, stop⟩ := s
      simp only at HO g1 g2 g3 ⊢
      obtain ⟨x, hx⟩ : ∃ x, f p = x := ⟨_, rfl⟩
      rw [hx] at hc2 y0 y1 HP
      clear hx
      obtain ⟨A, hA⟩ : ∃ A, (if acc * 128 + x % 128 < 1099511627776 then acc * 128 + x % 128 else 1099511627776) = A := ⟨_, rfl⟩
      have a0 : 0 ≤ A := by rw [← hA]; split <;> omega
      have a1 : A ≤ 1099511627776 := by rw [← hA]; split <;> omega
      have HAA := hide hA
      have HPs : Hid (mst f (p + 1) = if 128 ≤ x then ⟨c, F, A, false⟩ else if c = 0 then ⟨2, fun i => if i = 0 then fst40 A else A - 40 * fst40 A, 0, false⟩ else ⟨c + 1, updN F c A, 0, false⟩) := by
        unfold Hid
        rw [HP.out]
        unfold mStep mAcc
        simp only [hA]
      have t1 : x.tmod 128 = x % 128 := Int.tmod_eq_emod_of_nonneg y0
      have b3 : 0 ≤ acc * 128 := by omega
      have b4 : acc * 128 ≤ 140737488355328 := by omega
      have b5 : 0 ≤ x % 128 := by omega
      have b6 : x % 128 < 128 := by omega
      obtain ⟨va, vg, vc, rfl, hvg, -, -, -⟩ := iowns_seg HO.out
      have Hsz := hide (Below.size HE.out)
      clear HP hA hvg
      go_wp2_with fail
      refine (l1Min_int (acc * 128 + x % 128) 1099511627776 wr).mono ?_
      rintro e w0 ⟨rfl, hw0⟩
      subst hw0
      rw [HAA.out]
      by_cases z3 : 128 ≤ x
      · have HN : Hid (mst f (p + 1) = ⟨c, F, A, false⟩) := by
          unfold Hid; rw [HPs.out, if_pos z3]
        clear HPs
        go_wp2
        go_roundw
        case rel => exact ⟨p + 1, by omega, by go_num, by rw [HN.out], by rw [HN.out]; exact HO.out, HE.out⟩
        case measure => simp [intOf]; omega
      by_cases z0 : c = 0
      · have HN : Hid (mst f (p + 1) = ⟨2, fun i => if i = 0 then fst40 A else A - 40 * fst40 A, 0, false⟩) := by
          unfold Hid; rw [HPs.out, if_neg z3, if_pos z0]
        subst z0
        obtain ⟨q0, q1, q2⟩ := fst40_range a0
        have HFq : Hid ((if 2 < A / 40 then 2 else A / 40) = fst40 A) := rfl
        have t2 : A.tdiv 40 = A / 40 := Int.tdiv_eq_ediv_of_nonneg a0
        have t3 : 0 ≤ A / 40 := by omega
        have t4 : A / 40 ≤ 1099511627776 := by omega
        clear HPs
        go_wp2_with fail
        refine (l1Min_int 2 (A / 40) _).mono ?_
        rintro e w0 ⟨rfl, hw0⟩
        subst hw0
        rw [HFq.out]
        obtain ⟨Q, hQ⟩ : ∃ Q, fst40 A = Q := ⟨_, rfl⟩
        rw [hQ] at q0 q1 q2 ⊢
        have HQ := hide hQ
        clear hQ t3 t4
        have HX := hide (seg_one w0 Q)
        have HO2 := hide (HO.out.alloc (.cells #[.int .i64 Q] 3))
        go_wp2_with (at_builtin; refine wpList_append_is rfl _ _ rfl w.heap.size _ 0 (ints F 0) rfl HO2.out _ w0.heap.size 0 1 1 (fun _ => Q) rfl HX.out (by omega) (by have := Hsz.out; simp; omega) ?_)
        intro v' w1 h2 h3
        rw [intz_append] at h2
        replace HO := hide h2
        replace HE : Hid (Ext w w1) := hide (Below.trans (Ext.trans HE.out (Ext.alloc _ _)) h3)
        replace Hsz := hide (Below.size HE.out)
        clear h2 h3 HO2 HX
        obtain ⟨R, hR⟩ : ∃ R, A - 40 * Q = R := ⟨_, rfl⟩
        have HR := hide hR
        have HX := hide (seg_one w1 R)
        have HO2 := hide (HO.out.alloc (.cells #[.int .i64 R] 3))
        go_wp2_with (at_builtin; refine wpList_append_is rfl _ _ rfl w.heap.size _ (0 + 1) _ rfl HO2.out _ w1.heap.size 0 1 1 (fun _ => R) rfl HX.out (by omega) (by have := Hsz.out; simp; omega) ?_)
        intro v' w2 h2 h3
        rw [intz_append] at h2
        replace HO : Hid (w2.ownsRow w.heap.size 3 1 v' 2 (ints (fun i => if i = 0 then fst40 A else A - 40 * fst40 A) 2)) := by
          unfold Hid
          refine iowns_congr h2 (fun i hi => ?_)
          rw [HQ.out, HR.out]
          match i, hi with
          | 0, _ => rfl
          | 1, _ => rfl
        replace HE : Hid (Ext w w2) := hide (Below.trans (Ext.trans HE.out (Ext.alloc _ _)) h3)
        clear h2 h3 HO2 HX
        go_wp2
        go_roundw
        case rel => exact ⟨p + 1, by omega, by go_num, by rw [HN.out], by rw [HN.out]; exact HO.out, HE.out⟩
        case measure => simp [intOf]; omega
      · have z2 : ((c : Int) == 0) = false := by simp; omega
        have HN : Hid (mst f (p + 1) = ⟨c + 1, updN F c A, 0, false⟩) := by
          unfold Hid; rw [HPs.out, if_neg z3, if_neg z0]
        have HX := hide (seg_one w0 A)
        have HO2 := hide (HO.out.alloc (.cells #[.int .i64 A] 3))
        clear HPs
        go_wp2_with (at_builtin; refine wpList_append_is rfl _ _ rfl w.heap.size _ c (ints F c) rfl HO2.out _ w0.heap.size 0 1 1 (fun _ => A) rfl HX.out (by omega) (by have := Hsz.out; simp; omega) ?_)
        intro v' w1 h2 h3
        rw [intz_append] at h2
        have H2 := hide (updN_own h2)
        have H3 : Hid (Ext w w1) := hide (Below.trans (Ext.trans HE.out (Ext.alloc _ _)) h3)
        clear h2 h3 HO HO2 HX
        go_wp2
        go_roundw
        case rel => exact ⟨p + 1, by omega, by go_num, by rw [HN.out], by rw [HN.out]; exact H2.out, H3.out⟩
        case measure => simp [intOf]; omega
    · obtain rfl : p = n := by omega
      have HC := hide g2
      clear g1 g2 g3
      have HS6 := hide (Hs.out.of_all HE.out)
      obtain ⟨s, hsE⟩ : ∃ s, mst f p = s := ⟨_, rfl⟩
      rw [hsE] at HO HMS HC ⊢
      clear hsE
      obtain ⟨c, F, acc, stop⟩ := s
      simp only at HO HMS HC ⊢
      obtain ⟨xa, xg, xc, rfl, hxg, hxn, hxc, hxO⟩ := iowns_seg HO.out
      have HX := hide hxO
      have Hxg := hide hxg
      clear hxO hxg HO
      have HOB := hide (specOidBytes_any xa xg 0 c xc F wr hxn hxc HX.out.toSeg)
      obtain ⟨OK, hOK⟩ : ∃ OK, oidB F c = OK := ⟨_, rfl⟩
      rw [hOK] at HOB HMS
      have HOK := hide hOK
      clear hOK
      go_wp2
      apply HK.out
      clear HK
      go_wp2_with fail
      refine HOB.out.mono ?_
      rintro e w8 ⟨ya, yg, yc, rfl, hyg, hyO, hyE⟩
      clear HOB
      have HY := hide hyO.toBSeg
      replace HX := hide (HX.out.of_all hyE)
      replace HE : Hid (Ext w w8) := hide (HE.out.trans hyE)
      replace HS6 := hide (HS6.out.of_all hyE)
      clear hyE hyO hyg
      cases OK with
      | false =>
        have HF : Hid (roB f p = false) := by unfold Hid; rw [← HMS.out.1, Bool.false_and]
        have HM0 : Hid (roM f p = 0) := by unfold Hid; rw [HM.out, HF.out]; rfl
        go_wp2
        go_ret2
        rw [HM0.out]
        exact ⟨_, w.heap.size, _, ret_so HF.out.symm, Nat.le_refl _, Own.nil _ _ _ _ _, HE.out⟩
      | true =>
        go_wp2_with fail
        refine (l1Same_any ya yg 0 _ yc _ _ b off p _ f w8 HY.out HS6.out (oF_range _ _) Hy.out).mono ?_
        rintro e w9 ⟨rfl, hw9⟩
        subst hw9
        have HB2 := HMS.out.1
        rw [Bool.true_and] at HB2
        rw [HB2]
        have HMB := hide HMS.out.2
        clear HB2 HMS
        obtain ⟨r, hr⟩ : ∃ r, roB f p = r := ⟨_, rfl⟩
        rw [hr]
        have Hr := hide hr
        clear hr
        cases r with
        | false =>
          have HM0 : Hid (roM f p = 0) := by unfold Hid; rw [HM.out, Hr.out]; rfl
          go_wp2
          go_ret2
          rw [HM0.out]
          exact ⟨_, w.heap.size, _, ret_so Hr.out.symm, Nat.le_refl _, Own.nil _ _ _ _ _, HE.out⟩
        | true =>
          have HM0 : Hid (roM f p = c) := by unfold Hid; rw [HM.out, Hr.out]; exact (HMB.out Hr.out).1.symm
          go_wp2
          go_ret2
          rw [HM0.out]
          exact ⟨_, xg, _, ret_so Hr.out.symm, Hxg.out, HX.out.congr (fun i hi => (HMB.out Hr.out).2 i (by rw [← (HMB.out Hr.out).1]; exact hi)), HE.out⟩

end Go.Proofs.Ytjkojofpkeglpaa
