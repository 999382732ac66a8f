/- Walks: PssOk of the model. -/
import Derived.Test.YtjkojofpkeglpabPssB
namespace Go.Proofs.Ytjkojofpkeglpab
set_option linter.unusedVariables false
set_option linter.unusedSimpArgs false
open Go.RowKit

theorem Grw.of_belowC {X : Nat → Prop} {B : Nat} {a b : World} (h : Below B a b) (hX : ∀ k, B ≤ k → X k) : Grw X a b :=
  ⟨h.os, h.tape, h.output, h.size, fun k hk hn => h.block k (by
    by_cases hh : k < B
    · exact hh
    · exact absurd (hX k (by omega)) hn)⟩
theorem owns_setC {w : World} {base g n cap : Nat} {F : Nat → Int} (h : w.ownsRow base 5 1 (.slice (some ⟨g, 0, none⟩) n cap) n (byts F n)) (x : Int) :
    (w.setCell ⟨g, 0, none⟩ (.int .u8 x)).ownsRow base 5 1 (.slice (some ⟨g, 0, none⟩) n cap) n (byts (fun k => if k = 0 then x else F k) n) := by
  have := (World.ownsRow.stored h 0 (.int .u8 x)).1
  have e : (byts F n).set 0 (.int .u8 x) = byts (fun k => if k = 0 then x else F k) n := by
    cases n with
    | zero => rfl
    | succ n =>
      simp only [byts, List.range_succ_eq_map, List.map_cons, List.set_cons_zero, List.map_map]
      rfl
  rwa [e] at this
theorem shr_cond {x : Int} {t : Nat} (h0 : 0 ≤ x) : (x / 2 ^ t != 0) = !decide (x < 2 ^ t) := by
  have hp : (0 : Int) < 2 ^ t := Int.pow_pos (by omega)
  by_cases h : x < 2 ^ t
  · rw [Int.ediv_eq_zero_of_lt h0 h, decide_eq_true h]; rfl
  · rw [decide_eq_false h]
    have h1 := Int.emod_add_mul_ediv x (2 ^ t)
    have h2 := Int.emod_lt_of_pos x hp
    have h3 : x / 2 ^ t ≠ 0 := fun h4 => by
      rw [h4, Int.mul_zero] at h1
      omega
    simp [h3]

theorem two_pow_range {t : Nat} (h1 : 1 ≤ t) (h8 : t ≤ 8) : 2 ≤ (2 : Int) ^ t ∧ (2 : Int) ^ t ≤ 256 := by
  have : t = 1 ∨ t = 2 ∨ t = 3 ∨ t = 4 ∨ t = 5 ∨ t = 6 ∨ t = 7 ∨ t = 8 := by omega
  rcases this with rfl | rfl | rfl | rfl | rfl | rfl | rfl | rfl <;> decide

structure RM (u P z : Int) : Prop where
  m0 : u.tmod P = z
  m3 : z % 256 = z
  m4 : IntKind.u8.wrap z = z
  m5 : wrap64 P = P
  m6 : IntKind.i64.wrap P = P
  m7 : IntKind.i64.wrap (1 * P) = P
  m8 : (P == 0) = false
  m9 : IntKind.i64.wrap z = z
  mc : IntKind.i64.wrap u = u
  P0 : ¬ P = 0
  z0 : 0 ≤ z
  z1 : z < 256
theorem rm_of {u P : Int} (h0 : 0 ≤ u) (h1 : u < 256) (p0 : 2 ≤ P) (p1 : P ≤ 256) : RM u P (u % P) := by
  have a1 : 0 ≤ u % P := Int.emod_nonneg _ (by omega)
  have a2 : u % P < P := Int.emod_lt_of_pos _ (by omega)
  have a0 : u.tmod P = u % P := Int.tmod_eq_emod_of_nonneg h0
  generalize u % P = z at *
  exact ⟨a0, by omega, by rw [IntKind.wrap_u8]; omega, by unfold wrap64; omega, by rw [IntKind.wrap_i64]; omega, by rw [IntKind.wrap_i64]; omega, by simp; omega, by rw [IntKind.wrap_i64]; omega, by rw [IntKind.wrap_i64]; omega, by omega, a1, by omega⟩
theorem first_cell {w : World} {base g k cap : Nat} {F : Nat → Int} (h : w.ownsRow base 5 1 (.slice (some ⟨g, 0, none⟩) k cap) k (byts F k)) (hk : 0 < k) : w.cell? ⟨g, 0, none⟩ = some (.int .u8 (F 0)) := by
  rw [World.ownsRow.cellAt h 0 (by omega)]
  simp [byts, hk]
theorem cell_reF {w : World} {a : Addr} {v : Value} (h : w.cell? a = some v) (p : ReC (fun _ => False) w) : p.val.cell? a = some v := cell_reC h (fun h => h) p
theorem unmF_range (fw fe : Nat → Int) (i : Nat) : 0 ≤ unmF fw fe i ∧ unmF fw fe i < 256 := xor8_range _ _

theorem owns_bseg {w : World} {base g n cap : Nat} {F : Nat → Int} (h : w.ownsRow base 5 1 (.slice (some ⟨g, 0, none⟩) n cap) n (byts F n)) : BSeg w (some ⟨g, 0, none⟩) g 0 n F :=
  ⟨fun _ => rfl, fun i hi => by
    rw [Nat.zero_add, World.ownsRow.cellAt h i (by omega)]
    simp [byts, hi]⟩
structure PF (A k yc : Nat) : Prop where
  f0 : (k : Int) - 4 = (A : Int)
  f1 : (A : Int) ≤ k
  f2 : (A : Int) ≤ yc
  f3 : A ≤ yc
  f4 : ¬ yc = A
  f5 : A ≤ k
  f6 : k - A = 4
  f7 : wrap64 (A : Int) = (A : Int)
  f8 : IntKind.i64.wrap (A : Int) = (A : Int)
  f9 : k ≤ yc
theorem pf_of {A k yc : Nat} (h : A + 4 = k) (hy : k ≤ yc) (h3 : 3 ≤ A) (h5 : A ≤ 51) : PF A k yc :=
  ⟨by omega, by omega, by omega, by omega, by omega, by omega, by omega, wrapN1 (by omega), wrapN2 (by omega), hy⟩

/-- The numbers that go with a size. -/
structure PN (n K cap L D s t : Nat) : Prop where
  n16 : 16 ≤ n
  n64 : n ≤ 64
  tq : ((K : Int) + 7).tdiv 8 = (n : Int)
  c1 : (K : Int) ≤ 511
  hL : n - 1 = L
  hD : n - 9 = D
  hLz : (n : Int) - 1 = (L : Int)
  hDz : (n : Int) - 9 = (D : Int)
  hsE : 8 * n - K = s
  hsz : 8 * (n : Int) - (K : Int) = (s : Int)
  s8 : s < 8
  ht : 8 - s = t
  htz : (8 : Int) - (s : Int) = (t : Int)
  t1 : 1 ≤ t
  t8 : t ≤ 8
  lD : L = D + 8
  d7 : 7 ≤ D
  d55 : D ≤ 55
  q1 : (D : Int) ≤ cap
  q2 : (L : Int) ≤ cap
  q3 : (D : Int) ≤ L
  q4 : (0 : Int) ≤ D
  q5 : (L : Int) < n
  q6 : (L : Int) - D = 8
  q7 : L - D = 8
  q8 : ¬ cap = D
  q9 : (0 : Int) < D
  p1 : D ≤ cap
  p2 : L ≤ cap
  p3 : D ≤ L
  l63 : L ≤ 63
  i127 : (127 : Int) ≤ (K : Int)
  z0 : (K : Int) + 7 ≤ 518
  d13 : n - 13 + 4 = D
theorem pn_of {n K cap : Nat} (hnc : n ≤ cap) (k0 : 127 ≤ K) (k1 : K ≤ 511) (hn : n = (K + 7) / 8) : PN n K cap (n - 1) (n - 9) (8 * n - K) (8 - (8 * n - K)) := by
  have h1 : 16 ≤ n := by omega
  have h2 : n ≤ 64 := by omega
  have h3 : K ≤ 8 * n := by omega
  have h4 : 8 * n < K + 8 := by omega
  have h5 : ((K : Int) + 7) / 8 = (n : Int) := by omega
  clear hn
  constructor
  · clear h5; omega
  · clear h5; omega
  · rw [Int.tdiv_eq_ediv_of_nonneg (by omega)]; exact h5
  · clear h5; omega
  · clear h5; omega
  · clear h5; omega
  · clear h5; omega
  · clear h5; omega
  · clear h5; omega
  · clear h5; omega
  · clear h5; omega
  · clear h5; omega
  · clear h5; omega
  · clear h5; omega
  · clear h5; omega
  · clear h5; omega
  · clear h5; omega
  · clear h5; omega
  · clear h5; omega
  · clear h5; omega
  · clear h5; omega
  · clear h5; omega
  · clear h5; omega
  · clear h5; omega
  · clear h5; omega
  · clear h5; omega
  · clear h5; omega
  · clear h5; omega
  · clear h5; omega
  · clear h5; omega
  · clear h5; omega
  · clear h5; omega
  · clear h5; omega
  · clear h5; omega

set_option maxHeartbeats 3200000 in
set_option maxRecDepth 100000 in
theorem specPssOk_yes (b off n cap : Nat) (fe : Nat → Int) (K : Nat) (ha : Option Addr) (hb hoff hcap : Nat) (fh : Nat → Int) (w : World) (hnc : n ≤ cap) (hcb : cap ≤ 9223372036854775807) (k0 : 127 ≤ K) (k1 : K ≤ 511) (hn : n = (K + 7) / 8)
    (hs : BSeg w (some ⟨b, off, none⟩) b off n fe) (hy : ∀ i, i < n → 0 ≤ fe i ∧ fe i < 256) (hh : BSeg w ha hb hoff 8 fh) (hhy : ∀ i, i < 8 → 0 ≤ fh i ∧ fh i < 256) :
    Calls Try.prog 19 #[.slice (some ⟨b, off, none⟩) n cap, .int .i64 (K : Int), .slice ha 8 hcap] w fun e w' => e = .returned (.bool (pssT fe n (8 * n - K) fh)) ∧ Ext w w' := by
  have Hs := hide hs
  have Hy := hide hy
  have Hh := hide hh
  have Hhy := hide hhy
  have HI := hide (l1In_int (K : Int) 127 511 w)
  rw [decide_eq_true (pn_of hnc k0 k1 hn).i127, decide_eq_true (pn_of hnc k0 k1 hn).c1] at HI
  have cn : ((n : Int) != (n : Int)) = false := by simp
  have HPN := hide (pn_of hnc k0 k1 hn)
  obtain ⟨L, hLq⟩ : ∃ L, n - 1 = L := ⟨_, rfl⟩
  obtain ⟨D, hDq⟩ : ∃ D, n - 9 = D := ⟨_, rfl⟩
  obtain ⟨s, hsq⟩ : ∃ s, 8 * n - K = s := ⟨_, rfl⟩
  rw [hLq, hDq, hsq] at HPN
  obtain ⟨t, htq⟩ : ∃ t, 8 - s = t := ⟨_, rfl⟩
  rw [htq] at HPN
  rw [hsq]
  clear hLq hDq hsq htq
  have Ht := hide HPN.out.ht
  have HL := hide HPN.out.hL
  have HD := hide HPN.out.hD
  have HlD := hide HPN.out.lD
  have tq : ((K : Int) + 7).tdiv 8 = (n : Int) := HPN.out.tq
  have c1 : (K : Int) ≤ 511 := HPN.out.c1
  have z0 : (K : Int) + 7 ≤ 518 := HPN.out.z0
  clear hs hy hh hhy hn k0 k1
  go_enter Try.func19, Try.ntmps19
  go_wp2_with fail
  refine HI.out.mono ?_
  rintro e w1 ⟨rfl, hw⟩
  subst hw
  clear HI
  go_wp2_with fail
  clear tq z0 c1
  have hLz : (n : Int) - 1 = (L : Int) := HPN.out.hLz
  have hDz : (n : Int) - 9 = (D : Int) := HPN.out.hDz
  have q1 : (D : Int) ≤ cap := HPN.out.q1
  have q2 : (L : Int) ≤ cap := HPN.out.q2
  have q3 : (D : Int) ≤ L := HPN.out.q3
  have q4 : (0 : Int) ≤ D := HPN.out.q4
  have q6 : (L : Int) - D = 8 := HPN.out.q6
  have q7 : L - D = 8 := HPN.out.q7
  have q8 : ¬ cap = D := HPN.out.q8
  have p1 : D ≤ cap := HPN.out.p1
  have p2 : L ≤ cap := HPN.out.p2
  have p3 : D ≤ L := HPN.out.p3
  have r3 : wrap64 (D : Int) = (D : Int) := wrapN1 (Nat.le_trans HPN.out.d55 (by decide))
  have r4 : IntKind.i64.wrap (D : Int) = (D : Int) := wrapN2 (Nat.le_trans HPN.out.d55 (by decide))
  have r5 : wrap64 (L : Int) = (L : Int) := wrapN1 (Nat.le_trans HPN.out.l63 (by decide))
  have r6 : IntKind.i64.wrap (L : Int) = (L : Int) := wrapN2 (Nat.le_trans HPN.out.l63 (by decide))
  obtain ⟨X, hX⟩ : ∃ X : Nat → Prop, X = fun k => w1.heap.size ≤ k := ⟨_, rfl⟩
  clear hX
  refine anyK_begin X 12 rfl (by kernel_rfl) ?_
  refine anyK_take 0 12 0 rfl (by decide) (by kernel_rfl) (fun _ _ d _ _ h => by cases d <;> exact h) ?_
  repeat (refine headC_step (fun K hK => ?_); go_simp; first | (refine hK _ ?_; clear hK K) | (apply Exists.intro; refine ⟨fun _ => ?_, hK _ ?_⟩; (fail); clear hK K))
  refine headC_nil ?_
  refine anyK_done (by kernel_rfl) ?_ 0
  intro w2 E2
  have HE := hide E2
  replace Hs := hide (Hs.out.of_all E2)
  replace Hh := hide (Hh.out.of_all E2)
  clear E2 X
  clear r3 r4 r5 r6 q1 q2 q3 q6 q7 q8 p1 p2 p3 hDz q4
  have hcL := Hs.out.cell L (by have := HPN.out.q5; omega)
  have hc0 : w2.cell? ⟨b, off, none⟩ = some (.int .u8 (fe 0)) := by simpa using Hs.out.cell 0 (by have := HPN.out.n16; omega)
  obtain ⟨e0, e1⟩ := Hy.out 0 (by have := HPN.out.n16; omega)
  have HT : Hid (pssT fe n s fh = (decide (fe (n - 1) = 188) && (decide (fe 0 < 2 ^ (8 - s)) && (alike (dbF fe n s) (mkF (n - 13)) (n - 13) && alike (pssW fe n) (shaF (mmF fe n s fh) (8 + 8 + 4)) 8)))) := rfl
  rw [HL.out, Ht.out] at HT
  have hsz : 8 * (n : Int) - (K : Int) = (s : Int) := HPN.out.hsz
  have htz : (8 : Int) - (s : Int) = (t : Int) := HPN.out.htz
  have q5 : (L : Int) < n := HPN.out.q5
  have q9 : (0 : Int) < D := HPN.out.q9
  have c1 : (K : Int) ≤ 511 := HPN.out.c1
  have s8 : s < 8 := HPN.out.s8
  have t8 : t ≤ 8 := HPN.out.t8
  by_cases hL : fe L = 188
  · have l1 : (fe L != 188) = false := by simp [hL]
    have HLe := hide hL
    clear hL
    rw [decide_eq_true HLe.out, Bool.true_and] at HT
    have lown := shr_cond (t := t) e0
    by_cases h0 : fe 0 < 2 ^ t
    · rw [decide_eq_true h0, Bool.true_and] at HT
      rw [decide_eq_true h0] at lown
      have lown' : (fe 0 / 2 ^ t != 0) = false := lown
      clear lown h0
      have HW : Hid (BSeg w2 (some ⟨b, off + D, none⟩) b (off + D) 8 (pssW fe n)) := ⟨fun _ => rfl, fun i hi => by
        have := Hs.out.cell (D + i) (by have := HlD.out; omega)
        rw [show off + D + i = off + (D + i) by omega, this]
        unfold pssW
        rw [HD.out]⟩
      have HWy : Hid (∀ i, i < 8 → 0 ≤ pssW fe n i ∧ pssW fe n i < 256) := hide (fun i hi => by unfold pssW; rw [HD.out]; exact Hy.out _ (by have := HlD.out; omega))
      go_wp2_with fail
      have d7 := HPN.out.d7
      have d55 := HPN.out.d55
      clear hsz hLz c1 cn q5 hcb hnc
      refine (specMask_yes (some ⟨b, off + D, none⟩) b (off + D) 8 (cap - D) (pssW fe n) D w2 (by omega) (by omega) HW.out HWy.out).mono ?_
      rintro e w3 ⟨pa, pg, pc, rfl, hpg, hpO, E3⟩
      obtain rfl := hpO.at' (by omega)
      have HM := hide hpO.toBSeg
      replace HW := hide (HW.out.of_all E3)
      replace Hs := hide (Hs.out.of_all E3)
      replace Hh := hide (Hh.out.of_all E3)
      replace HE : Hid (Ext w1 w3) := hide (HE.out.trans E3)
      clear hpO E3 hpg hcL hc0 lown' l1
      have HO0 := hide (World.ownsRow_made (base := w3.heap.size) (e := 5) (size := 1) w3 #[] 0 (Nat.le_refl _) (by simp) rfl)
      go_wp2
      rename_i KK hK
      have HK := hide hK
      clear hK
      have HXF : Hid (∀ i, bits .xor .u8 (fe i) (maskF (pssW fe n) 8 i) = unmF (pssW fe n) fe i) := hide (fun i => xor_comm8 _ _)
      have hbl : b < w3.heap.size := Hs.out.lt (by have := HPN.out.n16; omega)
      have hpl : pg < w3.heap.size := HM.out.lt (by omega)
      go_loopw [13, 14] (fun v i wr => ∃ k : Nat, k ≤ D ∧ i = .int .i64 (k : Int) ∧ wr.ownsRow w3.heap.size 5 1 v k (byts (unmF (pssW fe n) fe) k) ∧ Ext w3 wr) (fun _ i _ => D - (intOf i).toNat)
      case atStart => exact ⟨0, by omega, rfl, HO0.out, Ext.alloc _ _⟩
      case round =>
        clear HO0
        obtain ⟨k, hk, rfl, hO, hE⟩ := hrel
        have HO := hide hO
        have HEr := hide hE
        clear hO hE
        by_cases hlt : k < D
        · have hkD : (k : Int) < D := by omega
          have hc1 := (Hs.out.of_all HEr.out).cell k (by have := HPN.out.hD; omega)
          have hc2 := (HM.out.of_all HEr.out).cell k hlt
          rw [Nat.zero_add] at hc2
          have hx := HXF.out k
          go_wp2_with fail
          obtain ⟨X, hX⟩ : ∃ X : Nat → Prop, X = fun k => w3.heap.size ≤ k := ⟨_, rfl⟩
          have x0 : ∀ k, k < w3.heap.size → ¬ X k := fun k h => by rw [hX]; simp; omega
          have x1 : ∀ k, w3.heap.size ≤ k → X k := fun k h => by rw [hX]; exact h
          clear hX
          have kb := cell_reC hc1 (x0 _ hbl)
          have kp := cell_reC hc2 (x0 _ hpl)
          have j0 : k < D := hlt
          generalize maskF (pssW fe n) 8 k = mk at *
          obtain ⟨y, hy⟩ : ∃ y, unmF (pssW fe n) fe k = y := ⟨_, rfl⟩
          rw [hy] at hx
          have Hy' := hide hy
          clear hy hc1 hc2
          refine anyK_begin X 13 rfl (by kernel_rfl) ?_
          refine anyK_take 0 10 3 rfl (by decide) (by kernel_rfl) (fun _ _ d _ _ h => by cases d <;> exact h) ?_
          repeat (refine headC_step (fun K hK => ?_); go_simp; first | (refine hK _ ?_; clear hK K) | (apply Exists.intro; refine ⟨fun _ => ?_, hK _ ?_⟩; (fail); clear hK K))
          refine headC_nil ?_
          clear kb kp hx
          refine anyK_one 10 (by kernel_rfl) ?_
          refine stepK_run rfl ?_
          intro w4 h4 K2 hK2
          go_simp
          refine hK2 _ _ (.of_ext (h4.trans (Ext.alloc _ _))) ?_
          clear hK2 K2
          have HB5 : Hid (BSeg (w4.alloc (.cells #[.int .u8 y] 5)) (some ⟨w4.heap.size, 0, none⟩) w4.heap.size 0 1 (fun _ => y)) := ⟨fun _ => rfl, fun i hi => by
            have := Blk.alloc w4 [.int .u8 y] 5
            have e : i = 0 := by omega
            subst e
            exact (this 0 _ rfl).1⟩
          have HO5 := hide ((owns_ext' HO.out h4).alloc (.cells #[.int .u8 y] 5))
          have E5 := hide (h4.trans (Ext.alloc w4 (.cells #[.int .u8 y] 5)))
          generalize w4.alloc (.cells #[.int .u8 y] 5) = w5 at *
          generalize w4.heap.size = SL at *
          clear h4 HO
          refine anyK_one 11 (by kernel_rfl) ?_
          refine stepK_run rfl ?_
          intro w6 h6 K2 hK2
          have HB6 := HB5.out.of_all h6
          have HO6 := owns_ext' HO5.out h6
          have E6 := E5.out.trans h6
          have hB6 : w3.heap.size ≤ w6.heap.size := Nat.le_trans (Below.size HEr.out) (Below.size E6)
          rw [if_pos (show _ = true by kernel_rfl)]
          refine wp_append_bs _ _ rfl w3.heap.size _ k (byts (unmF (pssW fe n) fe) k) rfl HO6 _ SL 0 1 1 (fun _ => y) rfl HB6 (by omega) hB6 ?_
          intro v7 w7 hO7 h7
          refine hK2 _ _ ((Grw.of_ext E6).trans (Grw.of_belowC h7 x1)) ?_
          clear hK2 K2
          rw [byts_append] at hO7
          have HO7 : Hid (w7.ownsRow w3.heap.size 5 1 v7 (k + 1) (byts (unmF (pssW fe n) fe) (k + 1))) := hide (owns_congr hO7 (fun i hi => by
            unfold catF
            by_cases h : i < k
            · rw [if_pos h]
            · rw [if_neg h, show i = k by omega]; exact Hy'.out.symm))
          have HE7 : Hid (Ext w3 w7) := hide (Below.trans (HEr.out.trans E6) h7)
          clear hO7 h7 HB6 HO6 E6 hB6 h6 HB5 HO5 E5
          refine anyK_take 12 1 0 rfl (by decide) (by kernel_rfl) (fun _ _ d _ _ h => by cases d <;> exact h) ?_
          repeat (refine headC_step (fun K hK => ?_); go_simp; first | (refine hK _ ?_; clear hK K) | (apply Exists.intro; refine ⟨fun _ => ?_, hK _ ?_⟩; (fail); clear hK K))
          refine headC_nil ?_
          refine anyK_done (by kernel_rfl) ?_ 0
          intro w8 h8
          replace HO7 := hide (owns_ext' HO7.out h8)
          replace HE7 := hide (HE7.out.trans h8)
          clear h8 x0 x1 X
          go_wp2
          go_roundw
          case rel => exact ⟨k + 1, by omega, by go_num, HO7.out, HE7.out⟩
          case measure => simp [intOf]; omega
        · obtain rfl : k = D := by omega
          obtain ⟨ya, yg, yc, rfl, hyg, hyn, hyc, hyB⟩ := owns_seg HO.out
          obtain rfl := hyB.at' (by omega)
          clear hyB
          go_wp2
          apply HK.out
          clear HK
          go_wp2_with fail
          obtain ⟨P, hP⟩ : ∃ P : Int, (2 : Int) ^ t = P := ⟨_, rfl⟩
          have HPr : Hid (2 ≤ P ∧ P ≤ 256) := by unfold Hid; rw [← hP]; exact two_pow_range HPN.out.t1 HPN.out.t8
          obtain ⟨u, hu⟩ : ∃ u, unmF (pssW fe n) fe 0 = u := ⟨_, rfl⟩
          have Hur : Hid (0 ≤ u ∧ u < 256) := by unfold Hid; rw [← hu]; exact unmF_range _ _ _
          have hcx0 := first_cell HO.out (Nat.lt_of_lt_of_le (by decide) d7)
          rw [hu] at hcx0
          have hcx := cell_reF hcx0
          have Hfr := hide (World.ownsRow.frozenAt HO.out 0)
          have Hu := hide hu
          have HP := hide hP
          have HR := hide (rm_of Hur.out.1 Hur.out.2 HPr.out.1 HPr.out.2)
          obtain ⟨z, hz⟩ : ∃ z, u % P = z := ⟨_, rfl⟩
          rw [hz] at HR
          have Hz := hide hz
          clear hu hz
          have m0 := HR.out.m0
          have m3 := HR.out.m3
          have m4 := HR.out.m4
          have m5 := HR.out.m5
          have m6 := HR.out.m6
          have m7 := HR.out.m7
          have m8 := HR.out.m8
          have m9 := HR.out.m9
          have mc := HR.out.mc
          have P0 := HR.out.P0
          have ma : wrap64 (t : Int) = (t : Int) := wrapN1 (Nat.le_trans HPN.out.t8 (by decide))
          have mb : IntKind.i64.wrap (t : Int) = (t : Int) := wrapN2 (Nat.le_trans HPN.out.t8 (by decide))
          have md : (0 : Int) < k := HPN.out.q9
          have me : ¬ k = 0 := Nat.ne_of_gt (Nat.lt_of_lt_of_le (by decide) d7)
          have mf : 0 < k := Nat.lt_of_lt_of_le (by decide) d7
          have htt : (8 : Int) - (s : Int) = (t : Int) := htz
          have Hyn := hide hyn
          clear d7 d55 s8 t8 e0 e1 hbl hpl hyn hyc hk hlt q9 htz
          obtain ⟨X, hX⟩ : ∃ X : Nat → Prop, X = fun k => w3.heap.size ≤ k := ⟨_, rfl⟩
          have x1 : ∀ k, w3.heap.size ≤ k → X k := fun k h => by rw [hX]; exact h
          clear hX hcx
          refine anyK_begin X 12 rfl (by kernel_rfl) ?_
          refine anyK_take 0 3 9 rfl (by decide) (by kernel_rfl) (fun _ _ d _ _ h => by cases d <;> exact h) ?_
          repeat (refine headC_step (fun K hK => ?_); go_simp; first | (refine hK _ ?_; clear hK K) | (apply Exists.intro; refine ⟨fun _ => ?_, hK _ ?_⟩; (fail); clear hK K))
          refine headC_nil ?_
          refine anyK_take 5 3 6 rfl (by decide) (by kernel_rfl) (fun _ _ d _ _ h => by cases d <;> exact h) ?_
          repeat (refine headC_step (fun K hK => ?_); go_simp; first | (refine hK _ ?_; clear hK K) | (apply Exists.intro; refine ⟨fun _ => ?_, hK _ ?_⟩; (fail); clear hK K))
          refine headC_nil ?_
          refine anyK_one 3 (by kernel_rfl) ?_
          refine stepK_run rfl ?_
          intro w4 h4 K2 hK2
          have hcy : w4.cell? ⟨yg, 0, none⟩ = some (.int .u8 u) := by
            rw [World.cell?_of_block (a := ⟨yg, 0, none⟩) (Below.block h4 yg (World.block_lt_of_cell? _ _ hcx0))]; exact hcx0
          go_simp
          refine hK2 _ _ (.of_ext h4) ?_
          clear hK2 K2 hcy
          refine anyK_take 4 1 4 rfl (by decide) (by kernel_rfl) (fun _ _ d _ _ h => by cases d <;> exact h) ?_
          repeat (refine headC_step (fun K hK => ?_); go_simp; first | (refine hK _ ?_; clear hK K) | (apply Exists.intro; refine ⟨fun _ => ?_, hK _ ?_⟩; (fail); clear hK K))
          refine headC_nil ?_
          refine anyK_take 8 3 1 rfl (by decide) (by kernel_rfl) (fun _ _ d _ _ h => by cases d <;> exact h) ?_
          repeat (refine headC_step (fun K hK => ?_); go_simp; first | (refine hK _ ?_; clear hK K) | (apply Exists.intro; refine ⟨fun _ => ?_, hK _ ?_⟩; (fail); clear hK K))
          refine headC_nil ?_
          refine anyK_one 11 (by kernel_rfl) ?_
          refine stepK_run rfl ?_
          intro w5 h5 K2 hK2
          have HO5 := hide (owns_ext' (owns_ext' HO.out h4) h5)
          have E5 := hide (HEr.out.trans (h4.trans h5))
          have hcy := first_cell HO5.out mf
          have hfy : w5.frozen? ⟨yg, 0, none⟩ = false := World.ownsRow.frozenAt HO5.out 0
          go_simp
          have HT6 := hide (Touch.set (Touch.refl yg w5) 0 (.int .u8 z))
          refine hK2 _ _ ((Grw.of_ext (h4.trans h5)).trans (Grw.of_touch HT6.out (x1 _ hyg))) ?_
          clear hK2 K2 hcy hfy
          have HO6 : Hid ((w5.setCell ⟨yg, 0, none⟩ (.int .u8 z)).ownsRow w3.heap.size 5 1 (.slice (some ⟨yg, 0, none⟩) k yc) k (byts (dbF fe n s) k)) := hide (owns_congr (owns_setC HO5.out z) (fun i hi => by
            unfold dbF
            by_cases e : i = 0
            · rw [if_pos e, if_pos e, Hu.out, Ht.out, HP.out]; exact Hz.out.symm
            · rw [if_neg e, if_neg e]))
          have E6 : Hid (Ext w3 (w5.setCell ⟨yg, 0, none⟩ (.int .u8 z))) := hide (below_touch E5.out HT6.out hyg)
          clear HO5 E5 h4 h5 HT6 hcx0 m0 m3 m4 m5 m6 m7 m8 m9 mc P0 ma mb htt
          generalize w5.setCell ⟨yg, 0, none⟩ (.int .u8 z) = w6 at *
          refine anyK_done (by kernel_rfl) ?_ 0
          intro w7 h7
          have HO7 := hide (owns_ext' HO6.out h7)
          have E7 := hide (E6.out.trans h7)
          clear h7 HO6 E6 x1 X
          have HDB := hide (HPN.out.d13 : n - 13 + 4 = k)
          obtain ⟨A, hA⟩ : ∃ A, n - 13 = A := ⟨_, rfl⟩
          rw [hA] at HDB HT
          have HAn := hide hA
          clear hA
          obtain ⟨B1, hB1⟩ : ∃ B1, A - 1 = B1 := ⟨_, rfl⟩
          have HA3 : Hid (3 ≤ A) := hide (by have := HDB.out; have := HPN.out.d7; omega)
          have HAl : Hid (A ≤ 51) := hide (by have := HDB.out; have := HPN.out.d55; omega)
          have HAB := hide (show A = B1 + 1 by have := HA3.out; omega)
          have a0 : (k : Int) - 5 = (B1 : Int) := by have := HDB.out; have := HAB.out; omega
          have kb0 : (7 : Int) ≤ k := by have := HPN.out.d7; omega
          have kb1 : (k : Int) ≤ 55 := by have := HPN.out.d55; omega
          have HMk : Hid (∀ i, i < A → mkF A i = if i < B1 then 0 else 1) := hide (fun i hi => by unfold mkF catF; rw [hB1])
          clear hB1
          have HyB := hide (owns_bseg HO7.out)
          have HSl : Hid (BSeg w7 (some ⟨yg, A, none⟩) yg A 4 (fun i => dbF fe n s (A + i))) := ⟨fun _ => rfl, fun i hi => by
            have := HyB.out.cell (A + i) (by have := HDB.out; omega)
            rw [Nat.zero_add] at this
            exact this⟩
          have Hh7 := hide (Hh.out.of_all E7.out)
          have HW7 := hide (HW.out.of_all E7.out)
          have HE7 : Hid (Ext w1 w7) := hide (HE.out.trans E7.out)
          go_wp2
          rename_i KK hK
          have HK := hide hK
          clear hK
          go_loop [15] (fun i => ∃ j : Nat, j ≤ B1 ∧ i = .int .i64 (j : Int) ∧ ∀ q, q < j → dbF fe n s q = 0) (fun i => B1 - (intOf i).toNat)
          case atStart => exact ⟨0, by omega, rfl, fun q hq => absurd hq (Nat.not_lt_zero _)⟩
          case round =>
            obtain ⟨j, hj, rfl, hz0⟩ := hrel
            have HZ0 := hide hz0
            clear hz0
            by_cases hlt : j < B1
            · have hjB : (j : Int) < B1 := by omega
              have hjk : (j : Int) < k := by have := HDB.out; have := HAB.out; omega
              have hcj := HyB.out.cell j (by have := HDB.out; have := HAB.out; omega)
              rw [Nat.zero_add] at hcj
              by_cases h0 : dbF fe n s j = 0
              · have c0 : (dbF fe n s j != 0) = false := by simp [h0]
                have HZ1 : Hid (∀ q, q < j + 1 → dbF fe n s q = 0) := hide (fun q hq => by
                  by_cases e : q = j
                  · rw [e]; exact h0
                  · exact HZ0.out q (by omega))
                have jb : (j : Int) ≤ 1000 := by have := HAB.out; have := HAl.out; omega
                clear h0
                generalize dbF fe n s j = d at *
                go_wp2
                go_round
                case rel => exact ⟨j + 1, by omega, by go_num, HZ1.out⟩
                case measure => simp [intOf]; omega
              · have c0 : (dbF fe n s j != 0) = true := by simp [h0]
                have HF : Hid (pssT fe n s fh = false) := by
                  unfold Hid
                  rw [HT.out, alike_false (show j < A by have := HAB.out; omega) (by rw [HMk.out j (by have := HAB.out; omega), if_pos hlt]; exact h0)]
                  rfl
                clear h0
                generalize dbF fe n s j = d at *
                go_wp2
                go_ret
                exact ⟨ret_bool HF.out.symm, HE7.out⟩
            · obtain rfl : j = B1 := by omega
              have hcj := HyB.out.cell j (by have := HDB.out; have := HAB.out; omega)
              rw [Nat.zero_add] at hcj
              have hjk : (j : Int) < k := by have := HDB.out; have := HAB.out; omega
              have j0 : (0 : Int) ≤ j := by omega
              by_cases h1 : dbF fe n s j = 1
              · have c0 : (dbF fe n s j != 1) = false := by simp [h1]
                have HAK : Hid (alike (dbF fe n s) (mkF A) A = true) := hide ((alike_iff _ _ _).2 (fun i hi => by
                  rw [HMk.out i hi]
                  by_cases e : i < j
                  · rw [if_pos e]; exact HZ0.out i e
                  · rw [if_neg e, show i = j by have := HAB.out; omega]; exact h1))
                rw [HAK.out, Bool.true_and] at HT
                clear h1 HAK
                have w0 : True := trivial
                generalize dbF fe n s j = d at *
                go_wp2
                apply HK.out
                clear HK
                go_wp2_with fail
                clear hcj hjk j0 c0 a0 kb0 kb1
                clear w0
                obtain ⟨X, hX⟩ : ∃ X : Nat → Prop, X = fun k => w7.heap.size ≤ k := ⟨_, rfl⟩
                have x1 : ∀ k, w7.heap.size ≤ k → X k := fun k h => by rw [hX]; exact h
                clear hX
                have PF := pf_of HDB.out Hyn.out HA3.out HAl.out
                have f0 := PF.f0
                have f1 := PF.f1
                have f2 := PF.f2
                have f3 := PF.f3
                have f4 := PF.f4
                have f5 := PF.f5
                have f6 := PF.f6
                have f7 := PF.f7
                have f8 := PF.f8
                have f9 := PF.f9
                clear PF
                have hmk : ∀ w : World, (Instr.makeSlice 22 (.int .i64 8) (.int .i64 8)).run Try.prog w = .ok (.slice (some ⟨w.heap.size, 0, none⟩) 8 8) (w.alloc (.cells (madeCells #[.int .u8 0] 8) 5)) := fun w => run_make_row' (P := Try.prog) 22 5 (.int .u8 0) 1 Try.underlying22 Try.info5 rfl .i64 .i64 8 (by omega) (by omega) w
                refine anyK_begin X 10 rfl (by kernel_rfl) ?_
                refine anyK_take 1 1 9 rfl (by decide) (by kernel_rfl) (fun _ _ d _ _ h => by cases d <;> exact h) ?_
                repeat (refine headC_step (fun K hK => ?_); go_simp; first | (refine hK _ ?_; clear hK K) | (apply Exists.intro; refine ⟨fun _ => ?_, hK _ ?_⟩; (fail); clear hK K))
                refine headC_nil ?_
                refine anyK_take 3 5 4 rfl (by decide) (by kernel_rfl) (fun _ _ d _ _ h => by cases d <;> exact h) ?_
                repeat (refine headC_step (fun K hK => ?_); go_simp; first | (refine hK _ ?_; clear hK K) | (apply Exists.intro; refine ⟨fun _ => ?_, hK _ ?_⟩; (fail); clear hK K))
                refine headC_nil ?_
                clear f0 f1 f2 f3 f4 f5 f6 f7 f8 f9
                refine anyK_one 0 (by kernel_rfl) ?_
                refine stepK_run rfl ?_
                intro w8 h8 K2 hK2
                go_simp
                refine hK2 _ _ (.of_ext (h8.trans (Ext.alloc _ _))) ?_
                clear hK2 K2 hmk
                have HZ := hide (owns_mono (owns_made w8 8 (by omega)) (Below.size h8))
                have E8 := hide (h8.trans (Ext.alloc w8 (.cells (madeCells #[.int .u8 0] 8) 5)))
                clear h8
                generalize w8.alloc (.cells (madeCells #[.int .u8 0] 8) 5) = w9 at *
                generalize w8.heap.size = SZ at *
                refine anyK_one 2 (by kernel_rfl) ?_
                refine stepK_run rfl ?_
                intro w10 h10 K2 hK2
                have HZ2 := owns_ext' HZ.out h10
                have E10 := E8.out.trans h10
                have Hh2 := Hh7.out.of_all E10
                rw [if_pos (show _ = true by kernel_rfl)]
                refine wp_append_bs _ _ rfl w7.heap.size _ 8 (byts (fun _ => 0) 8) rfl HZ2 _ hb hoff 8 hcap fh rfl Hh2 (by omega) (Below.size E10) ?_
                intro v11 w11 hO11 h11
                refine hK2 _ _ ((Grw.of_ext E10).trans (Grw.of_belowC h11 x1)) ?_
                clear hK2 K2
                rw [byts_append] at hO11
                have HO11 := hide hO11
                have E11 : Hid (Ext w7 w11) := hide (Below.trans E10 h11)
                clear hO11 h11 HZ2 E10 Hh2 h10 HZ E8
                refine anyK_one 8 (by kernel_rfl) ?_
                refine stepK_run rfl ?_
                intro w12 h12 K2 hK2
                have HO12 := owns_ext' HO11.out h12
                have E12 := E11.out.trans h12
                have Hsl : BSeg w12 (some ⟨yg, A, none⟩) yg A 4 (fun i => dbF fe n s (A + i)) := HSl.out.of_all E12
                rw [if_pos (show _ = true by kernel_rfl)]
                refine wp_append_bs _ _ rfl w7.heap.size _ (8 + 8) _ rfl HO12 _ yg A 4 _ (fun i => dbF fe n s (A + i)) rfl Hsl (by omega) (Below.size E12) ?_
                intro v13 w13 hO13 h13
                refine hK2 _ _ ((Grw.of_ext E12).trans (Grw.of_belowC h13 x1)) ?_
                clear hK2 K2
                rw [byts_append] at hO13
                have HO13 := hide hO13
                have E13 : Hid (Ext w7 w13) := hide (Below.trans E12 h13)
                clear hO13 h13 HO12 E12 Hsl h12 HO11 E11
                refine anyK_take 9 1 0 rfl (by decide) (by kernel_rfl) (fun _ _ d _ _ h => by cases d <;> exact h) ?_
                repeat (refine headC_step (fun K hK => ?_); go_simp; first | (refine hK _ ?_; clear hK K) | (apply Exists.intro; refine ⟨fun _ => ?_, hK _ ?_⟩; (fail); clear hK K))
                refine headC_nil ?_
                refine anyK_done (by kernel_rfl) ?_ 0
                intro w14 h14
                replace HO13 := hide (owns_ext' HO13.out h14)
                replace E13 := hide (E13.out.trans h14)
                clear h14 x1 X
                obtain ⟨ma, mg, mc, rfl, -, -, -, hmB⟩ := owns_seg HO13.out
                have HMB := hide hmB.toBSeg
                have HMM : Hid (catF (catF (fun _ => 0) 8 fh) (8 + 8) (fun i => dbF fe n s (A + i)) = mmF fe n s fh) := by unfold Hid mmF; rw [HAn.out]
                rw [HMM.out] at HMB
                have HMr : Hid (∀ i, i < 8 + 8 + 4 → 0 ≤ mmF fe n s fh i ∧ mmF fe n s fh i < 256) := hide (fun i hi => by
                  unfold mmF catF
                  split
                  · split
                    · show (0 : Int) ≤ 0 ∧ (0 : Int) < 256; omega
                    · exact Hhy.out _ (by omega)
                  · exact dbF_range _ _ _ _)
                have HW14 := hide (HW7.out.of_all E13.out)
                have HE14 : Hid (Ext w1 w14) := hide (HE7.out.trans E13.out)
                clear hmB HMM HO13 E13
                generalize mmF fe n s fh = mm at *
                go_wp2_with fail
                refine (specShort_any ma mg 0 (8 + 8 + 4) mc mm w14 (by omega) HMB.out HMr.out).mono ?_
                rintro e w15 ⟨sa, sg, sc, rfl, -, hSo, E15⟩
                rw [show shortN (8 + 8 + 4) = 8 from rfl] at hSo ⊢
                have HSo := hide hSo.toBSeg
                replace HW14 := hide (HW14.out.of_all E15)
                replace HE14 : Hid (Ext w1 w15) := hide (HE14.out.trans E15)
                clear hSo E15 HMB HMr
                have HSr : Hid (∀ i, i < 8 → 0 ≤ shaF mm (8 + 8 + 4) i ∧ shaF mm (8 + 8 + 4) i < 256) := hide (fun i _ => shaF_bound' _ _ _)
                rw [alike_comm] at HT
                generalize shaF mm (8 + 8 + 4) = sh at *
                go_wp2_with fail
                refine (l1Same_any sa sg 0 8 sc sh (some ⟨b, off + k, none⟩) b (off + k) 8 _ (pssW fe n) w15 HSo.out HW14.out HSr.out HWy.out).mono ?_
                rintro e w16 ⟨rfl, hw16⟩
                subst hw16
                rw [show (8 == 8 && alike sh (pssW fe n) 8) = alike sh (pssW fe n) 8 from rfl, ← HT.out]
                clear HT
                obtain ⟨r, hr⟩ : ∃ r, pssT fe n s fh = r := ⟨_, rfl⟩
                rw [hr]
                have Hr := hide hr
                clear hr
                go_wp2
                go_ret
                exact ⟨ret_bool Hr.out.symm, HE14.out⟩
              · have c0 : (dbF fe n s j != 1) = true := by simp [h1]
                have HF : Hid (pssT fe n s fh = false) := by
                  unfold Hid
                  rw [HT.out, alike_false (show j < A by have := HAB.out; omega) (by rw [HMk.out j (by have := HAB.out; omega), if_neg (Nat.lt_irrefl _)]; exact h1)]
                  rfl
                clear h1
                generalize dbF fe n s j = d at *
                go_wp2
                apply HK.out
                clear HK
                go_wp2
                go_ret
                exact ⟨ret_bool HF.out.symm, HE7.out⟩
    · rw [decide_eq_false h0, Bool.false_and] at HT
      rw [decide_eq_false h0] at lown
      have lown' : (fe 0 / 2 ^ t != 0) = true := lown
      clear lown h0
      go_wp2
      go_ret
      exact ⟨ret_bool HT.out.symm, HE.out⟩
  · have l1 : (fe L != 188) = true := by simp [hL]
    rw [decide_eq_false hL, Bool.false_and] at HT
    clear hL
    go_wp2
    go_ret
    exact ⟨ret_bool HT.out.symm, HE.out⟩

set_option maxHeartbeats 1600000 in
theorem specPssOk_any (a : Option Addr) (b off n cap : Nat) (fe : Nat → Int) (B : Int) (ha : Option Addr) (hb hoff nh hcap : Nat) (fh : Nat → Int) (w : World) (hnc : n ≤ cap) (hcb : cap ≤ 9223372036854775807)
    (hs : BSeg w a b off n fe) (hy : ∀ i, i < n → 0 ≤ fe i ∧ fe i < 256) (hh : BSeg w ha hb hoff nh fh) (hhy : ∀ i, i < nh → 0 ≤ fh i ∧ fh i < 256) :
    Calls Try.prog 19 #[.slice a n cap, .int .i64 B, .slice ha nh hcap] w fun e w' => e = .returned (.bool (pssB fe n B fh nh)) ∧ Ext w w' := by
  have HI := hide (l1In_int B 127 511 w)
  by_cases h1 : 127 ≤ B ∧ B ≤ 511
  · rw [decide_eq_true h1.1, decide_eq_true h1.2] at HI
    by_cases h4 : nh = 8
    · subst h4
      by_cases h3 : (n : Int) = (B + 7) / 8
      · rw [pssB_true ⟨by omega, by omega, h3, rfl⟩]
        obtain ⟨K, rfl⟩ := Int.eq_ofNat_of_zero_le (show 0 ≤ B by omega)
        obtain rfl := hs.at' (by omega)
        rw [show ((K : Int)).toNat = K by omega]
        exact specPssOk_yes b off n cap fe K ha hb hoff hcap fh w hnc hcb (by omega) (by omega) (by omega) hs hy hh hhy
      · rw [pssB_false (by omega)]
        have tq : (B + 7).tdiv 8 = (B + 7) / 8 := Int.tdiv_eq_ediv_of_nonneg (by omega)
        obtain ⟨q, hq⟩ : ∃ q, (B + 7) / 8 = q := ⟨_, rfl⟩
        have c1 : ((n : Int) != q) = true := by simp; omega
        have b0 : 127 ≤ B := h1.1
        have b1 : B ≤ 511 := h1.2
        have q0 : 0 ≤ q := by omega
        have q1 : q ≤ 64 := by omega
        rw [hq] at tq
        clear hs hh h3 h1 hq hy hhy hnc hcb
        go_enter Try.func19, Try.ntmps19
        go_wp2_with fail
        refine HI.out.mono ?_
        rintro e w1 ⟨rfl, hw⟩
        subst hw
        clear HI
        go_wp2
        go_ret
        exact ⟨rfl, Ext.refl _⟩
    · rw [pssB_false (by omega)]
      have c2 : ((nh : Int) != 8) = true := by simp; omega
      clear hs hh h4 h1 hy hhy hnc hcb
      go_enter Try.func19, Try.ntmps19
      go_wp2_with fail
      refine HI.out.mono ?_
      rintro e w1 ⟨rfl, hw⟩
      subst hw
      clear HI
      go_wp2
      go_ret
      exact ⟨rfl, Ext.refl _⟩
  · rw [pssB_false (by omega)]
    rw [show (decide (127 ≤ B) && decide (B ≤ 511)) = false by
      by_cases h : 127 ≤ B
      · rw [decide_eq_false (show ¬ B ≤ 511 by omega)]; simp
      · rw [decide_eq_false h]; rfl] at HI
    clear hs hh h1 hy hhy hnc hcb
    go_enter Try.func19, Try.ntmps19
    go_wp2_with fail
    refine HI.out.mono ?_
    rintro e w1 ⟨rfl, hw⟩
    subst hw
    clear HI
    go_wp2
    go_ret
    exact ⟨rfl, Ext.refl _⟩

end Go.Proofs.Ytjkojofpkeglpab
