/- Walks: PssOk of the program. -/
import Derived.Test.YtjkojofpkeglpabPssA
namespace Go.Proofs.Ytjkojofpkeglpab
set_option linter.unusedVariables false
set_option linter.unusedSimpArgs false
open Go.RowKit

/-- The eight bytes ahead of the last. -/
def pssW (fe : Nat → Int) (n : Nat) (i : Nat) : Int := fe (n - 9 + i)
/-- What is unmasked, the first byte's highest bits off. -/
def dbF (fe : Nat → Int) (n s : Nat) (i : Nat) : Int := if i = 0 then unmF (pssW fe n) fe 0 % 2 ^ (8 - s) else unmF (pssW fe n) fe i
/-- What is digested. -/
def mmF (fe : Nat → Int) (n s : Nat) (fh : Nat → Int) : Nat → Int := catF (catF (fun _ => 0) 8 fh) (8 + 8) (fun i => dbF fe n s (n - 13 + i))
def pssIn (n : Nat) (B : Int) (nh : Nat) : Bool := decide (127 ≤ B ∧ B ≤ 511 ∧ (n : Int) = (B + 7) / 8 ∧ nh = 8)
def pssT (fe : Nat → Int) (n s : Nat) (fh : Nat → Int) : Bool := decide (fe (n - 1) = 188) && (decide (fe 0 < 2 ^ (8 - s)) && (alike (dbF fe n s) (mkF (n - 13)) (n - 13) && alike (pssW fe n) (shaF (mmF fe n s fh) (8 + 8 + 4)) 8))
def pssB (fe : Nat → Int) (n : Nat) (B : Int) (fh : Nat → Int) (nh : Nat) : Bool := pssIn n B nh && pssT fe n (8 * n - B.toNat) fh

theorem dbF_range (fe : Nat → Int) (n s i : Nat) : 0 ≤ dbF fe n s i ∧ dbF fe n s i < 256 := by
  unfold dbF
  have h := xor8_range (maskF (pssW fe n) 8 0) (fe 0)
  split
  · have e : unmF (pssW fe n) fe 0 = bits .xor .u8 (maskF (pssW fe n) 8 0) (fe 0) := rfl
    rw [e]
    have hp : (0 : Int) < 2 ^ (8 - s) := Int.pow_pos (by omega)
    exact ⟨Int.emod_nonneg _ (by omega), by
      have hle : bits .xor .u8 (maskF (pssW fe n) 8 0) (fe 0) % 2 ^ (8 - s) ≤ bits .xor .u8 (maskF (pssW fe n) 8 0) (fe 0) := by
        have h2 := Int.emod_add_mul_ediv (bits .xor .u8 (maskF (pssW fe n) 8 0) (fe 0)) (2 ^ (8 - s))
        have h3 : 0 ≤ 2 ^ (8 - s) * (bits .xor .u8 (maskF (pssW fe n) 8 0) (fe 0) / 2 ^ (8 - s)) := Int.mul_nonneg (by omega) (Int.ediv_nonneg h.1 (by omega))
        omega
      omega⟩
  · exact xor8_range _ _

theorem wrapN1 {D : Nat} (h : D ≤ 1000000) : wrap64 (D : Int) = (D : Int) := by unfold wrap64; omega
theorem wrapN2 {D : Nat} (h : D ≤ 1000000) : IntKind.i64.wrap (D : Int) = (D : Int) := by rw [IntKind.wrap_i64]; omega
theorem low_and' {s : Nat} (hs : s < 8) {x : Int} (h0 : 0 ≤ x) (h1 : x < 256) : bits .and .u8 x (255 / 2 ^ s) = x % 2 ^ (8 - s) := by
  obtain ⟨n, rfl⟩ := Int.eq_ofNat_of_zero_le h0
  have := low_and s hs n (by omega)
  simpa using this
theorem low_not' {s : Nat} (hs : s < 8) {x : Int} (h0 : 0 ≤ x) (h1 : x < 256) : (bits .andNot .u8 x (255 / 2 ^ s) != 0) = !decide (x < 2 ^ (8 - s)) := by
  obtain ⟨n, rfl⟩ := Int.eq_ofNat_of_zero_le h0
  have := low_not s hs n (by omega)
  have e : decide ((n : Int) < 2 ^ (8 - s)) = decide (n < 2 ^ (8 - s)) := by
    apply decide_eq_decide.2
    have : ((2 ^ (8 - s) : Nat) : Int) = 2 ^ (8 - s) := by simp
    omega
  rw [e]
  simpa using this

theorem concat3_any (S : Nat) (w : World) (a0 a1 a2 : Option Addr) (b0 b1 b2 o0 o1 o2 n0 n1 n2 c0 c1 c2 : Nat) (f0 f1 f2 : Nat → Int)
    (hS : Blk w S [.slice a0 n0 c0, .slice a1 n1 c1, .slice a2 n2 c2]) (h0 : BSeg w a0 b0 o0 n0 f0) (h1 : BSeg w a1 b1 o1 n1 f1) (h2 : BSeg w a2 b2 o2 n2 f2) (hn : n0 + n1 + n2 ≤ 1048576) :
    Calls Try.prog 43 #[.slice (some ⟨S, 0, none⟩) 3 3] w fun e w' => GivesR w (n0 + n1 + n2) (catF (catF f0 n0 f1) (n0 + n1) f2) e w' := by
  refine (concat_any S 0 3 3 (fun i => match i with | 0 => a0 | 1 => a1 | _ => a2) (fun i => match i with | 0 => b0 | 1 => b1 | _ => b2) (fun i => match i with | 0 => o0 | 1 => o1 | _ => o2) (fun i => match i with | 0 => n0 | 1 => n1 | _ => n2) (fun i => match i with | 0 => c0 | 1 => c1 | _ => c2) (fun i => match i with | 0 => f0 | 1 => f1 | _ => f2) w (by omega) ?_ ?_ ?_).mono ?_
  · intro i hi
    match i, hi with
    | 0, _ => exact (hS 0 _ rfl).1
    | 1, _ => exact (hS 1 _ rfl).1
    | 2, _ => exact (hS 2 _ rfl).1
  · intro i hi
    match i, hi with
    | 0, _ => exact h0
    | 1, _ => exact h1
    | 2, _ => exact h2
  · show 0 + n0 + n1 + n2 ≤ _
    omega
  · rintro e w' ⟨v, rfl, hO, hE⟩
    refine ⟨v, rfl, ?_, hE⟩
    have h3 : w'.ownsRow w.heap.size 5 1 v (0 + n0 + n1 + n2) ([] ++ byts f0 n0 ++ byts f1 n1 ++ byts f2 n2) := hO
    rwa [Nat.zero_add, List.nil_append, byts_append, byts_append] at h3

theorem shaF_bound' (f : Nat → Int) (m i : Nat) : 0 ≤ shaF f m i ∧ shaF f m i < 256 := by
  unfold shaF stB
  obtain ⟨h0, h1⟩ := endV_bound (fun i => blocksV firstV f (m / 64) i % 4294967296) (fun i => f (64 * (m / 64) + i)) (m % 64) m (i / 4)
  exact wb_bound _ h0 h1 _

set_option maxHeartbeats 3200000 in
set_option maxRecDepth 100000 in
theorem implPssOk_yes (b off n cap : Nat) (fe : Nat → Int) (K : Nat) (ha : Option Addr) (hb hoff hcap : Nat) (fh : Nat → Int) (w : World) (hnc : n ≤ cap) (hcb : cap ≤ 9223372036854775807) (k0 : 127 ≤ K) (k1 : K ≤ 511) (hn : n = (K + 7) / 8)
    (hs : BSeg w (some ⟨b, off, none⟩) b off n fe) (hy : ∀ i, i < n → 0 ≤ fe i ∧ fe i < 256) (hh : BSeg w ha hb hoff 8 fh) (hhy : ∀ i, i < 8 → 0 ≤ fh i ∧ fh i < 256) :
    Calls Try.prog 18 #[.slice (some ⟨b, off, none⟩) n cap, .int .i64 (K : Int), .slice ha 8 hcap] w fun e w' => e = .returned (.bool (pssT fe n (8 * n - K) fh)) ∧ Ext w w' := by
  have Hs := hide hs
  have Hy := hide hy
  have Hh := hide hh
  have Hhy := hide hhy
  have c0 : ¬ (K : Int) < 127 := by omega
  have c1 : ¬ (511 : Int) < K := by omega
  have n16 : 16 ≤ n := by omega
  have n64 : n ≤ 64 := by omega
  have HN := hide hn
  have HF := hide (bytesFor_any (K : Int) w (by omega) (by omega))
  rw [show ((K : Int) + 7) / 8 = (n : Int) by omega] at HF
  have cn : ((n : Int) != (n : Int)) = false := by simp
  obtain ⟨L, hL⟩ : ∃ L, n - 1 = L := ⟨_, rfl⟩
  obtain ⟨D, hD⟩ : ∃ D, n - 9 = D := ⟨_, rfl⟩
  have hLz : (n : Int) - 1 = (L : Int) := by omega
  have hDz : (L : Int) - 8 = (D : Int) := by omega
  obtain ⟨s, hsE⟩ : ∃ s, 8 * n - K = s := ⟨_, rfl⟩
  have hsz : 8 * (n : Int) - (K : Int) = (s : Int) := by omega
  have s8 : s < 8 := by omega
  rw [hsE]
  have HL := hide hL
  have HD := hide hD
  have HSs := hide hsE
  have lD : L = D + 8 := by omega
  have HlD := hide lD
  have d7 : 7 ≤ D := by omega
  have d55 : D ≤ 55 := by omega
  have q1 : (D : Int) ≤ cap := by omega
  have q2 : (L : Int) ≤ cap := by omega
  have q3 : (D : Int) ≤ L := by omega
  have q4 : (0 : Int) ≤ D := by omega
  have q5 : (L : Int) < n := by omega
  have q6 : (L : Int) - D = 8 := by omega
  have q7 : L - D = 8 := by omega
  have q8 : ¬ cap = D := by omega
  have q9 : (0 : Int) < D := by omega
  have p1 : D ≤ cap := by omega
  have p2 : L ≤ cap := by omega
  have p3 : D ≤ L := by omega
  have r3 : wrap64 (D : Int) = (D : Int) := wrapN1 (Nat.le_trans d55 (by decide))
  have r4 : IntKind.i64.wrap (D : Int) = (D : Int) := wrapN2 (Nat.le_trans d55 (by decide))
  clear hs hy hh hhy hn hL hD hsE lD
  go_enter Try.func18, Try.ntmps18
  go_wp2_with fail
  refine HF.out.mono ?_
  rintro e w1 ⟨rfl, hw⟩
  subst hw
  clear HF
  go_wp2_with fail
  obtain ⟨X, hX⟩ : ∃ X : Nat → Prop, X = fun k => w1.heap.size ≤ k := ⟨_, rfl⟩
  clear hX
  refine anyK_begin X 11 rfl (by kernel_rfl) ?_
  refine anyK_take 0 11 0 rfl (by decide) (by kernel_rfl) (fun _ _ d _ _ h => by cases d <;> exact h) ?_
  repeat (refine headC_step (fun K hK => ?_); go_simp; first | (refine hK _ ?_; clear hK K) | (apply Exists.intro; refine ⟨fun _ => ?_, hK _ ?_⟩; (fail); clear hK K))
  refine headC_nil ?_
  refine anyK_done (by kernel_rfl) ?_ 0
  intro w2 E2
  have HE := hide E2
  replace Hs := hide (Hs.out.of_all E2)
  replace Hh := hide (Hh.out.of_all E2)
  clear E2 X
  have hcL := Hs.out.cell L (by omega)
  have hc0 : w2.cell? ⟨b, off, none⟩ = some (.int .u8 (fe 0)) := by simpa using Hs.out.cell 0 (by omega)
  obtain ⟨e0, e1⟩ := Hy.out 0 (by omega)
  have HT : Hid (pssT fe n s fh = (decide (fe (n - 1) = 188) && (decide (fe 0 < 2 ^ (8 - s)) && (alike (dbF fe n s) (mkF (n - 13)) (n - 13) && alike (pssW fe n) (shaF (mmF fe n s fh) (8 + 8 + 4)) 8)))) := rfl
  rw [HL.out] at HT
  clear r3 r4 q1 q2 q3 q6 q7 q8 p1 p2 p3 hDz
  by_cases hL : fe L = 188
  · have l1 : (fe L != 188) = false := by simp [hL]
    have HLe := hide hL
    clear hL
    rw [decide_eq_true HLe.out, Bool.true_and] at HT
    have lown := low_not' s8 e0 e1
    by_cases h0 : fe 0 < 2 ^ (8 - s)
    · rw [decide_eq_true h0, Bool.true_and] at HT
      rw [decide_eq_true h0] at lown
      have lown' : (bits .andNot .u8 (fe 0) (255 / 2 ^ s) != 0) = false := lown
      have H0 := hide h0
      clear lown h0
      obtain ⟨low, hlow⟩ : ∃ low : Int, 255 / 2 ^ s = low := ⟨_, rfl⟩
      rw [hlow] at lown'
      have Hlow := hide hlow
      have HW : Hid (BSeg w2 (some ⟨b, off + D, none⟩) b (off + D) 8 (pssW fe n)) := ⟨fun _ => rfl, fun i hi => by
        have := Hs.out.cell (D + i) (by have := HlD.out; omega)
        rw [show off + D + i = off + (D + i) by omega, this]
        unfold pssW
        rw [HD.out]⟩
      have HWy : Hid (∀ i, i < 8 → 0 ≤ pssW fe n i ∧ pssW fe n i < 256) := hide (fun i hi => by unfold pssW; rw [HD.out]; exact Hy.out _ (by have := HlD.out; omega))
      have HSd := hide (Hs.out.cut (show D ≤ n by have := HlD.out; have := HL.out; omega))
      go_wp2_with fail
      clear hsz hLz c0 c1 cn k0 k1 q4 q5 hcb hnc
      refine (unmasked_any (some ⟨b, off, none⟩) b off D cap fe (some ⟨b, off + D, none⟩) b (off + D) (cap - D) (pssW fe n) w2 (by omega) HSd.out HW.out HWy.out).mono ?_
      rintro e w3 ⟨pa, pg, pc, rfl, hpg, hpO, E3, hpn, hpc⟩
      obtain rfl := hpO.at' (by omega)
      have hp0 : w3.cell? ⟨pg, 0, none⟩ = some (.int .u8 (unmF (pssW fe n) fe 0)) := by simpa using hpO.cell 0 (by omega)
      have hf0 : w3.frozen? ⟨pg, 0, none⟩ = false := by simpa using hpO.free 0 (by omega)
      have hur := xor8_range (maskF (pssW fe n) 8 0) (fe 0)
      have land : bits .and .u8 (unmF (pssW fe n) fe 0) low = dbF fe n s 0 := by rw [← Hlow.out]; exact low_and' s8 hur.1 hur.2
      obtain ⟨db0, hdb0⟩ : ∃ db0, dbF fe n s 0 = db0 := ⟨_, rfl⟩
      rw [hdb0] at land
      have Hdb0 := hide hdb0
      have HO4 := hide ((hpO.set (show 0 < D by omega) db0).congr (f' := dbF fe n s) (fun i _ => by
        unfold dbF
        by_cases e : i = 0
        · subst e; rw [if_pos rfl, ← Hdb0.out]; unfold dbF; rw [if_pos rfl]
        · rw [if_neg e, if_neg e]))
      rw [Nat.add_zero] at HO4
      have HT4 := hide (Touch.set (Touch.refl pg w3) 0 (.int .u8 db0))
      have hpgb : b < w2.heap.size := Hs.out.lt (by omega)
      have HWn := hide ((HW.out.of_all E3).touch HT4.out (fun _ => by omega))
      have Hhn := hide ((Hh.out.of_all E3).touch HT4.out (fun h => by have := Hh.out.lt h; omega))
      replace HE : Hid (Ext w1 (w3.setCell ⟨pg, 0, none⟩ (.int .u8 db0))) := hide (below_touch (HE.out.trans E3) HT4.out (Nat.le_trans (Below.size HE.out) hpg))
      generalize unmF (pssW fe n) fe 0 = u0 at *
      obtain ⟨w4, hw4⟩ : ∃ w4, w3.setCell ⟨pg, 0, none⟩ (.int .u8 db0) = w4 := ⟨_, rfl⟩
      rw [hw4] at HO4 HWn Hhn HE
      have Hw4 := hide hw4
      clear hw4
      clear hpO E3 hur HT4 hdb0 HW HSd Hs Hh hc0 hcL
      go_wp2_with fail
      rw [Hw4.out]
      clear hp0 hf0 land lown' l1 e0 e1 q9 Hw4
      obtain ⟨A, hA⟩ : ∃ A, D - 4 = A := ⟨_, rfl⟩
      have HA := hide hA
      have a0 : (D : Int) - 4 = (A : Int) := by omega
      have a1 : (A : Int) ≤ D := by omega
      have a2 : (A : Int) ≤ pc := by omega
      have a3 : A ≤ pc := by omega
      have a4 : ¬ pc = A := by omega
      have a5 : A ≤ D := by omega
      have a6 : D - A = 4 := by omega
      have a7 : 3 ≤ A := by omega
      have a8 : A ≤ 51 := by omega
      have HAn : Hid (n - 13 = A) := by have := HD.out; unfold Hid; omega
      have HA4 := hide (show A + 4 = D by omega)
      clear hA
      have r5 : wrap64 (A : Int) = (A : Int) := wrapN1 (Nat.le_trans a8 (by decide))
      have r6 : IntKind.i64.wrap (A : Int) = (A : Int) := wrapN2 (Nat.le_trans a8 (by decide))
      obtain ⟨X, hX⟩ : ∃ X : Nat → Prop, X = fun k => w4.heap.size ≤ k := ⟨_, rfl⟩
      clear hX
      refine anyK_begin X 12 rfl (by kernel_rfl) ?_
      refine anyK_take 0 12 0 rfl (by decide) (by kernel_rfl) (fun _ _ d _ _ h => by cases d <;> exact h) ?_
      repeat (refine headC_step (fun K hK => ?_); go_simp; first | (refine hK _ ?_; clear hK K) | (apply Exists.intro; refine ⟨fun _ => ?_, hK _ ?_⟩; (fail); clear hK K))
      refine headC_nil ?_
      refine anyK_done (by kernel_rfl) ?_ 0
      intro w5 E5
      replace HO4 := hide (HO4.out.of_all E5)
      replace HWn := hide (HWn.out.of_all E5)
      replace Hhn := hide (Hhn.out.of_all E5)
      replace HE := hide (HE.out.trans E5)
      have HSalt : Hid (BSeg w5 (some ⟨pg, A, none⟩) pg A 4 (fun i => dbF fe n s (A + i))) := ⟨fun _ => rfl, fun i hi => by
        have := HO4.out.cell (A + i) (by have := HA4.out; omega)
        rw [Nat.zero_add] at this
        exact this⟩
      have HAh := hide (HO4.out.toBSeg.cut (show A ≤ D from a5))
      clear E5 X a0 a1 a2 a3 a4 a6 r5 r6 hpn hpc
      go_wp2_with fail
      refine (isMark_any (some ⟨pg, 0, none⟩) pg 0 A pc (dbF fe n s) w5 (by omega) (by omega) HAh.out (fun i _ => dbF_range _ _ _ _)).mono ?_
      rintro e w6 ⟨rfl, E6⟩
      replace HWn := hide (HWn.out.of_all E6)
      replace Hhn := hide (Hhn.out.of_all E6)
      replace HSalt := hide (HSalt.out.of_all E6)
      replace HE := hide (HE.out.trans E6)
      clear E6 HAh HO4
      rw [HAn.out] at HT
      obtain ⟨mk, hmk⟩ : ∃ mk, alike (dbF fe n s) (mkF A) A = mk := ⟨_, rfl⟩
      rw [hmk] at HT ⊢
      clear hmk
      cases mk with
      | false =>
        rw [Bool.false_and] at HT
        go_wp2
        go_ret
        exact ⟨ret_bool HT.out.symm, HE.out⟩
      | true =>
        rw [Bool.true_and] at HT
        have hmk0 := run_make_row' (P := Try.prog) 22 5 (.int .u8 0) 1 Try.underlying22 Try.info5 rfl .i64 .i64 8 (by omega) (by omega)
        have hmk := hmk0
        simp only [show ((8 : Nat) : Int) = 8 from rfl] at hmk
        have HZ := hide (owns_made w6 8 (by omega))
        have E7 := Ext.alloc w6 (.cells (madeCells #[.int .u8 0] 8) 5)
        obtain ⟨W, hW⟩ : ∃ W, w6.alloc (.cells (madeCells #[.int .u8 0] 8) 5) = W := ⟨_, rfl⟩
        have hWz : W.heap.size = w6.heap.size + 1 := by rw [← hW]; simp
        rw [hW] at HZ E7
        obtain ⟨za, zg, zc, hzv, -, -, -, hzB⟩ := owns_seg HZ.out
        simp only [Value.slice.injEq] at hzv
        obtain ⟨rfl, -, rfl⟩ := hzv
        have HZB := hide hzB.toBSeg
        replace HWn := hide (HWn.out.of_all E7)
        replace Hhn := hide (Hhn.out.of_all E7)
        replace HSalt := hide (HSalt.out.of_all E7)
        replace HE := hide (HE.out.trans E7)
        clear E7 hzB HZ hmk0
        obtain ⟨Z, hZ⟩ : ∃ Z, w6.heap.size = Z := ⟨_, rfl⟩
        rw [hZ] at HZB hWz
        have HS3 := hide (Blk.alloc W [.slice (some ⟨Z, 0, none⟩) 8 8, .slice ha 8 hcap, .slice (some ⟨pg, A, none⟩) 4 (pc - A)] 22)
        have E8 := Ext.alloc W (.cells #[.slice (some ⟨Z, 0, none⟩) 8 8, .slice ha 8 hcap, .slice (some ⟨pg, A, none⟩) 4 (pc - A)] 22)
        have HC := hide (concat3_any W.heap.size (W.alloc (.cells #[.slice (some ⟨Z, 0, none⟩) 8 8, .slice ha 8 hcap, .slice (some ⟨pg, A, none⟩) 4 (pc - A)] 22)) _ _ _ _ _ _ _ _ _ _ _ _ _ _ _ _ _ _ HS3.out (HZB.out.of_all E8) (Hhn.out.of_all E8) (HSalt.out.of_all E8) (by omega))
        rw [hWz] at HC
        replace HWn := hide (HWn.out.of_all E8)
        replace HE := hide (HE.out.trans E8)
        clear E8 HS3 HZB Hhn HSalt
        go_wp2_with fail
        refine HC.out.mono ?_
        rintro e w9 ⟨v9, rfl, hO9, E9⟩
        obtain ⟨ya, yg, yc, rfl, -, -, -, hyB⟩ := owns_seg hO9
        have HY := hide hyB.toBSeg
        replace HWn := hide (HWn.out.of_all E9)
        replace HE : Hid (Ext w1 w9) := hide (HE.out.trans E9)
        have HMM : Hid (catF (catF (fun _ => 0) 8 fh) (8 + 8) (fun i => dbF fe n s (A + i)) = mmF fe n s fh) := by unfold Hid mmF; rw [HAn.out]
        rw [HMM.out] at HY
        have HMr : Hid (∀ i, i < 8 + 8 + 4 → 0 ≤ mmF fe n s fh i ∧ mmF fe n s fh i < 256) := hide (fun i hi => by
          unfold mmF catF
          split
          · split
            · show (0 : Int) ≤ 0 ∧ (0 : Int) < 256; omega
            · exact Hhy.out _ (by omega)
          · exact dbF_range _ _ _ _)
        clear hO9 E9 hyB HC HMM hW hWz hZ hmk
        generalize mmF fe n s fh = mm at *
        go_wp2_with fail
        refine (short_any ya yg 0 (8 + 8 + 4) yc mm w9 (by omega) HY.out HMr.out).mono ?_
        rintro e w10 ⟨sa, sg, sc, rfl, -, hSo, E10⟩
        rw [show shortN (8 + 8 + 4) = 8 from rfl] at hSo ⊢
        have HSo := hide hSo.toBSeg
        replace HWn := hide (HWn.out.of_all E10)
        replace HE : Hid (Ext w1 w10) := hide (HE.out.trans E10)
        clear hSo E10 HY HMr
        have HSr : Hid (∀ i, i < 8 → 0 ≤ shaF mm (8 + 8 + 4) i ∧ shaF mm (8 + 8 + 4) i < 256) := hide (fun i _ => shaF_bound' _ _ _)
        generalize shaF mm (8 + 8 + 4) = sh at *
        go_wp2_with fail
        refine (bytesEqual_any (some ⟨b, off + D, none⟩) b (off + D) 8 _ (pssW fe n) sa sg 0 8 sc sh w10 HWn.out HSo.out HWy.out HSr.out).mono ?_
        rintro e w11 ⟨rfl, hw11⟩
        subst hw11
        rw [show (8 == 8 && alike (pssW fe n) sh 8) = alike (pssW fe n) sh 8 from rfl, ← HT.out]
        clear HT
        obtain ⟨r, hr⟩ : ∃ r, pssT fe n s fh = r := ⟨_, rfl⟩
        rw [hr]
        have Hr := hide hr
        clear hr
        go_wp2
        go_ret
        exact ⟨ret_bool Hr.out.symm, HE.out⟩
    · rw [decide_eq_false h0, Bool.false_and] at HT
      rw [decide_eq_false h0] at lown
      have lown' : (bits .andNot .u8 (fe 0) (255 / 2 ^ s) != 0) = true := lown
      clear lown h0
      go_wp2
      go_ret
      exact ⟨ret_bool HT.out.symm, HE.out⟩
  · have l1 : (fe L != 188) = true := by simp [hL]
    rw [decide_eq_false hL, Bool.false_and] at HT
    clear hL
    go_wp2
    go_ret
    exact ⟨ret_bool HT.out.symm, HE.out⟩

theorem pssB_true {n : Nat} {B : Int} {nh : Nat} (h : 127 ≤ B ∧ B ≤ 511 ∧ (n : Int) = (B + 7) / 8 ∧ nh = 8) (fe fh : Nat → Int) : pssB fe n B fh nh = pssT fe n (8 * n - B.toNat) fh := by
  unfold pssB pssIn
  rw [decide_eq_true h]
  rfl
theorem pssB_false {n : Nat} {B : Int} {nh : Nat} (h : ¬ (127 ≤ B ∧ B ≤ 511 ∧ (n : Int) = (B + 7) / 8 ∧ nh = 8)) (fe fh : Nat → Int) : pssB fe n B fh nh = false := by
  unfold pssB pssIn
  rw [decide_eq_false h]
  rfl

set_option maxHeartbeats 1600000 in
theorem implPssOk_any (a : Option Addr) (b off n cap : Nat) (fe : Nat → Int) (B : Int) (ha : Option Addr) (hb hoff nh hcap : Nat) (fh : Nat → Int) (w : World) (hnc : n ≤ cap) (hcb : cap ≤ 9223372036854775807)
    (hs : BSeg w a b off n fe) (hy : ∀ i, i < n → 0 ≤ fe i ∧ fe i < 256) (hh : BSeg w ha hb hoff nh fh) (hhy : ∀ i, i < nh → 0 ≤ fh i ∧ fh i < 256) :
    Calls Try.prog 18 #[.slice a n cap, .int .i64 B, .slice ha nh hcap] w fun e w' => e = .returned (.bool (pssB fe n B fh nh)) ∧ Ext w w' := by
  by_cases h1 : B < 127
  · rw [pssB_false (by omega)]
    clear hs hh
    go_enter Try.func18, Try.ntmps18
    go_wp2
    go_ret
    exact ⟨rfl, Ext.refl _⟩
  by_cases h2 : 511 < B
  · rw [pssB_false (by omega)]
    clear hs hh
    go_enter Try.func18, Try.ntmps18
    go_wp2
    go_ret
    exact ⟨rfl, Ext.refl _⟩
  have HF := hide (bytesFor_any B w (by omega) (by omega))
  by_cases h3 : (n : Int) = (B + 7) / 8
  · by_cases h4 : nh = 8
    · subst h4
      rw [pssB_true ⟨by omega, by omega, h3, rfl⟩]
      obtain ⟨K, rfl⟩ := Int.eq_ofNat_of_zero_le (show 0 ≤ B by omega)
      obtain rfl := hs.at' (by omega)
      rw [show ((K : Int)).toNat = K by omega]
      exact implPssOk_yes b off n cap fe K ha hb hoff hcap fh w hnc hcb (by omega) (by omega) (by omega) hs hy hh hhy
    · rw [pssB_false (by omega)]
      rw [← h3] at HF
      have c1 : ((n : Int) != (n : Int)) = false := by simp
      have c2 : ((nh : Int) != 8) = true := by simp; omega
      clear hs hh h3 h4
      go_enter Try.func18, Try.ntmps18
      go_wp2_with fail
      refine HF.out.mono ?_
      rintro e w1 ⟨rfl, hw⟩
      subst hw
      go_wp2
      go_ret
      exact ⟨rfl, Ext.refl _⟩
  · rw [pssB_false (by omega)]
    have c1 : ((n : Int) != (B + 7) / 8) = true := by simp; omega
    clear hs hh h3
    generalize (B + 7) / 8 = q at *
    go_enter Try.func18, Try.ntmps18
    go_wp2_with fail
    refine HF.out.mono ?_
    rintro e w1 ⟨rfl, hw⟩
    subst hw
    go_wp2
    go_ret
    exact ⟨rfl, Ext.refl _⟩

end Go.Proofs.Ytjkojofpkeglpab
