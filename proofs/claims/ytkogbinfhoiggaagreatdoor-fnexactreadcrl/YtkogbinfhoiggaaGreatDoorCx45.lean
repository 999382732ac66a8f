/- Walks: ReadCrl of the model. -/
import Derived.Deep.CutRange
import Derived.Test.YtkogbinfhoiggaaGreatDoorCx44
namespace Go.Proofs.YtkogbinfhoiggaaGreatDoor
set_option linter.unusedVariables false
set_option linter.unusedSimpArgs false
open Go.RowKit
def GivesSp (w : World) (P : Prop) (R : Cl → Prop) (e : Ending) (w' : World) : Prop :=
 Ext w w' ∧ ((∃ c m, e = .returned (.tuple #[.agg (clL c m).toArray, .bool true]) ∧ ClIn w' c m ∧ ClSm c 4000 ∧ R c) ∨ (e = .returned (.tuple #[.agg zL.toArray, .bool false]) ∧ ¬ P))
theorem row_strs {w : World} {B : Nat} {v : Value} {L : List ByteArray} (h : w.ownsRow B 9 1 v L.length (strs L)) : ∃ a g c, v = .slice a L.length c ∧ SSeg w a g 0 L.length (nth L) := by
 have h' := h
 rcases h.2 with ⟨rfl, h0⟩ | ⟨g, cap, cur, rfl, hg, hb, hn, hm, hs, ht⟩
 ·rw [h0]
  exact ⟨none, 0, 0, rfl, ⟨fun h => absurd h (Nat.lt_irrefl _), fun i hi => absurd hi (Nat.not_lt_zero _)⟩⟩
 ·refine ⟨_, g, cap, rfl, ⟨fun _ => rfl, fun i hi => ?_⟩⟩
  rw [Nat.zero_add, World.ownsRow.cellAt h' i (by simpa using hi)]
  simp [strs, nth, hi]
theorem readTextsS_any (b off n cap : Nat) (x : Nat → It) (i : Nat) (w : World) (hs : ISeg w (some ⟨b, off, none⟩) b off n x) (hn : n ≤ 300) (hi : OkI x n i) (hkid : ∀ i, i < n → 0 ≤ (x i).kid ∧ (x i).kid ≤ 300) :
  Calls Tryz.prog 15 #[.slice (some ⟨b, off, none⟩) n cap, .int .i64 (i : Int)] w fun e w' => ∃ a g c, e = .returned (.slice a (x i).kid.toNat c) ∧ SSeg w' a g 0 (x i).kid.toNat (fun j => txS (x (kpl x n i j))) ∧ Ext w w' := by
 refine (l10ReadTexts_any b off n cap x i w hs hn hi hkid).mono ?_
 rintro e w' ⟨v, rfl, hO, hE⟩
 obtain ⟨a, g, c, rfl, hS⟩ := row_strs hO
 rw [txL_len] at hS ⊢
 refine ⟨a, g, c, rfl, ⟨hS.at', fun j hj => ?_⟩, hE⟩
 rw [hS.cell j hj]
 simp [nth, txL, hj]
theorem set_ne {w : World} {b o C i : Nat} {v : Value} (h : b ≠ C) : (w.setCell ⟨C, i, none⟩ v).cell? ⟨b, o, none⟩ = w.cell? ⟨b, o, none⟩ :=
 World.cell?_of_block (a := ⟨b, o, none⟩) (Below.heap_setCell _ _ _ _ h)
theorem SSeg.setO {w : World} {a : Option Addr} {b off n C i : Nat} {f : Nat → ByteArray} {v : Value} (h : SSeg w a b off n f) (hne : 0 < n → b ≠ C) : SSeg (w.setCell ⟨C, i, none⟩ v) a b off n f := ⟨h.at', fun j hj => (set_ne (hne (by omega))).trans (h.cell j hj)⟩
theorem BSeg.setO {w : World} {a : Option Addr} {b off n C i : Nat} {f : Nat → Int} {v : Value} (h : BSeg w a b off n f) (hne : 0 < n → b ≠ C) : BSeg (w.setCell ⟨C, i, none⟩ v) a b off n f := ⟨h.at', fun j hj => (set_ne (hne (by omega))).trans (h.cell j hj)⟩
def MkS (x : Nat → It) (n a0 a1 i2 l : Nat) (w : World) (t : Value) (W : World) : Prop :=
 ∃ (C : Nat) (na : Option Addr) (nb nc : Nat) (sa : Option Addr) (sb sc : Nat), t = .pointer (some ⟨C, 0, none⟩) ∧ w.heap.size ≤ C ∧
  Blk W C [.slice na (x a1).kid.toNat nc, .int .i64 0, .int .i64 0, .int .i64 (riV (x a0).f (x a0).len), .slice none 0 0, .slice sa (l - 1) sc] ∧
  SSeg W na nb 0 (x a1).kid.toNat (fun j => txS (x (kpl x n a1 j))) ∧ BSeg W sa sb 0 (l - 1) (fun i => (x i2).f (i + 1)) ∧ Ext w W
set_option maxHeartbeats 12800000 in
set_option maxRecDepth 100000 in
theorem specReadCrl_any (g : Int → Nat × Nat × Nat × Nat) (hg : DayG g) (ba : Option Addr) (bb boff bn bc : Nat) (f : Nat → Int) (w : World) (hs : BSeg w ba bb boff bn f) (hb : ∀ i, i < bn → 0 ≤ f i ∧ f i < 256) (hbc : bn ≤ bc) (hbc2 : bc ≤ 9223372036854775807) (hn : bn ≤ 1048576) :
  Calls Tryz.prog 4 #[.slice ba bn bc] w (GivesSp w (∃ d, CrlRd g f bn d) (CrlRd g f bn)) := by
 obtain ⟨V0, hV0⟩ : ∃ V0, (w.alloc (.cells #[.slice none 0 0, .int .i64 0, .int .i64 0, .int .i64 0, .slice none 0 0, .slice none 0 0] 26)).alloc (.cells #[.slice none 0 0, .int .i64 0, .int .i64 0, .int .i64 0, .slice none 0 0, .slice none 0 0] 26) = V0 := ⟨_, rfl⟩
 obtain ⟨B0, B1, hE0, hsz⟩ := box2 w zL zL 26 26 (w1 := V0) (by rw [← hV0]; exact Ext.refl _)
 have hst := run_st (P := Tryz.prog) 26 zL V0 (by kernel_rfl) (by simp [zL, Value.oneCell']) (w.heap.size + 1) 0 (Blk.st B1 0 _ (by simp [zL]))
 have hC1 := B1.put zL rfl
 have hC0 : Blk (putL (w.heap.size + 1) 0 zL V0) w.heap.size zL := fun j v hj => ⟨(cell_putL_other _ ⟨w.heap.size, j, none⟩ zL 0 V0 (fun e => by simp at e)).trans (B0 j v hj).1, by rw [frozen_putL]; exact (B0 j v hj).2⟩
 have hE : Ext w (putL (w.heap.size + 1) 0 zL V0) := hE0.putL (Nat.le_succ _) zL
 have hsz' : w.heap.size + 2 ≤ (putL (w.heap.size + 1) 0 zL V0).heap.size := by rw [size_putL]; exact hsz
 obtain ⟨V, hV⟩ : ∃ V, putL (w.heap.size + 1) 0 zL V0 = V := ⟨_, rfl⟩
 rw [hV] at hst hC1 hC0 hE hsz'
 have HC0 := hide hC0
 have HC1 := hide hC1
 have HE := hide hE
 have HV := hide hsz'
 have Hs := hide (hs.of_all hE)
 have Hb := hide hb
 have HD := hide (specReadDer_any ba bb boff bn bc f V Hs.out hb hn hbc hbc2)
 have HNo : Hid (∀ W, Ext V W → (loadVar 26 ⟨w.heap.size + 1, 0, none⟩).run Tryz.prog W = .ok (.agg zL.toArray) W ∧ (Instr.storeAt 26 (.pointer (some ⟨w.heap.size, 0, none⟩)) (.agg zL.toArray)).run Tryz.prog W = .ok () (putL w.heap.size 0 zL W) ∧ (loadVar 26 ⟨w.heap.size, 0, none⟩).run Tryz.prog (putL w.heap.size 0 zL W) = .ok (.agg zL.toArray) (putL w.heap.size 0 zL W) ∧ Ext w (putL w.heap.size 0 zL W)) := hide (fun W h => by
  have b1 := hC1.ext h (by omega)
  have b0 := hC0.ext h (by omega)
  exact ⟨run_ld (P := Tryz.prog) 26 zL W (by kernel_rfl) (by kernel_rfl) (w.heap.size + 1) 0 (Blk.ld b1 0 _ (fun j v h => by rw [Nat.zero_add]; exact h)),
   run_st (P := Tryz.prog) 26 zL W (by kernel_rfl) (by simp [zL, Value.oneCell']) w.heap.size 0 (Blk.st b0 0 _ (by simp [zL])),
   run_ld (P := Tryz.prog) 26 zL _ (by kernel_rfl) (by kernel_rfl) w.heap.size 0 (Blk.ld (b0.put zL rfl) 0 _ (fun j v h => by rw [Nat.zero_add]; exact h)),
   (hE.trans h).putL (Nat.le_refl _) zL⟩)
 clear hs hb hbc hbc2 hn B0 B1 hE0 hsz hC1 hC0 hE hsz' hV
 obtain ⟨L, hL⟩ : ∃ L, zL = L := ⟨_, rfl⟩
 have HLz := hide hL
 rw [hL] at hst HNo HC0 HC1
 go_enter Tryz.func4, Tryz.ntmps4
 go_wp2_with (first | (refine wpList_st (by first | rfl | simp [Region.wanted, yielded]) 26 _ _ rfl _ rfl _ rfl _ (hL ▸ hst) ?_))
 refine HD.out.mono ?_
 rintro e w1 ⟨v, M, rfl, hLa, ⟨hM, hC⟩, hE1⟩
 have HE1 := hide hE1
 have HLa := hide hLa
 have HM := hide hM
 have HCp := hide hC
 obtain ⟨cd, hcd⟩ : ∃ z, (rdA f bn).2.1 = z := ⟨_, rfl⟩
 obtain ⟨pl, hpl⟩ : ∃ z, (rdA f bn).2.2 = z := ⟨_, rfl⟩
 rw [hcd, hpl]
 have Hcd := hide hcd
 clear hLa hM hC hE1 hcd hpl HD hst hL hV0
 by_cases h0 : cd = 0
 ·subst h0
  obtain ⟨⟨va, S, vc, rfl, hI⟩, ht, hX, hkid, hblk⟩ := rdx_of Hb.out Hcd.out HLa.out HM.out HCp.out
  have hlen : 1 ≤ M.length ∧ M.length ≤ 300 := by
   unfold treeV at ht
   rw [decide_eq_true_eq] at ht
   exact ⟨ht.1, ht.2.1⟩
  have hva := hI.at' (by omega)
  subst hva
  have hkd : ∀ i, i < M.length → 0 ≤ (M.getD i dI).kid ∧ (M.getD i dI).kid ≤ 300 := fun i hi => ⟨(hX.good i hi).2.2.2.1, (hX.good i hi).2.2.2.2.1⟩
  have HLy : Hid (∀ d, CrlRd g f bn d → LayC (fun i => M.getD i dI) M.length d) := hide (fun d hd => (hd.lay hg Hb.out).2 M HM.out)
  obtain ⟨x, hx⟩ : ∃ x, (fun i => M.getD i dI) = x := ⟨_, rfl⟩
  have hkd' : ∀ i, i < M.length → 0 ≤ (x i).kid ∧ (x i).kid ≤ 300 := by rw [← hx]; exact hkd
  have hlx : ∀ i, (x i).len ≤ 4000 := fun i => by
   rw [← hx]
   show (M.getD i dI).len ≤ 4000
   by_cases hi : i < M.length
   ·exact hX.len i hi
   ·rw [List.getD_eq_getElem?_getD, List.getElem?_eq_none (by omega)]
    exact Nat.zero_le _
  rw [hx] at HLy hI hX ht
  obtain ⟨n, hn⟩ : ∃ n, M.length = n := ⟨_, rfl⟩
  rw [hn] at HLy hI hX hkd' hlen ht ⊢
  have HX := hide hX
  have HI := hide hI
  have Hkd := hide hkd'
  have Hlx := hide hlx
  have Hrt := hide (OkI.root ht)
  have HKs : Hid (∀ i, OkI x n i → ∀ W, Ext w1 W → Calls Tryz.prog 13 #[.slice (some ⟨S, 0, none⟩) n vc, .int .i64 (i : Int)] W fun e w' => ∃ ad c, e = .returned (.slice ad (x i).kid.toNat c) ∧ w'.ownsRow W.heap.size 3 1 (.slice ad (x i).kid.toNat c) (x i).kid.toNat (ints (fun j => (kpl x n i j : Int)) (x i).kid.toNat) ∧ Ext W w') := hide (fun i hi W h => kidsAt_any S 0 n vc x i W (hI.of_all h) (by omega) hi hkd')
  clear hI hX hkid hblk hkd hkd' hlx ht hx hn HLa HM HCp
  have hK0 := HKs.out 0 Hrt.out
  go_wp2_with (go_at_call 13; refine (hK0 _ (Ext.refl _)).mono ?_)
  rintro e w2 ⟨ka, kc, rfl, hk0, hE2⟩
  have HE2 := hide hE2
  have Hk0 := hide hk0
  clear hk0 hE2 hK0
  obtain ⟨K0, hKe⟩ : ∃ K, (x 0).kid.toNat = K := ⟨_, rfl⟩
  rw [hKe] at Hk0 ⊢
  have HK0 := hide hKe
  clear hKe
  by_cases h2 : K0 = 2
  ·subst h2
   obtain ⟨g0, hka, hkc⟩ := row_nums Hk0.out
   have hka := hka (by omega)
   subst hka
   have k00 := hkc 0 (by omega)
   have k01 := hkc 1 (by omega)
   rw [show ((kpl x n 0 0 : Nat) : Int) = ((1 : Nat) : Int) from rfl] at k00
   have ho1 : OkI x n 1 := Hrt.out.kid (j := 0) (by rw [HK0.out]; omega)
   have ho2 : OkI x n (kpl x n 0 1) := Hrt.out.kid (j := 1) (by rw [HK0.out]; omega)
   obtain ⟨i2, hi2⟩ : ∃ i, kpl x n 0 1 = i := ⟨_, rfl⟩
   rw [hi2] at k01 ho2
   have Hi2 := hide hi2
   have Ho2 := hide ho2
   have Ho1 := hide ho1
   have l2 := ho2.lt
   have hi2n : (i2 : Int) < (n : Int) := by omega
   have HS2 := hide (HI.out.of_all HE2.out)
   have e2 := HS2.out.c1 i2 l2
   rw [Nat.zero_add] at e2
   have E2 := hide e2
   have K00 := hide k00
   have K01 := hide k01
   have hK1 := HKs.out 1 Ho1.out
   clear hkc hi2 ho1 ho2 Hk0
   obtain ⟨l, hl⟩ : ∃ l, (x i2).len = l := ⟨_, rfl⟩
   rw [hl] at e2
   have Hl := hide hl
   clear hl
   by_cases hl0 : l = 0
   ·have Hw := hide (show ¬ ∃ d, CrlRd g f bn d from fun ⟨d, hd⟩ => by
     have h1 := (bits_of (HLy.out d hd).b).2.1
     rw [← (HLy.out d hd).rz, Hi2.out, Hl.out, hl0] at h1
     omega)
    subst hl0
    obtain ⟨n1, n2, n3, n4⟩ := HNo.out w2 (HE1.out.trans HE2.out)
    have N3 := hide n3
    have N4 := hide n4
    clear n3 n4
    go_wp2_with (first | (refine wpList_ld (by first | rfl | simp [Region.wanted, yielded]) 26 _ rfl _ rfl _ n1 ?_) | (refine wpList_st (by first | rfl | simp [Region.wanted, yielded]) 26 _ _ rfl _ rfl _ rfl _ n2 ?_) | (refine bodyPost_ret (v := .tuple #[.agg L.toArray, .bool false]) (results_atb Tryz.results4 rfl rfl N3.out) rfl ⟨N4.out, .inr ⟨by rw [HLz.out], Hw.out⟩⟩))
   ·have hl0' : ((l : Int) == 0) = false := by simp; omega
    have hl0'' : ¬ (l : Int) = 0 := by omega
    go_wp2_with (go_at_call 13; refine (hK1 _ HE2.out).mono ?_)
    rintro e w3 ⟨ka, kc2, rfl, hk1, hE3⟩
    have HE3 := hide (HE2.out.trans hE3)
    have H3 := hide hE3
    have Hk1 := hide hk1
    clear hk1 hE3 hK1 e2 k00 k01
    obtain ⟨K1, hKe⟩ : ∃ K, (x 1).kid.toNat = K := ⟨_, rfl⟩
    rw [hKe] at Hk1 ⊢
    have HK1 := hide hKe
    clear hKe
    by_cases h4 : K1 = 4
    ·subst h4
     obtain ⟨g1, hka, hkc⟩ := row_nums Hk1.out
     have hka := hka (by omega)
     subst hka
     have oa : ∀ j, j < 4 → OkI x n (kpl x n 1 j) := fun j hj => Ho1.out.kid (by rw [HK1.out]; exact hj)
     obtain ⟨a0, ha0⟩ : ∃ a, kpl x n 1 0 = a := ⟨_, rfl⟩
     obtain ⟨a1, ha1⟩ : ∃ a, kpl x n 1 1 = a := ⟨_, rfl⟩
     obtain ⟨a2, ha2⟩ : ∃ a, kpl x n 1 2 = a := ⟨_, rfl⟩
     obtain ⟨a3, ha3⟩ : ∃ a, kpl x n 1 3 = a := ⟨_, rfl⟩
     have Oa0 := hide (ha0 ▸ oa 0 (by decide))
     have Oa1 := hide (ha1 ▸ oa 1 (by decide))
     have Oa2 := hide (ha2 ▸ oa 2 (by decide))
     have Oa3 := hide (ha3 ▸ oa 3 (by decide))
     have k10 := hkc 0 (by decide)
     have k11 := hkc 1 (by decide)
     have k12 := hkc 2 (by decide)
     have k13 := hkc 3 (by decide)
     simp only [ha0] at k10
     simp only [ha1] at k11
     simp only [ha2] at k12
     simp only [ha3] at k13
     have Ha := hide (And.intro ha0 (And.intro ha1 (And.intro ha2 ha3)))
     have K12 := hide k12
     have K13 := hide k13
     have HS3 := hide (HI.out.of_all HE3.out)
     have lt0 := Oa0.out.lt
     have b0 : (a0 : Int) < (n : Int) := by omega
     have k01 := (Below.cell H3.out (p := ⟨g0, 1, none⟩) (World.block_lt_of_cell? _ _ K01.out)).trans K01.out
     have e2 := (Below.cell H3.out (p := ⟨S, i2 * 3 + 1, none⟩) (World.block_lt_of_cell? _ _ E2.out)).trans E2.out
     rw [Hl.out] at e2
     have hcp := HX.out.cap i2 l2 (by rw [Hl.out]; omega)
     rw [show Cp (x i2) ↔ ((x i2).len ≤ (x i2).cap ∧ (x i2).cap ≤ 9223372036854775807) from Iff.rfl, Hl.out] at hcp
     have hc1 := hcp.1
     have hc2 := hcp.2
     have hbo := HX.out.body i2 l2
     have had := hbo.at' (by rw [Hl.out]; omega)
     rw [had] at e2
     have Hbo := hide (hbo.toBSeg)
     have d10 := fun p : ReC (fun _ => False) w3 => cell_reC k10 (fun h => h) p
     have d11 := fun p : ReC (fun _ => False) w3 => cell_reC k11 (fun h => h) p
     have d01 := fun p : ReC (fun _ => False) w3 => cell_reC k01 (fun h => h) p
     have de2 := fun p : ReC (fun _ => False) w3 => cell_reC e2 (fun h => h) p
     have hldI : ∀ p : ReC (fun _ => False) w3, (loadVar 40 ⟨S, a0 * 3, none⟩).run Tryz.prog p.val = .ok (.agg #[.int .i64 (x a0).tag, .slice (x a0).ad (x a0).len (x a0).cap, .int .i64 (x a0).kid]) p.val := fun p => by
      have q0 := cell_reC (HS3.out.c0 a0 lt0) (fun h => h) p
      have q1 := cell_reC (HS3.out.c1 a0 lt0) (fun h => h) p
      have q2 := cell_reC (HS3.out.c2 a0 lt0) (fun h => h) p
      rw [Nat.zero_add] at q0 q1 q2
      exact run_ld (P := Tryz.prog) 40 [.int .i64 (x a0).tag, .slice (x a0).ad (x a0).len (x a0).cap, .int .i64 (x a0).kid] p.val (by kernel_rfl) (by kernel_rfl) S (a0 * 3) (fun j v hj => by
       match j, hj with
       | 0, h => cases h; exact q0
       | 1, h => cases h; exact q1
       | 2, h => cases h; exact q2)
     have HldI := hide hldI
     clear hkc oa ha0 ha1 ha2 ha3 k10 k11 k12 k13 k01 e2 hbo had hcp hldI hka
     generalize (x i2).cap = cp at *
     have HN0 : Hid (∀ W, Ext w3 W → Calls Tryz.prog 14 #[.agg #[.int .i64 (x a0).tag, .slice (x a0).ad (x a0).len (x a0).cap, .int .i64 (x a0).kid]] W fun e w' => e = .returned (.int .i64 (riV (x a0).f (x a0).len)) ∧ Ext W w') := hide (fun W h => l10NumZ_any (x a0) W ((HX.out.body a0 lt0).toBSeg.of_all (HE3.out.trans h)) (HX.out.rng a0 lt0) (HX.out.cap a0 lt0))
     have HN1 : Hid (∀ W, Ext w3 W → Calls Tryz.prog 15 #[.slice (some ⟨S, 0, none⟩) n vc, .int .i64 (a1 : Int)] W fun e w' => ∃ a g c, e = .returned (.slice a (x a1).kid.toNat c) ∧ SSeg w' a g 0 (x a1).kid.toNat (fun j => txS (x (kpl x n a1 j))) ∧ Ext W w') := hide (fun W h => readTextsS_any S 0 n vc x a1 W (HS3.out.of_all h) (by omega) Oa1.out Hkd.out)
     have HN2 : Hid (∀ W, Ext w3 W → Calls Tryz.prog 16 #[.slice (if cp = 1 then some ⟨(x i2).blk, (x i2).off, none⟩ else some ⟨(x i2).blk, (x i2).off + 1, none⟩) (l - 1) (cp - 1)] W fun e w' => GivesR W (l - 1) (fun i => (x i2).f (i + 1)) e w') := hide (fun W h => l1BytesD_any _ (x i2).blk ((x i2).off + 1) (l - 1) (cp - 1) _ W ⟨fun h0 => by rw [if_neg (by omega)], fun j hj => by
      have := (Hbo.out.of_all (HE3.out.trans h)).cell (j + 1) (by rw [Hl.out]; omega)
      rw [show (x i2).off + 1 + j = (x i2).off + (j + 1) by omega]
      exact this⟩ (by have := Hlx.out i2; rw [Hl.out] at this; omega))
     have Hout := hide (show Ext w w3 from HE.out.trans (HE1.out.trans HE3.out))
     have hl1 : (1 : Int) ≤ (l : Int) := by omega
     have hlc : (l : Int) ≤ (cp : Int) := by omega
     go_upto_region 11 with fail
     go_cut [10] from 52 to 73 (fun t10 wx => MkS x n a0 a1 i2 l w3 t10 wx)
     case first =>
      have HEs := hide (Ext.refl w3)
      refine anyK_begin (fun _ => False) 24 rfl (by kernel_rfl) ?_
      refine anyK_take 0 5 19 rfl (by decide) (by kernel_rfl) (fun _ _ d _ _ h => by cases d <;> exact h) ?_
      repeat (refine headC_step (fun K hK => ?_); go_simp; refine hK _ ?_; clear hK K)
      refine headC_nil ?_
      refine anyK_take 5 1 18 rfl (by decide) (by kernel_rfl) (fun _ _ d _ _ h => by cases d <;> exact h) ?_
      refine head_ld (by first | rfl | simp [Region.wanted, yielded]) rfl rfl (fun q => HldI.out q) ?_
      refine headC_nil ?_
      refine anyK_take 7 4 14 rfl (by decide) (by kernel_rfl) (fun _ _ d _ _ h => by cases d <;> exact h) ?_
      repeat (refine headC_step (fun K hK => ?_); go_simp; refine hK _ ?_; clear hK K)
      refine headC_nil ?_
      refine anyK_take 12 8 6 rfl (by decide) (by kernel_rfl) (fun _ _ d _ _ h => by cases d <;> exact h) ?_
      repeat (refine headC_step (fun K hK => ?_); go_simp; refine hK _ ?_; clear hK K)
      refine headC_nil ?_
      clear d10 d11 d01 de2
      generalize (if cp = 1 then (some (⟨(x i2).blk, (x i2).off, none⟩ : Addr)) else some ⟨(x i2).blk, (x i2).off + 1, none⟩) = sv0 at HN2 ⊢
      refine anyK_two 6 22 (by kernel_rfl) ?_ ?_
      ·refine stepK_run rfl ?_
       intro wa1 ha K2 hK2
       go_simp
       refine (HN0.out wa1 (HEs.out.trans ha)).mono ?_
       rintro e wb1 ⟨rfl, hE⟩
       have Hwb1 := hide (HEs.out.trans (ha.trans hE))
       have hST := ha.trans hE
       clear ha hE hST
       try go_simp
       refine hK2 _ _ (Grw.of_ext Hwb1.out) ?_
       clear hK2 K2
       refine anyK_two 11 22 (by kernel_rfl) ?_ ?_
       ·refine stepK_run rfl ?_
        intro wa2 ha K2 hK2
        go_simp
        refine (HN1.out wa2 (Hwb1.out.trans ha)).mono ?_
        rintro e wb2 ⟨na, nb, nc, rfl, hSn, hE⟩
        have HSn := hide hSn
        clear hSn
        have Hwb2 := hide (Hwb1.out.trans (ha.trans hE))
        have hST := ha.trans hE
        clear ha hE hST
        try go_simp
        refine hK2 _ _ (Grw.of_ext Hwb2.out) ?_
        clear hK2 K2
        refine anyK_two 20 22 (by kernel_rfl) ?_ ?_
        ·refine stepK_run rfl ?_
         intro wa3 ha K2 hK2
         go_simp
         refine (HN2.out wa3 (Hwb2.out.trans ha)).mono ?_
         rintro e wb3 ⟨sv, rfl, hSo, hE⟩
         obtain ⟨sa, sb, sc, rfl, -, -, -, hSg⟩ := owns_seg hSo
         have HSg := hide hSg.toBSeg
         clear hSg hSo
         have Hwb3 := hide (Hwb2.out.trans (ha.trans hE))
         have hST := ha.trans hE
         replace HSn := hide (HSn.out.of_all hST)
         clear ha hE hST
         try go_simp
         refine hK2 _ _ (Grw.of_ext Hwb3.out) ?_
         clear hK2 K2
         refine anyK_take 21 1 2 rfl (by decide) (by kernel_rfl) (fun _ _ d _ _ h => by cases d <;> exact h) ?_
         repeat (refine headC_step (fun K hK => ?_); go_simp; refine hK _ ?_; clear hK K)
         refine headC_nil ?_
         refine anyK_one 22 (by kernel_rfl) ?_
         refine stepK_run rfl ?_
         intro wa4 ha K2 hK2
         go_simp
         obtain ⟨wb4, hwb⟩ : ∃ W, wa4.alloc (.cells #[.slice none 0 0, .int .i64 0, .int .i64 0, .int .i64 0, .slice none 0 0, .slice none 0 0] 26) = W := ⟨_, rfl⟩
         obtain ⟨hBx, hE, -⟩ := box1 wa4 zL 26 (w1 := wb4) (by rw [← hwb]; exact Ext.refl _)
         have HCge := hide (Below.size (Hwb3.out.trans ha))
         rw [hwb]
         obtain ⟨Cb, hCb⟩ : ∃ C, wa4.heap.size = C := ⟨_, rfl⟩
         rw [hCb] at hBx HCge ⊢
         have HBx := hide hBx
         have Hwb4 := hide (Hwb3.out.trans (ha.trans hE))
         have hST := ha.trans hE
         replace HSn := hide (HSn.out.of_all hST)
         replace HSg := hide (HSg.out.of_all hST)
         clear ha hE hST hBx hwb hCb
         refine hK2 _ _ (Grw.of_ext Hwb4.out) ?_
         clear hK2 K2
         refine anyK_one 23 (by kernel_rfl) ?_
         refine stepK_run rfl ?_
         intro wf ha K2 hK2
         have hST := ha
         replace HSn := hide (HSn.out.of_all hST)
         replace HSg := hide (HSg.out.of_all hST)
         replace HBx := hide (Blk.ext HBx.out hST (Blk.lt HBx.out (by decide)))
         have BZ := HBx.out
         have v0' := (BZ 0 _ rfl).1
         have v1' := (BZ 1 _ rfl).1
         have v2' := (BZ 2 _ rfl).1
         have v3' := (BZ 3 _ rfl).1
         have v4' := (BZ 4 _ rfl).1
         have v5' := (BZ 5 _ rfl).1
         have y0' := (BZ 0 _ rfl).2
         have y1' := (BZ 1 _ rfl).2
         have y2' := (BZ 2 _ rfl).2
         have y3' := (BZ 3 _ rfl).2
         have y4' := (BZ 4 _ rfl).2
         have y5' := (BZ 5 _ rfl).2
         have hnn : 0 < (x a1).kid.toNat → nb ≠ Cb := fun h0 e => by
          have := HSn.out.cell 0 h0
          rw [e, v0'] at this
          cases this
         have hsn : 0 < l - 1 → sb ≠ Cb := fun h0 e => by
          have := HSg.out.cell 0 h0
          rw [e, v0'] at this
          cases this
         have Hnn := hide hnn
         have Hsn := hide hsn
         have HEf := hide (Hwb4.out.trans ha)
         have HCf := hide (Blk.lt BZ (by decide))
         clear hST ha BZ hnn hsn
         go_simp
         refine hK2 _ _ (show Grw (fun _ => False) w3 (putL Cb 0 [.slice na (x a1).kid.toNat nc, .int .i64 0, .int .i64 0, .int .i64 (riV (x a0).f (x a0).len), .slice none 0 0, .slice sa (l - 1) sc] wf) from Grw.of_ext (HEf.out.putL HCge.out [.slice na (x a1).kid.toNat nc, .int .i64 0, .int .i64 0, .int .i64 (riV (x a0).f (x a0).len), .slice none 0 0, .slice sa (l - 1) sc])) ?_
         clear hK2 K2 v0' y0' v1' y1' v2' y2' v3' y3' v4' y4' v5' y5'
         refine anyK_done (by kernel_rfl) ?_ 0
         intro wz hz
         replace hz : Ext (putL Cb 0 [.slice na (x a1).kid.toNat nc, .int .i64 0, .int .i64 0, .int .i64 (riV (x a0).f (x a0).len), .slice none 0 0, .slice sa (l - 1) sc] wf) wz := hz
         have HBz := hide ((HBx.out.put [.slice na (x a1).kid.toNat nc, .int .i64 0, .int .i64 0, .int .i64 (riV (x a0).f (x a0).len), .slice none 0 0, .slice sa (l - 1) sc] rfl).ext hz (by rw [size_putL]; exact HCf.out))
         have HSz : Hid (SSeg wz na nb 0 (x a1).kid.toNat (fun j => txS (x (kpl x n a1 j)))) := hide (SSeg.of_all ⟨HSn.out.at', fun j hj => (cell_putL_other Cb ⟨nb, 0 + j, none⟩ [.slice na (x a1).kid.toNat nc, .int .i64 0, .int .i64 0, .int .i64 (riV (x a0).f (x a0).len), .slice none 0 0, .slice sa (l - 1) sc] 0 wf (fun e => absurd e (Hnn.out (by omega)))).trans (HSn.out.cell j hj)⟩ hz)
         have HGz : Hid (BSeg wz sa sb 0 (l - 1) (fun i => (x i2).f (i + 1))) := hide (BSeg.of_all ⟨HSg.out.at', fun j hj => (cell_putL_other Cb ⟨sb, 0 + j, none⟩ [.slice na (x a1).kid.toNat nc, .int .i64 0, .int .i64 0, .int .i64 (riV (x a0).f (x a0).len), .slice none 0 0, .slice sa (l - 1) sc] 0 wf (fun e => absurd e (Hsn.out (by omega)))).trans (HSg.out.cell j hj)⟩ hz)
         have HEz := hide ((HEf.out.putL HCge.out [.slice na (x a1).kid.toNat nc, .int .i64 0, .int .i64 0, .int .i64 (riV (x a0).f (x a0).len), .slice none 0 0, .slice sa (l - 1) sc]).trans hz)
         clear hz
         go_wp2_with fail
         go_meet
         exact ⟨Cb, na, nb, nc, sa, sb, sc, rfl, HCge.out, HBz.out, HSz.out, HGz.out, HEz.out⟩
        ·refine stepK_run rfl ?_
         intro wa5 ha K2 hK2
         go_simp
         obtain ⟨wb5, hwb⟩ : ∃ W, wa5.alloc (.cells #[.slice none 0 0, .int .i64 0, .int .i64 0, .int .i64 0, .slice none 0 0, .slice none 0 0] 26) = W := ⟨_, rfl⟩
         obtain ⟨hBx, hE, -⟩ := box1 wa5 zL 26 (w1 := wb5) (by rw [← hwb]; exact Ext.refl _)
         have HCge := hide (Below.size (Hwb2.out.trans ha))
         rw [hwb]
         obtain ⟨Cb, hCb⟩ : ∃ C, wa5.heap.size = C := ⟨_, rfl⟩
         rw [hCb] at hBx HCge ⊢
         have HBx := hide hBx
         have Hwb5 := hide (Hwb2.out.trans (ha.trans hE))
         have hST := ha.trans hE
         replace HSn := hide (HSn.out.of_all hST)
         clear ha hE hST hBx hwb hCb
         refine hK2 _ _ (Grw.of_ext Hwb5.out) ?_
         clear hK2 K2
         refine anyK_one 20 (by kernel_rfl) ?_
         refine stepK_run rfl ?_
         intro wa6 ha K2 hK2
         go_simp
         refine (HN2.out wa6 (Hwb5.out.trans ha)).mono ?_
         rintro e wb6 ⟨sv, rfl, hSo, hE⟩
         obtain ⟨sa, sb, sc, rfl, -, -, -, hSg⟩ := owns_seg hSo
         have HSg := hide hSg.toBSeg
         clear hSg hSo
         have Hwb6 := hide (Hwb5.out.trans (ha.trans hE))
         have hST := ha.trans hE
         replace HSn := hide (HSn.out.of_all hST)
         replace HBx := hide (Blk.ext HBx.out hST (Blk.lt HBx.out (by decide)))
         clear ha hE hST
         try go_simp
         refine hK2 _ _ (Grw.of_ext Hwb6.out) ?_
         clear hK2 K2
         refine anyK_take 21 1 1 rfl (by decide) (by kernel_rfl) (fun _ _ d _ _ h => by cases d <;> exact h) ?_
         repeat (refine headC_step (fun K hK => ?_); go_simp; refine hK _ ?_; clear hK K)
         refine headC_nil ?_
         refine anyK_one 23 (by kernel_rfl) ?_
         refine stepK_run rfl ?_
         intro wf ha K2 hK2
         have hST := ha
         replace HSn := hide (HSn.out.of_all hST)
         replace HBx := hide (Blk.ext HBx.out hST (Blk.lt HBx.out (by decide)))
         replace HSg := hide (HSg.out.of_all hST)
         have BZ := HBx.out
         have v0' := (BZ 0 _ rfl).1
         have v1' := (BZ 1 _ rfl).1
         have v2' := (BZ 2 _ rfl).1
         have v3' := (BZ 3 _ rfl).1
         have v4' := (BZ 4 _ rfl).1
         have v5' := (BZ 5 _ rfl).1
         have y0' := (BZ 0 _ rfl).2
         have y1' := (BZ 1 _ rfl).2
         have y2' := (BZ 2 _ rfl).2
         have y3' := (BZ 3 _ rfl).2
         have y4' := (BZ 4 _ rfl).2
         have y5' := (BZ 5 _ rfl).2
         have hnn : 0 < (x a1).kid.toNat → nb ≠ Cb := fun h0 e => by
          have := HSn.out.cell 0 h0
          rw [e, v0'] at this
          cases this
         have hsn : 0 < l - 1 → sb ≠ Cb := fun h0 e => by
          have := HSg.out.cell 0 h0
          rw [e, v0'] at this
          cases this
         have Hnn := hide hnn
         have Hsn := hide hsn
         have HEf := hide (Hwb6.out.trans ha)
         have HCf := hide (Blk.lt BZ (by decide))
         clear hST ha BZ hnn hsn
         go_simp
         refine hK2 _ _ (show Grw (fun _ => False) w3 (putL Cb 0 [.slice na (x a1).kid.toNat nc, .int .i64 0, .int .i64 0, .int .i64 (riV (x a0).f (x a0).len), .slice none 0 0, .slice sa (l - 1) sc] wf) from Grw.of_ext (HEf.out.putL HCge.out [.slice na (x a1).kid.toNat nc, .int .i64 0, .int .i64 0, .int .i64 (riV (x a0).f (x a0).len), .slice none 0 0, .slice sa (l - 1) sc])) ?_
         clear hK2 K2 v0' y0' v1' y1' v2' y2' v3' y3' v4' y4' v5' y5'
         refine anyK_done (by kernel_rfl) ?_ 0
         intro wz hz
         replace hz : Ext (putL Cb 0 [.slice na (x a1).kid.toNat nc, .int .i64 0, .int .i64 0, .int .i64 (riV (x a0).f (x a0).len), .slice none 0 0, .slice sa (l - 1) sc] wf) wz := hz
         have HBz := hide ((HBx.out.put [.slice na (x a1).kid.toNat nc, .int .i64 0, .int .i64 0, .int .i64 (riV (x a0).f (x a0).len), .slice none 0 0, .slice sa (l - 1) sc] rfl).ext hz (by rw [size_putL]; exact HCf.out))
         have HSz : Hid (SSeg wz na nb 0 (x a1).kid.toNat (fun j => txS (x (kpl x n a1 j)))) := hide (SSeg.of_all ⟨HSn.out.at', fun j hj => (cell_putL_other Cb ⟨nb, 0 + j, none⟩ [.slice na (x a1).kid.toNat nc, .int .i64 0, .int .i64 0, .int .i64 (riV (x a0).f (x a0).len), .slice none 0 0, .slice sa (l - 1) sc] 0 wf (fun e => absurd e (Hnn.out (by omega)))).trans (HSn.out.cell j hj)⟩ hz)
         have HGz : Hid (BSeg wz sa sb 0 (l - 1) (fun i => (x i2).f (i + 1))) := hide (BSeg.of_all ⟨HSg.out.at', fun j hj => (cell_putL_other Cb ⟨sb, 0 + j, none⟩ [.slice na (x a1).kid.toNat nc, .int .i64 0, .int .i64 0, .int .i64 (riV (x a0).f (x a0).len), .slice none 0 0, .slice sa (l - 1) sc] 0 wf (fun e => absurd e (Hsn.out (by omega)))).trans (HSg.out.cell j hj)⟩ hz)
         have HEz := hide ((HEf.out.putL HCge.out [.slice na (x a1).kid.toNat nc, .int .i64 0, .int .i64 0, .int .i64 (riV (x a0).f (x a0).len), .slice none 0 0, .slice sa (l - 1) sc]).trans hz)
         clear hz
         go_wp2_with fail
         go_meet
         exact ⟨Cb, na, nb, nc, sa, sb, sc, rfl, HCge.out, HBz.out, HSz.out, HGz.out, HEz.out⟩
       ·refine stepK_run rfl ?_
        intro wa7 ha K2 hK2
        go_simp
        obtain ⟨wb7, hwb⟩ : ∃ W, wa7.alloc (.cells #[.slice none 0 0, .int .i64 0, .int .i64 0, .int .i64 0, .slice none 0 0, .slice none 0 0] 26) = W := ⟨_, rfl⟩
        obtain ⟨hBx, hE, -⟩ := box1 wa7 zL 26 (w1 := wb7) (by rw [← hwb]; exact Ext.refl _)
        have HCge := hide (Below.size (Hwb1.out.trans ha))
        rw [hwb]
        obtain ⟨Cb, hCb⟩ : ∃ C, wa7.heap.size = C := ⟨_, rfl⟩
        rw [hCb] at hBx HCge ⊢
        have HBx := hide hBx
        have Hwb7 := hide (Hwb1.out.trans (ha.trans hE))
        have hST := ha.trans hE
        clear ha hE hST hBx hwb hCb
        refine hK2 _ _ (Grw.of_ext Hwb7.out) ?_
        clear hK2 K2
        refine anyK_one 11 (by kernel_rfl) ?_
        refine stepK_run rfl ?_
        intro wa8 ha K2 hK2
        go_simp
        refine (HN1.out wa8 (Hwb7.out.trans ha)).mono ?_
        rintro e wb8 ⟨na, nb, nc, rfl, hSn, hE⟩
        have HSn := hide hSn
        clear hSn
        have Hwb8 := hide (Hwb7.out.trans (ha.trans hE))
        have hST := ha.trans hE
        replace HBx := hide (Blk.ext HBx.out hST (Blk.lt HBx.out (by decide)))
        clear ha hE hST
        try go_simp
        refine hK2 _ _ (Grw.of_ext Hwb8.out) ?_
        clear hK2 K2
        refine anyK_one 20 (by kernel_rfl) ?_
        refine stepK_run rfl ?_
        intro wa9 ha K2 hK2
        go_simp
        refine (HN2.out wa9 (Hwb8.out.trans ha)).mono ?_
        rintro e wb9 ⟨sv, rfl, hSo, hE⟩
        obtain ⟨sa, sb, sc, rfl, -, -, -, hSg⟩ := owns_seg hSo
        have HSg := hide hSg.toBSeg
        clear hSg hSo
        have Hwb9 := hide (Hwb8.out.trans (ha.trans hE))
        have hST := ha.trans hE
        replace HBx := hide (Blk.ext HBx.out hST (Blk.lt HBx.out (by decide)))
        replace HSn := hide (HSn.out.of_all hST)
        clear ha hE hST
        try go_simp
        refine hK2 _ _ (Grw.of_ext Hwb9.out) ?_
        clear hK2 K2
        refine anyK_take 21 1 1 rfl (by decide) (by kernel_rfl) (fun _ _ d _ _ h => by cases d <;> exact h) ?_
        repeat (refine headC_step (fun K hK => ?_); go_simp; refine hK _ ?_; clear hK K)
        refine headC_nil ?_
        refine anyK_one 23 (by kernel_rfl) ?_
        refine stepK_run rfl ?_
        intro wf ha K2 hK2
        have hST := ha
        replace HBx := hide (Blk.ext HBx.out hST (Blk.lt HBx.out (by decide)))
        replace HSn := hide (HSn.out.of_all hST)
        replace HSg := hide (HSg.out.of_all hST)
        have BZ := HBx.out
        have v0' := (BZ 0 _ rfl).1
        have v1' := (BZ 1 _ rfl).1
        have v2' := (BZ 2 _ rfl).1
        have v3' := (BZ 3 _ rfl).1
        have v4' := (BZ 4 _ rfl).1
        have v5' := (BZ 5 _ rfl).1
        have y0' := (BZ 0 _ rfl).2
        have y1' := (BZ 1 _ rfl).2
        have y2' := (BZ 2 _ rfl).2
        have y3' := (BZ 3 _ rfl).2
        have y4' := (BZ 4 _ rfl).2
        have y5' := (BZ 5 _ rfl).2
        have hnn : 0 < (x a1).kid.toNat → nb ≠ Cb := fun h0 e => by
         have := HSn.out.cell 0 h0
         rw [e, v0'] at this
         cases this
        have hsn : 0 < l - 1 → sb ≠ Cb := fun h0 e => by
         have := HSg.out.cell 0 h0
         rw [e, v0'] at this
         cases this
        have Hnn := hide hnn
        have Hsn := hide hsn
        have HEf := hide (Hwb9.out.trans ha)
        have HCf := hide (Blk.lt BZ (by decide))
        clear hST ha BZ hnn hsn
        go_simp
        refine hK2 _ _ (show Grw (fun _ => False) w3 (putL Cb 0 [.slice na (x a1).kid.toNat nc, .int .i64 0, .int .i64 0, .int .i64 (riV (x a0).f (x a0).len), .slice none 0 0, .slice sa (l - 1) sc] wf) from Grw.of_ext (HEf.out.putL HCge.out [.slice na (x a1).kid.toNat nc, .int .i64 0, .int .i64 0, .int .i64 (riV (x a0).f (x a0).len), .slice none 0 0, .slice sa (l - 1) sc])) ?_
        clear hK2 K2 v0' y0' v1' y1' v2' y2' v3' y3' v4' y4' v5' y5'
        refine anyK_done (by kernel_rfl) ?_ 0
        intro wz hz
        replace hz : Ext (putL Cb 0 [.slice na (x a1).kid.toNat nc, .int .i64 0, .int .i64 0, .int .i64 (riV (x a0).f (x a0).len), .slice none 0 0, .slice sa (l - 1) sc] wf) wz := hz
        have HBz := hide ((HBx.out.put [.slice na (x a1).kid.toNat nc, .int .i64 0, .int .i64 0, .int .i64 (riV (x a0).f (x a0).len), .slice none 0 0, .slice sa (l - 1) sc] rfl).ext hz (by rw [size_putL]; exact HCf.out))
        have HSz : Hid (SSeg wz na nb 0 (x a1).kid.toNat (fun j => txS (x (kpl x n a1 j)))) := hide (SSeg.of_all ⟨HSn.out.at', fun j hj => (cell_putL_other Cb ⟨nb, 0 + j, none⟩ [.slice na (x a1).kid.toNat nc, .int .i64 0, .int .i64 0, .int .i64 (riV (x a0).f (x a0).len), .slice none 0 0, .slice sa (l - 1) sc] 0 wf (fun e => absurd e (Hnn.out (by omega)))).trans (HSn.out.cell j hj)⟩ hz)
        have HGz : Hid (BSeg wz sa sb 0 (l - 1) (fun i => (x i2).f (i + 1))) := hide (BSeg.of_all ⟨HSg.out.at', fun j hj => (cell_putL_other Cb ⟨sb, 0 + j, none⟩ [.slice na (x a1).kid.toNat nc, .int .i64 0, .int .i64 0, .int .i64 (riV (x a0).f (x a0).len), .slice none 0 0, .slice sa (l - 1) sc] 0 wf (fun e => absurd e (Hsn.out (by omega)))).trans (HSg.out.cell j hj)⟩ hz)
        have HEz := hide ((HEf.out.putL HCge.out [.slice na (x a1).kid.toNat nc, .int .i64 0, .int .i64 0, .int .i64 (riV (x a0).f (x a0).len), .slice none 0 0, .slice sa (l - 1) sc]).trans hz)
        clear hz
        go_wp2_with fail
        go_meet
        exact ⟨Cb, na, nb, nc, sa, sb, sc, rfl, HCge.out, HBz.out, HSz.out, HGz.out, HEz.out⟩
      ·refine stepK_run rfl ?_
       intro wa10 ha K2 hK2
       go_simp
       obtain ⟨wb10, hwb⟩ : ∃ W, wa10.alloc (.cells #[.slice none 0 0, .int .i64 0, .int .i64 0, .int .i64 0, .slice none 0 0, .slice none 0 0] 26) = W := ⟨_, rfl⟩
       obtain ⟨hBx, hE, -⟩ := box1 wa10 zL 26 (w1 := wb10) (by rw [← hwb]; exact Ext.refl _)
       have HCge := hide (Below.size (HEs.out.trans ha))
       rw [hwb]
       obtain ⟨Cb, hCb⟩ : ∃ C, wa10.heap.size = C := ⟨_, rfl⟩
       rw [hCb] at hBx HCge ⊢
       have HBx := hide hBx
       have Hwb10 := hide (HEs.out.trans (ha.trans hE))
       have hST := ha.trans hE
       clear ha hE hST hBx hwb hCb
       refine hK2 _ _ (Grw.of_ext Hwb10.out) ?_
       clear hK2 K2
       refine anyK_one 6 (by kernel_rfl) ?_
       refine stepK_run rfl ?_
       intro wa11 ha K2 hK2
       go_simp
       refine (HN0.out wa11 (Hwb10.out.trans ha)).mono ?_
       rintro e wb11 ⟨rfl, hE⟩
       have Hwb11 := hide (Hwb10.out.trans (ha.trans hE))
       have hST := ha.trans hE
       replace HBx := hide (Blk.ext HBx.out hST (Blk.lt HBx.out (by decide)))
       clear ha hE hST
       try go_simp
       refine hK2 _ _ (Grw.of_ext Hwb11.out) ?_
       clear hK2 K2
       refine anyK_one 11 (by kernel_rfl) ?_
       refine stepK_run rfl ?_
       intro wa12 ha K2 hK2
       go_simp
       refine (HN1.out wa12 (Hwb11.out.trans ha)).mono ?_
       rintro e wb12 ⟨na, nb, nc, rfl, hSn, hE⟩
       have HSn := hide hSn
       clear hSn
       have Hwb12 := hide (Hwb11.out.trans (ha.trans hE))
       have hST := ha.trans hE
       replace HBx := hide (Blk.ext HBx.out hST (Blk.lt HBx.out (by decide)))
       clear ha hE hST
       try go_simp
       refine hK2 _ _ (Grw.of_ext Hwb12.out) ?_
       clear hK2 K2
       refine anyK_one 20 (by kernel_rfl) ?_
       refine stepK_run rfl ?_
       intro wa13 ha K2 hK2
       go_simp
       refine (HN2.out wa13 (Hwb12.out.trans ha)).mono ?_
       rintro e wb13 ⟨sv, rfl, hSo, hE⟩
       obtain ⟨sa, sb, sc, rfl, -, -, -, hSg⟩ := owns_seg hSo
       have HSg := hide hSg.toBSeg
       clear hSg hSo
       have Hwb13 := hide (Hwb12.out.trans (ha.trans hE))
       have hST := ha.trans hE
       replace HBx := hide (Blk.ext HBx.out hST (Blk.lt HBx.out (by decide)))
       replace HSn := hide (HSn.out.of_all hST)
       clear ha hE hST
       try go_simp
       refine hK2 _ _ (Grw.of_ext Hwb13.out) ?_
       clear hK2 K2
       refine anyK_take 21 1 1 rfl (by decide) (by kernel_rfl) (fun _ _ d _ _ h => by cases d <;> exact h) ?_
       repeat (refine headC_step (fun K hK => ?_); go_simp; refine hK _ ?_; clear hK K)
       refine headC_nil ?_
       refine anyK_one 23 (by kernel_rfl) ?_
       refine stepK_run rfl ?_
       intro wf ha K2 hK2
       have hST := ha
       replace HBx := hide (Blk.ext HBx.out hST (Blk.lt HBx.out (by decide)))
       replace HSn := hide (HSn.out.of_all hST)
       replace HSg := hide (HSg.out.of_all hST)
       have BZ := HBx.out
       have v0' := (BZ 0 _ rfl).1
       have v1' := (BZ 1 _ rfl).1
       have v2' := (BZ 2 _ rfl).1
       have v3' := (BZ 3 _ rfl).1
       have v4' := (BZ 4 _ rfl).1
       have v5' := (BZ 5 _ rfl).1
       have y0' := (BZ 0 _ rfl).2
       have y1' := (BZ 1 _ rfl).2
       have y2' := (BZ 2 _ rfl).2
       have y3' := (BZ 3 _ rfl).2
       have y4' := (BZ 4 _ rfl).2
       have y5' := (BZ 5 _ rfl).2
       have hnn : 0 < (x a1).kid.toNat → nb ≠ Cb := fun h0 e => by
        have := HSn.out.cell 0 h0
        rw [e, v0'] at this
        cases this
       have hsn : 0 < l - 1 → sb ≠ Cb := fun h0 e => by
        have := HSg.out.cell 0 h0
        rw [e, v0'] at this
        cases this
       have Hnn := hide hnn
       have Hsn := hide hsn
       have HEf := hide (Hwb13.out.trans ha)
       have HCf := hide (Blk.lt BZ (by decide))
       clear hST ha BZ hnn hsn
       go_simp
       refine hK2 _ _ (show Grw (fun _ => False) w3 (putL Cb 0 [.slice na (x a1).kid.toNat nc, .int .i64 0, .int .i64 0, .int .i64 (riV (x a0).f (x a0).len), .slice none 0 0, .slice sa (l - 1) sc] wf) from Grw.of_ext (HEf.out.putL HCge.out [.slice na (x a1).kid.toNat nc, .int .i64 0, .int .i64 0, .int .i64 (riV (x a0).f (x a0).len), .slice none 0 0, .slice sa (l - 1) sc])) ?_
       clear hK2 K2 v0' y0' v1' y1' v2' y2' v3' y3' v4' y4' v5' y5'
       refine anyK_done (by kernel_rfl) ?_ 0
       intro wz hz
       replace hz : Ext (putL Cb 0 [.slice na (x a1).kid.toNat nc, .int .i64 0, .int .i64 0, .int .i64 (riV (x a0).f (x a0).len), .slice none 0 0, .slice sa (l - 1) sc] wf) wz := hz
       have HBz := hide ((HBx.out.put [.slice na (x a1).kid.toNat nc, .int .i64 0, .int .i64 0, .int .i64 (riV (x a0).f (x a0).len), .slice none 0 0, .slice sa (l - 1) sc] rfl).ext hz (by rw [size_putL]; exact HCf.out))
       have HSz : Hid (SSeg wz na nb 0 (x a1).kid.toNat (fun j => txS (x (kpl x n a1 j)))) := hide (SSeg.of_all ⟨HSn.out.at', fun j hj => (cell_putL_other Cb ⟨nb, 0 + j, none⟩ [.slice na (x a1).kid.toNat nc, .int .i64 0, .int .i64 0, .int .i64 (riV (x a0).f (x a0).len), .slice none 0 0, .slice sa (l - 1) sc] 0 wf (fun e => absurd e (Hnn.out (by omega)))).trans (HSn.out.cell j hj)⟩ hz)
       have HGz : Hid (BSeg wz sa sb 0 (l - 1) (fun i => (x i2).f (i + 1))) := hide (BSeg.of_all ⟨HSg.out.at', fun j hj => (cell_putL_other Cb ⟨sb, 0 + j, none⟩ [.slice na (x a1).kid.toNat nc, .int .i64 0, .int .i64 0, .int .i64 (riV (x a0).f (x a0).len), .slice none 0 0, .slice sa (l - 1) sc] 0 wf (fun e => absurd e (Hsn.out (by omega)))).trans (HSg.out.cell j hj)⟩ hz)
       have HEz := hide ((HEf.out.putL HCge.out [.slice na (x a1).kid.toNat nc, .int .i64 0, .int .i64 0, .int .i64 (riV (x a0).f (x a0).len), .slice none 0 0, .slice sa (l - 1) sc]).trans hz)
       clear hz
       go_wp2_with fail
       go_meet
       exact ⟨Cb, na, nb, nc, sa, sb, sc, rfl, HCge.out, HBz.out, HSz.out, HGz.out, HEz.out⟩
     case rest =>
      obtain ⟨C, na, nb, nc, sa, sb, sc, rfl, hCw, hBk, hSn, hSg, hEc⟩ := hcut
      have HBk := hide hBk
      have HSn := hide hSn
      have HSg := hide hSg
      have HEc := hide (HE3.out.trans hEc)
      have HEc3 := hide hEc
      have HCw := hide hCw
      have Hk12 := hide ((Below.cell hEc (p := ⟨g1, 2, none⟩) (World.block_lt_of_cell? _ _ K12.out)).trans K12.out)
      have Hk13 := hide ((Below.cell hEc (p := ⟨g1, 3, none⟩) (World.block_lt_of_cell? _ _ K13.out)).trans K13.out)
      clear hBk hSn hSg hEc hCw d10 d11 d01 de2 HldI HN0 HN1 HN2 K12 HS3 hl1 hlc hl0' hl0'' hc1 hc2 b0
      have k12 := Hk12.out
      have hK2 := HKs.out a2 Oa2.out
      go_wp2_with (go_at_call 13; refine (hK2 _ HEc.out).mono ?_)
      rintro e w4 ⟨ka, kc3, rfl, hk2, hE4⟩
      have hE34 := Below.size hE4
      have HE4 := hide (HEc.out.trans hE4)
      have HBk4 := hide (HBk.out.ext hE4 (Blk.lt HBk.out (by simp)))
      have HSn4 := hide (HSn.out.of_all hE4)
      have HSg4 := hide (HSg.out.of_all hE4)
      have Hk2 := hide hk2
      have HE34 := hide (HEc3.out.trans hE4)
      clear hk2 hE4 hK2 k12 HBk HSn HSg hE34
      obtain ⟨K2, hKe⟩ : ∃ K, (x a2).kid.toNat = K := ⟨_, rfl⟩
      rw [hKe] at Hk2 ⊢
      have HK2 := hide hKe
      clear hKe
      go_upto_if 81 with fail
      go_cut [] from 83 to 107 (fun wx => ∃ q1 q2 : Int, (K2 = 2 → q1 = rdV (txS (x (kpl x n a2 0))) ∧ q2 = rdV (txS (x (kpl x n a2 1)))) ∧
       Blk wx C [.slice na (x a1).kid.toNat nc, .int .i64 q1, .int .i64 q2, .int .i64 (riV (x a0).f (x a0).len), .slice none 0 0, .slice sa (l - 1) sc] ∧
       SSeg wx na nb 0 (x a1).kid.toNat (fun j => txS (x (kpl x n a1 j))) ∧ BSeg wx sa sb 0 (l - 1) (fun i => (x i2).f (i + 1)) ∧ Ext w1 wx ∧ Ext w3 wx)
      case first =>
       by_cases h2 : K2 = 2
       ·subst h2
        obtain ⟨g2, hka, hkc⟩ := row_nums Hk2.out
        have hka := hka (by omega)
        subst hka
        have k20 := hkc 0 (by omega)
        have k21 := hkc 1 (by omega)
        have ob0 : OkI x n (kpl x n a2 0) := Oa2.out.kid (by rw [HK2.out]; omega)
        have ob1 : OkI x n (kpl x n a2 1) := Oa2.out.kid (by rw [HK2.out]; omega)
        obtain ⟨b0, hb0⟩ : ∃ b, kpl x n a2 0 = b := ⟨_, rfl⟩
        obtain ⟨b1, hb1⟩ : ∃ b, kpl x n a2 1 = b := ⟨_, rfl⟩
        simp only [hb0] at k20 ob0 ⊢
        simp only [hb1] at k21 ob1 ⊢
        have lb0 := ob0.lt
        have lb1 := ob1.lt
        have i0 : (b0 : Int) < (n : Int) := by omega
        have i1 : (b1 : Int) < (n : Int) := by omega
        have HSi := hide (HI.out.of_all HE4.out)
        have c0 := HSi.out.c1 b0 lb0
        rw [Nat.zero_add] at c0
        have hcv := conv_seg (cap := (x b0).cap) (HSi.out.body b0 lb0)
        have hts : strOfNums (nums (x b0).f (x b0).len) = txS (x b0) := rfl
        rw [hts] at hcv
        have HT0 := hide (fun W => specRead_any (txS (x b0)) W)
        have HT1 := hide (fun W => specRead_any (txS (x b1)) W)
        have hnn : 0 < (x a1).kid.toNat → nb ≠ C := fun h0 e => by
         have := HSn4.out.cell 0 h0
         rw [e, (HBk4.out 0 _ rfl).1] at this
         cases this
        have hsn : 0 < l - 1 → sb ≠ C := fun h0 e => by
         have := HSg4.out.cell 0 h0
         rw [e, (HBk4.out 0 _ rfl).1] at this
         cases this
        have hgn : g2 ≠ C := fun e => by
         have := k20
         rw [e, (HBk4.out 0 _ rfl).1] at this
         cases this
        have Hnn := hide hnn
        have Hsn := hide hsn
        have Hgn := hide hgn
        have K21 := hide k21
        have Hge := hide (show w1.heap.size ≤ C from Nat.le_trans (Below.size HE3.out) HCw.out)
        obtain ⟨z1, hz1⟩ : ∃ z, rdV (txS (x b0)) = z := ⟨_, rfl⟩
        obtain ⟨z2, hz2⟩ : ∃ z, rdV (txS (x b1)) = z := ⟨_, rfl⟩
        rw [hz1] at HT0
        rw [hz2] at HT1
        have Hz := hide (And.intro (show rdV (txS (x (kpl x n a2 0))) = z1 by rw [hb0]; exact hz1) (show rdV (txS (x (kpl x n a2 1))) = z2 by rw [hb1]; exact hz2))
        clear hnn hsn hgn hkc k21 hb0 hb1 hz1 hz2 ob0 ob1 HSi
        go_wp2_with fail
        refine (HT0.out _).mono ?_
        rintro e w5 ⟨rfl, hE5⟩
        clear k20 c0 hcv hts HT0
        have B5 := HBk4.out.ext hE5 (Blk.lt HBk4.out (by simp))
        have u1 := (B5 1 _ rfl).1
        have y1 := (B5 1 _ rfl).2
        obtain ⟨V6, hV6⟩ : ∃ V, w5.setCell ⟨C, 1, none⟩ (.int .i64 z1) = V := ⟨_, rfl⟩
        have B6 := B5.set1 1 (.int .i64 z1) (by simp)
        have E6 : Ext w1 (w5.setCell ⟨C, 1, none⟩ (.int .i64 z1)) := Below.setCell (HE4.out.trans hE5) (p := ⟨C, 1, none⟩) Hge.out _
        have F6 : Ext w3 (w5.setCell ⟨C, 1, none⟩ (.int .i64 z1)) := Below.setCell (HE34.out.trans hE5) (p := ⟨C, 1, none⟩) HCw.out _
        have S6 := (HSn4.out.of_all hE5).setO (C := C) (i := 1) (v := .int .i64 z1) Hnn.out
        have G6 := (HSg4.out.of_all hE5).setO (C := C) (i := 1) (v := .int .i64 z1) Hsn.out
        have k21 : (w5.setCell ⟨C, 1, none⟩ (.int .i64 z1)).cell? ⟨g2, 1, none⟩ = _ := (set_ne Hgn.out).trans ((Below.cell hE5 (p := ⟨g2, 1, none⟩) (World.block_lt_of_cell? _ _ K21.out)).trans K21.out)
        rw [hV6] at B6 E6 F6 S6 G6 k21
        have HB6 := hide B6
        have HE6 := hide E6
        have HF6 := hide F6
        have HS6 := hide S6
        have HG6 := hide G6
        have HSi := hide (HI.out.of_all E6)
        have c1 := HSi.out.c1 b1 lb1
        rw [Nat.zero_add] at c1
        have hcv := conv_seg (cap := (x b1).cap) (HSi.out.body b1 lb1)
        have hts : strOfNums (nums (x b1).f (x b1).len) = txS (x b1) := rfl
        rw [hts] at hcv
        clear B5 B6 E6 F6 S6 G6 hE5
        go_wp2_with fail
        refine (HT1.out _).mono ?_
        rintro e w7 ⟨rfl, hE7⟩
        have B7 := HB6.out.ext hE7 (Blk.lt HB6.out (by simp))
        have u2 := (B7 2 _ rfl).1
        have y2 := (B7 2 _ rfl).2
        have B8 := hide (B7.set1 2 (.int .i64 z2) (by simp))
        have E8 := hide (show Ext w1 (w7.setCell ⟨C, 2, none⟩ (.int .i64 z2)) from Below.setCell (HE6.out.trans hE7) (p := ⟨C, 2, none⟩) Hge.out _)
        have F8 := hide (show Ext w3 (w7.setCell ⟨C, 2, none⟩ (.int .i64 z2)) from Below.setCell (HF6.out.trans hE7) (p := ⟨C, 2, none⟩) HCw.out _)
        have S8 := hide ((HS6.out.of_all hE7).setO (C := C) (i := 2) (v := .int .i64 z2) Hnn.out)
        have G8 := hide ((HG6.out.of_all hE7).setO (C := C) (i := 2) (v := .int .i64 z2) Hsn.out)
        clear B7 hE7 k21 c1 hcv hts HT1 u1 y1
        go_wp2_with fail
        go_meet
        exact ⟨z1, z2, fun _ => ⟨Hz.out.1.symm, Hz.out.2.symm⟩, B8.out, S8.out, G8.out, E8.out, F8.out⟩
       ·have h2' : ¬ ((K2 : Int) = 2) := by omega
        have h2b : ((K2 : Int) == 2) = false := by simp; omega
        go_wp2_with fail
        go_meet
        exact ⟨0, 0, fun h => absurd h h2, HBk4.out, HSn4.out, HSg4.out, HE4.out, HE34.out⟩
      case rest =>
       obtain ⟨q1, q2, hft, hBk, hSn, hSg, hE1x, hE3x⟩ := hcut
       have hBk3 := hBk
       have k13 := (Below.cell hE3x (p := ⟨g1, 3, none⟩) (World.block_lt_of_cell? _ _ K13.out)).trans K13.out
       have HB0 := hide hBk
       have HS0 := hide hSn
       have HG0 := hide hSg
       have H10 := hide hE1x
       have H30 := hide hE3x
       have Hft := hide hft
       clear hBk hSn hSg hE1x hE3x hft hBk3 HBk4 HSn4 HSg4 HE4 HE34 Hk2 Hk12 Hk13 HEc HEc3 K13
       have hK3 := HKs.out a3 Oa3.out
       go_wp2_with (go_at_call 13; refine (hK3 _ H10.out).mono ?_)
       rintro e w5 ⟨ka3, kc4, rfl, hk3, hE5⟩
       have HB5 := hide (HB0.out.ext hE5 (Blk.lt HB0.out (by simp)))
       have HS5 := hide (HS0.out.of_all hE5)
       have HG5 := hide (HG0.out.of_all hE5)
       have H15 := hide (H10.out.trans hE5)
       have H35 := hide (H30.out.trans hE5)
       have Hk3 := hide hk3
       have HC5 := hide (Blk.lt HB5.out (by simp))
       have Hge := hide (show w1.heap.size ≤ C from Nat.le_trans (Below.size HE3.out) HCw.out)
       clear hk3 hE5 hK3 k13 HB0 HS0 HG0 H10 H30
       have hK300 : (x a3).kid.toNat ≤ 300 := by have := (Hkd.out a3 Oa3.out.lt).2; omega
       have HF : Hid (∀ j, j < (x a3).kid.toNat → kpl x n a3 j < n ∧ ∀ W, Ext w1 W → Calls Tryz.prog 14 #[.agg #[.int .i64 (x (kpl x n a3 j)).tag, .slice (x (kpl x n a3 j)).ad (x (kpl x n a3 j)).len (x (kpl x n a3 j)).cap, .int .i64 (x (kpl x n a3 j)).kid]] W fun e w' => e = .returned (.int .i64 ((mdC x n a0 a1 a3 i2 q1 q2).fv j)) ∧ Ext W w') := hide (fun j hj => ⟨(Oa3.out.kid hj).lt, fun W h => l10NumZ_any _ W ((HX.out.body _ (Oa3.out.kid hj).lt).toBSeg.of_all h) (HX.out.rng _ (Oa3.out.kid hj).lt) (HX.out.cap _ (Oa3.out.kid hj).lt)⟩)
       obtain ⟨K3, hKe⟩ : ∃ K, (x a3).kid.toNat = K := ⟨_, rfl⟩
       rw [hKe] at Hk3 hK300 HF ⊢
       have HK3 := hide hKe
       obtain ⟨F, hF⟩ : ∃ F, (mdC x n a0 a1 a3 i2 q1 q2).fv = F := ⟨_, rfl⟩
       rw [hF] at HF
       have HFe := hide hF
       clear hKe hF
       go_wp2_with fail
       go_loopw [13] (fun k wr => ∃ (j : Nat) (v : Value), j ≤ K3 ∧ k = .int .i64 (j : Int) ∧ w5.grownBy wr (some C) ∧ Blk wr C [.slice na (x a1).kid.toNat nc, .int .i64 q1, .int .i64 q2, .int .i64 (riV (x a0).f (x a0).len), v, .slice sa (l - 1) sc] ∧ wr.ownsRow w5.heap.size 3 1 v j (ints F j)) (fun k _ => K3 - (intOf k).toNat)
       case atStart => exact ⟨0, .slice none 0 0, Nat.zero_le _, rfl, grb_refl _ _, HB5.out, ⟨rfl, .inl ⟨rfl, rfl⟩⟩⟩
       case round =>
        obtain ⟨j, v, hj, rfl, hG, hB, hO⟩ := hrel
        have HGr := hide hG
        have HBr := hide hB
        have HO := hide hO
        clear hG hB hO
        by_cases hlt : j < K3
        ·have hjk : (j : Int) < (K3 : Int) := by omega
         obtain ⟨g3, hka, hkc⟩ := row_nums Hk3.out
         have hka := hka (by omega)
         subst hka
         have c3 := hkc j hlt
         have hg3 := World.block_lt_of_cell? _ _ c3
         have hg3C : g3 ≠ C := fun e => by
          have := hkc 0 (by omega)
          rw [e, (HB5.out 0 _ rfl).1] at this
          cases this
         replace c3 := grb_cell HGr.out hg3C c3
         obtain ⟨hpn, hN⟩ := HF.out j hlt
         have HN := hide hN
         obtain ⟨p, hp⟩ : ∃ p, kpl x n a3 j = p := ⟨_, rfl⟩
         rw [hp] at hpn HN
         simp only [hp] at c3
         have hpi : (p : Int) < (n : Int) := by omega
         have HE1r := hide (grb_below HGr.out H15.out Hge.out)
         have HSi := hide (HI.out.of_all HE1r.out)
         have HS1 : Hid (S < w1.heap.size) := hide (World.block_lt_of_cell? _ _ (HI.out.c0 p hpn))
         have d3 := fun q : ReC (fun q => q = C ∨ w5.heap.size ≤ q) wr => cell_reC c3 (fun h => by rcases h with h | h; exact hg3C h; exact absurd hg3 (Nat.not_lt.2 h)) q
         have hS0 : ¬ (S = C ∨ w5.heap.size ≤ S) := by have := HS1.out; have := Hge.out; have := Below.size H15.out; omega
         have HldI : ∀ q : ReC (fun q => q = C ∨ w5.heap.size ≤ q) wr, (loadVar 40 ⟨S, p * 3, none⟩).run Tryz.prog q.val = .ok (.agg #[.int .i64 (x p).tag, .slice (x p).ad (x p).len (x p).cap, .int .i64 (x p).kid]) q.val := fun q => by
          have q0 := cell_reC (HSi.out.c0 p hpn) hS0 q
          have q1 := cell_reC (HSi.out.c1 p hpn) hS0 q
          have q2 := cell_reC (HSi.out.c2 p hpn) hS0 q
          rw [Nat.zero_add] at q0 q1 q2
          exact run_ld (P := Tryz.prog) 40 [.int .i64 (x p).tag, .slice (x p).ad (x p).len (x p).cap, .int .i64 (x p).kid] q.val (by kernel_rfl) (by kernel_rfl) S (p * 3) (fun j v hj => by
           match j, hj with
           | 0, h => cases h; exact q0
           | 1, h => cases h; exact q1
           | 2, h => cases h; exact q2)
         replace HldI := hide HldI
         have HC5r := hide (Nat.lt_of_lt_of_le HC5.out HGr.out.size)
         clear hkc hN hp hS0
         go_wp2_with fail
         refine anyK_begin (fun q => q = C ∨ w5.heap.size ≤ q) 14 rfl (by kernel_rfl) ?_
         refine anyK_take 0 1 13 rfl (by decide) (by kernel_rfl) (fun _ _ d _ _ h => by cases d <;> exact h) ?_
         repeat (refine headC_step (fun K hK => ?_); go_simp; refine hK _ ?_; clear hK K)
         refine headC_nil ?_
         refine anyK_take 2 6 7 rfl (by decide) (by kernel_rfl) (fun _ _ d _ _ h => by cases d <;> exact h) ?_
         repeat (refine headC_step (fun K hK => ?_); go_simp; refine hK _ ?_; clear hK K)
         refine headC_nil ?_
         refine anyK_take 8 1 6 rfl (by decide) (by kernel_rfl) (fun _ _ d _ _ h => by cases d <;> exact h) ?_
         refine head_ld (by first | rfl | simp [Region.wanted, yielded]) rfl rfl (fun q => HldI.out q) ?_
         refine headC_nil ?_
         clear d3 c3 HldI
         have E0 := hide (Ext.refl wr)
         have B0 := HBr
         refine anyK_two 1 9 (by kernel_rfl) ?_ ?_
         ·refine stepK_run rfl ?_
          intro wa1 ha K2 hK2
          have E1 := hide (E0.out.trans ha)
          have B1 := hide (B0.out.ext ha HC5r.out)
          have u := (B1.out 4 _ rfl).1
          clear ha
          go_simp
          refine hK2 _ _ (Grw.of_ext E1.out) ?_
          clear hK2 K2 u
          refine anyK_one 9 (by kernel_rfl) ?_
          refine stepK_run rfl ?_
          intro wa2 ha K2 hK2
          have E2 := hide (E1.out.trans ha)
          have B2 := hide (B1.out.ext ha (Nat.lt_of_lt_of_le HC5r.out (Below.size E1.out)))
          go_simp
          refine (HN.out wa2 (HE1r.out.trans E2.out)).mono ?_
          rintro e wb2 ⟨rfl, hb⟩
          replace E2 := hide (E2.out.trans hb)
          replace B2 := hide (B2.out.ext hb (Nat.lt_of_lt_of_le HC5r.out (Below.size (E1.out.trans ha))))
          clear ha hb
          try go_simp
          refine hK2 _ _ (Grw.of_ext E2.out) ?_
          clear hK2 K2
          refine anyK_one 10 (by kernel_rfl) ?_
          refine stepK_run rfl ?_
          intro wa3 ha K2 hK2
          have E3 := hide (E2.out.trans ha)
          have B3 := hide (B2.out.ext ha (Nat.lt_of_lt_of_le HC5r.out (Below.size E2.out)))
          go_simp
          have HM3 : Ext wa3 (wa3.alloc (.cells #[.int .i64 (F j)] 3)) := Ext.alloc _ _
          have Hbx : Hid ((wa3.alloc (.cells #[.int .i64 (F j)] 3)).cell? ⟨wa3.heap.size, 0, none⟩ = some (.int .i64 (F j))) := hide ((World.cell?_alloc_at _ _ _ _ rfl).trans rfl)
          replace B3 := hide (B3.out.ext HM3 (Nat.lt_of_lt_of_le HC5r.out (Below.size E3.out)))
          replace E3 := hide (E3.out.trans HM3)
          have Hbl : Hid (wr.heap.size ≤ wa3.heap.size) := hide (Below.size (E2.out.trans ha))
          obtain ⟨bb2, hbb⟩ : ∃ b, wa3.heap.size = b := ⟨_, rfl⟩
          obtain ⟨wb3, hwb⟩ : ∃ W, wa3.alloc (.cells #[.int .i64 (F j)] 3) = W := ⟨_, rfl⟩
          rw [hwb, hbb] at Hbx
          rw [hwb] at B3 E3
          rw [hbb] at Hbl
          simp only [hwb, hbb]
          clear ha HM3 hwb hbb
          refine hK2 _ _ (Grw.of_ext E3.out) ?_
          clear hK2 K2
          refine anyK_one 11 (by kernel_rfl) ?_
          refine stepK_run rfl ?_
          intro wa4 ha K2 hK2
          replace Hbx := hide ((Below.cell ha (World.block_lt_of_cell? _ _ Hbx.out)).trans Hbx.out)
          have Ea := hide (E3.out.trans ha)
          have Ba := hide (B3.out.ext ha (Nat.lt_of_lt_of_le HC5r.out (Below.size E3.out)))
          have Oa := hide (ownsRow_ext HO.out Ea.out)
          clear ha
          rw [if_pos (by first | rfl | simp [Region.wanted, yielded])]
          refine wp_appN _ _ rfl w5.heap.size v j F rfl Oa.out bb2 rfl Hbx.out (by omega) (Nat.le_trans HGr.out.size (Below.size Ea.out)) ?_
          intro v' w8 hO8 hg8 hv8
          obtain ⟨a8, b8, c8, hv', -⟩ := iowns_seg hO8
          subst hv'
          have hv0 : ∀ g, v.ownBlock = some g → w5.heap.size ≤ g := fun g hg => by
           rcases Oa.out.2 with ⟨h0, -⟩ | ⟨g', _, _, h0, hb', -⟩
           ·rw [h0] at hg; simp [Value.ownBlock] at hg
           ·rw [h0] at hg; simp only [Value.ownBlock, Option.some.injEq] at hg; omega
          have HG8 := hide (grb_grown (grb_ext HGr.out Ea.out) hg8 hv0)
          have hgC : w8.heap[C]? = wa4.heap[C]? := hg8.block C (Nat.lt_of_lt_of_le HC5r.out (Below.size Ea.out)) (fun e => by have := hv0 C e.symm; have := HC5.out; omega)
          have B8 : Hid (Blk w8 C [.slice na (x a1).kid.toNat nc, .int .i64 q1, .int .i64 q2, .int .i64 (riV (x a0).f (x a0).len), v, .slice sa (l - 1) sc]) := hide (fun i u hi => ⟨(World.cell?_of_block (a := ⟨C, i, none⟩) hgC).trans (Ba.out i u hi).1, (World.frozen?_of_block (a := ⟨C, i, none⟩) hgC).trans (Ba.out i u hi).2⟩)
          have HO8 := hide hO8
          have HW8 : Hid (Grw (fun q => q = C ∨ w5.heap.size ≤ q) wr w8) := hide (Grw.trans (Grw.of_ext Ea.out) ⟨hg8.os, hg8.tape, hg8.output, hg8.size, fun k hk hn => hg8.block k hk (fun e => hn (.inr (hv0 k e.symm)))⟩)
          have HC8 := hide (Nat.lt_of_lt_of_le HC5r.out HW8.out.size)
          refine hK2 _ _ HW8.out ?_
          clear hK2 K2 hO8 hg8 hv8 hv0 hgC
          refine anyK_take 12 1 1 rfl (by decide) (by kernel_rfl) (fun _ _ d _ _ h => by cases d <;> exact h) ?_
          repeat (refine headC_step (fun K hK => ?_); go_simp; refine hK _ ?_; clear hK K)
          refine headC_nil ?_
          refine anyK_one 13 (by kernel_rfl) ?_
          refine stepK_run rfl ?_
          intro w9 h9 K2 hK2
          have B9 := B8.out.ext h9 HC8.out
          have u := (B9 4 _ rfl).1
          have y := (B9 4 _ rfl).2
          have HBs := hide (B9.set1 4 (.slice a8 (j + 1) c8) (by simp))
          have HGs := hide (grb_set (grb_ext HG8.out h9) 4 (.slice a8 (j + 1) c8))
          have HOs : Hid ((w9.setCell ⟨C, 4, none⟩ (.slice a8 (j + 1) c8)).ownsRow w5.heap.size 3 1 (.slice a8 (j + 1) c8) (j + 1) (ints F (j + 1))) := hide (ownsRow_of_blk (ownsRow_ext HO8.out h9) (fun g hg => Below.heap_setCell _ _ _ _ (fun e => by
           rcases HO8.out.2 with ⟨h0, -⟩ | ⟨g', _, _, h0, hb', -⟩
           ·rw [h0] at hg; simp [Value.ownBlock] at hg
           ·rw [h0] at hg; simp only [Value.ownBlock, Option.some.injEq] at hg; have := HC5.out; have e' : g = C := e; omega)))
          have HWs : Hid (Grw (fun q => q = C ∨ w5.heap.size ≤ q) wr (w9.setCell ⟨C, 4, none⟩ (.slice a8 (j + 1) c8))) := hide ((HW8.out.trans (Grw.of_ext h9)).trans (Grw.of_touch ((Touch.refl C w9).set 4 (.slice a8 (j + 1) c8)) (.inl rfl)))
          clear B9 h9
          go_simp
          obtain ⟨wz, hwz⟩ : ∃ W, w9.setCell ⟨C, 4, none⟩ (.slice a8 (j + 1) c8) = W := ⟨_, rfl⟩
          rw [hwz] at HBs HGs HOs HWs
          simp only [hwz]
          refine hK2 _ _ HWs.out ?_
          clear hK2 K2 u y hwz
          refine anyK_done (by kernel_rfl) ?_ 0
          intro wq hq
          have HBq := hide (HBs.out.ext hq (Blk.lt HBs.out (by simp)))
          have HGq := hide (grb_ext HGs.out hq)
          have HOq := hide (ownsRow_ext HOs.out hq)
          clear hq
          go_wp2_with fail
          go_roundw
          case rel => exact ⟨j + 1, _, by omega, by go_num, HGq.out, HBq.out, HOq.out⟩
          case measure => simp [intOf]; omega
         ·refine stepK_run rfl ?_
          intro wa5 ha K2 hK2
          have E5 := hide (E0.out.trans ha)
          have B5 := hide (B0.out.ext ha HC5r.out)
          go_simp
          refine (HN.out wa5 (HE1r.out.trans E5.out)).mono ?_
          rintro e wb5 ⟨rfl, hb⟩
          replace E5 := hide (E5.out.trans hb)
          replace B5 := hide (B5.out.ext hb (Nat.lt_of_lt_of_le HC5r.out (Below.size (E0.out.trans ha))))
          clear ha hb
          try go_simp
          refine hK2 _ _ (Grw.of_ext E5.out) ?_
          clear hK2 K2
          refine anyK_two 1 10 (by kernel_rfl) ?_ ?_
          ·refine stepK_run rfl ?_
           intro wa6 ha K2 hK2
           have E6 := hide (E5.out.trans ha)
           have B6 := hide (B5.out.ext ha (Nat.lt_of_lt_of_le HC5r.out (Below.size E5.out)))
           have u := (B6.out 4 _ rfl).1
           clear ha
           go_simp
           refine hK2 _ _ (Grw.of_ext E6.out) ?_
           clear hK2 K2 u
           refine anyK_one 10 (by kernel_rfl) ?_
           refine stepK_run rfl ?_
           intro wa7 ha K2 hK2
           have E7 := hide (E6.out.trans ha)
           have B7 := hide (B6.out.ext ha (Nat.lt_of_lt_of_le HC5r.out (Below.size E6.out)))
           go_simp
           have HM7 : Ext wa7 (wa7.alloc (.cells #[.int .i64 (F j)] 3)) := Ext.alloc _ _
           have Hbx : Hid ((wa7.alloc (.cells #[.int .i64 (F j)] 3)).cell? ⟨wa7.heap.size, 0, none⟩ = some (.int .i64 (F j))) := hide ((World.cell?_alloc_at _ _ _ _ rfl).trans rfl)
           replace B7 := hide (B7.out.ext HM7 (Nat.lt_of_lt_of_le HC5r.out (Below.size E7.out)))
           replace E7 := hide (E7.out.trans HM7)
           have Hbl : Hid (wr.heap.size ≤ wa7.heap.size) := hide (Below.size (E6.out.trans ha))
           obtain ⟨bb2, hbb⟩ : ∃ b, wa7.heap.size = b := ⟨_, rfl⟩
           obtain ⟨wb7, hwb⟩ : ∃ W, wa7.alloc (.cells #[.int .i64 (F j)] 3) = W := ⟨_, rfl⟩
           rw [hwb, hbb] at Hbx
           rw [hwb] at B7 E7
           rw [hbb] at Hbl
           simp only [hwb, hbb]
           clear ha HM7 hwb hbb
           refine hK2 _ _ (Grw.of_ext E7.out) ?_
           clear hK2 K2
           refine anyK_one 11 (by kernel_rfl) ?_
           refine stepK_run rfl ?_
           intro wa8 ha K2 hK2
           replace Hbx := hide ((Below.cell ha (World.block_lt_of_cell? _ _ Hbx.out)).trans Hbx.out)
           have Ea := hide (E7.out.trans ha)
           have Ba := hide (B7.out.ext ha (Nat.lt_of_lt_of_le HC5r.out (Below.size E7.out)))
           have Oa := hide (ownsRow_ext HO.out Ea.out)
           clear ha
           rw [if_pos (by first | rfl | simp [Region.wanted, yielded])]
           refine wp_appN _ _ rfl w5.heap.size v j F rfl Oa.out bb2 rfl Hbx.out (by omega) (Nat.le_trans HGr.out.size (Below.size Ea.out)) ?_
           intro v' w8 hO8 hg8 hv8
           obtain ⟨a8, b8, c8, hv', -⟩ := iowns_seg hO8
           subst hv'
           have hv0 : ∀ g, v.ownBlock = some g → w5.heap.size ≤ g := fun g hg => by
            rcases Oa.out.2 with ⟨h0, -⟩ | ⟨g', _, _, h0, hb', -⟩
            ·rw [h0] at hg; simp [Value.ownBlock] at hg
            ·rw [h0] at hg; simp only [Value.ownBlock, Option.some.injEq] at hg; omega
           have HG8 := hide (grb_grown (grb_ext HGr.out Ea.out) hg8 hv0)
           have hgC : w8.heap[C]? = wa8.heap[C]? := hg8.block C (Nat.lt_of_lt_of_le HC5r.out (Below.size Ea.out)) (fun e => by have := hv0 C e.symm; have := HC5.out; omega)
           have B8 : Hid (Blk w8 C [.slice na (x a1).kid.toNat nc, .int .i64 q1, .int .i64 q2, .int .i64 (riV (x a0).f (x a0).len), v, .slice sa (l - 1) sc]) := hide (fun i u hi => ⟨(World.cell?_of_block (a := ⟨C, i, none⟩) hgC).trans (Ba.out i u hi).1, (World.frozen?_of_block (a := ⟨C, i, none⟩) hgC).trans (Ba.out i u hi).2⟩)
           have HO8 := hide hO8
           have HW8 : Hid (Grw (fun q => q = C ∨ w5.heap.size ≤ q) wr w8) := hide (Grw.trans (Grw.of_ext Ea.out) ⟨hg8.os, hg8.tape, hg8.output, hg8.size, fun k hk hn => hg8.block k hk (fun e => hn (.inr (hv0 k e.symm)))⟩)
           have HC8 := hide (Nat.lt_of_lt_of_le HC5r.out HW8.out.size)
           refine hK2 _ _ HW8.out ?_
           clear hK2 K2 hO8 hg8 hv8 hv0 hgC
           refine anyK_take 12 1 1 rfl (by decide) (by kernel_rfl) (fun _ _ d _ _ h => by cases d <;> exact h) ?_
           repeat (refine headC_step (fun K hK => ?_); go_simp; refine hK _ ?_; clear hK K)
           refine headC_nil ?_
           refine anyK_one 13 (by kernel_rfl) ?_
           refine stepK_run rfl ?_
           intro w9 h9 K2 hK2
           have B9 := B8.out.ext h9 HC8.out
           have u := (B9 4 _ rfl).1
           have y := (B9 4 _ rfl).2
           have HBs := hide (B9.set1 4 (.slice a8 (j + 1) c8) (by simp))
           have HGs := hide (grb_set (grb_ext HG8.out h9) 4 (.slice a8 (j + 1) c8))
           have HOs : Hid ((w9.setCell ⟨C, 4, none⟩ (.slice a8 (j + 1) c8)).ownsRow w5.heap.size 3 1 (.slice a8 (j + 1) c8) (j + 1) (ints F (j + 1))) := hide (ownsRow_of_blk (ownsRow_ext HO8.out h9) (fun g hg => Below.heap_setCell _ _ _ _ (fun e => by
            rcases HO8.out.2 with ⟨h0, -⟩ | ⟨g', _, _, h0, hb', -⟩
            ·rw [h0] at hg; simp [Value.ownBlock] at hg
            ·rw [h0] at hg; simp only [Value.ownBlock, Option.some.injEq] at hg; have := HC5.out; have e' : g = C := e; omega)))
           have HWs : Hid (Grw (fun q => q = C ∨ w5.heap.size ≤ q) wr (w9.setCell ⟨C, 4, none⟩ (.slice a8 (j + 1) c8))) := hide ((HW8.out.trans (Grw.of_ext h9)).trans (Grw.of_touch ((Touch.refl C w9).set 4 (.slice a8 (j + 1) c8)) (.inl rfl)))
           clear B9 h9
           go_simp
           obtain ⟨wz, hwz⟩ : ∃ W, w9.setCell ⟨C, 4, none⟩ (.slice a8 (j + 1) c8) = W := ⟨_, rfl⟩
           rw [hwz] at HBs HGs HOs HWs
           simp only [hwz]
           refine hK2 _ _ HWs.out ?_
           clear hK2 K2 u y hwz
           refine anyK_done (by kernel_rfl) ?_ 0
           intro wq hq
           have HBq := hide (HBs.out.ext hq (Blk.lt HBs.out (by simp)))
           have HGq := hide (grb_ext HGs.out hq)
           have HOq := hide (ownsRow_ext HOs.out hq)
           clear hq
           go_wp2_with fail
           go_roundw
           case rel => exact ⟨j + 1, _, by omega, by go_num, HGq.out, HBq.out, HOq.out⟩
           case measure => simp [intOf]; omega
          ·refine stepK_run rfl ?_
           intro wa9 ha K2 hK2
           have E9 := hide (E5.out.trans ha)
           have B9 := hide (B5.out.ext ha (Nat.lt_of_lt_of_le HC5r.out (Below.size E5.out)))
           go_simp
           have HM9 : Ext wa9 (wa9.alloc (.cells #[.int .i64 (F j)] 3)) := Ext.alloc _ _
           have Hbx : Hid ((wa9.alloc (.cells #[.int .i64 (F j)] 3)).cell? ⟨wa9.heap.size, 0, none⟩ = some (.int .i64 (F j))) := hide ((World.cell?_alloc_at _ _ _ _ rfl).trans rfl)
           replace B9 := hide (B9.out.ext HM9 (Nat.lt_of_lt_of_le HC5r.out (Below.size E9.out)))
           replace E9 := hide (E9.out.trans HM9)
           have Hbl : Hid (wr.heap.size ≤ wa9.heap.size) := hide (Below.size (E5.out.trans ha))
           obtain ⟨bb2, hbb⟩ : ∃ b, wa9.heap.size = b := ⟨_, rfl⟩
           obtain ⟨wb9, hwb⟩ : ∃ W, wa9.alloc (.cells #[.int .i64 (F j)] 3) = W := ⟨_, rfl⟩
           rw [hwb, hbb] at Hbx
           rw [hwb] at B9 E9
           rw [hbb] at Hbl
           simp only [hwb, hbb]
           clear ha HM9 hwb hbb
           refine hK2 _ _ (Grw.of_ext E9.out) ?_
           clear hK2 K2
           refine anyK_one 1 (by kernel_rfl) ?_
           refine stepK_run rfl ?_
           intro wa10 ha K2 hK2
           have E10 := hide (E9.out.trans ha)
           have B10 := hide (B9.out.ext ha (Nat.lt_of_lt_of_le HC5r.out (Below.size E9.out)))
           replace Hbx := hide ((Below.cell ha (World.block_lt_of_cell? _ _ Hbx.out)).trans Hbx.out)
           have u := (B10.out 4 _ rfl).1
           clear ha
           go_simp
           refine hK2 _ _ (Grw.of_ext E10.out) ?_
           clear hK2 K2 u
           refine anyK_one 11 (by kernel_rfl) ?_
           refine stepK_run rfl ?_
           intro wa11 ha K2 hK2
           replace Hbx := hide ((Below.cell ha (World.block_lt_of_cell? _ _ Hbx.out)).trans Hbx.out)
           have Ea := hide (E10.out.trans ha)
           have Ba := hide (B10.out.ext ha (Nat.lt_of_lt_of_le HC5r.out (Below.size E10.out)))
           have Oa := hide (ownsRow_ext HO.out Ea.out)
           clear ha
           rw [if_pos (by first | rfl | simp [Region.wanted, yielded])]
           refine wp_appN _ _ rfl w5.heap.size v j F rfl Oa.out bb2 rfl Hbx.out (by omega) (Nat.le_trans HGr.out.size (Below.size Ea.out)) ?_
           intro v' w8 hO8 hg8 hv8
           obtain ⟨a8, b8, c8, hv', -⟩ := iowns_seg hO8
           subst hv'
           have hv0 : ∀ g, v.ownBlock = some g → w5.heap.size ≤ g := fun g hg => by
            rcases Oa.out.2 with ⟨h0, -⟩ | ⟨g', _, _, h0, hb', -⟩
            ·rw [h0] at hg; simp [Value.ownBlock] at hg
            ·rw [h0] at hg; simp only [Value.ownBlock, Option.some.injEq] at hg; omega
           have HG8 := hide (grb_grown (grb_ext HGr.out Ea.out) hg8 hv0)
           have hgC : w8.heap[C]? = wa11.heap[C]? := hg8.block C (Nat.lt_of_lt_of_le HC5r.out (Below.size Ea.out)) (fun e => by have := hv0 C e.symm; have := HC5.out; omega)
           have B8 : Hid (Blk w8 C [.slice na (x a1).kid.toNat nc, .int .i64 q1, .int .i64 q2, .int .i64 (riV (x a0).f (x a0).len), v, .slice sa (l - 1) sc]) := hide (fun i u hi => ⟨(World.cell?_of_block (a := ⟨C, i, none⟩) hgC).trans (Ba.out i u hi).1, (World.frozen?_of_block (a := ⟨C, i, none⟩) hgC).trans (Ba.out i u hi).2⟩)
           have HO8 := hide hO8
           have HW8 : Hid (Grw (fun q => q = C ∨ w5.heap.size ≤ q) wr w8) := hide (Grw.trans (Grw.of_ext Ea.out) ⟨hg8.os, hg8.tape, hg8.output, hg8.size, fun k hk hn => hg8.block k hk (fun e => hn (.inr (hv0 k e.symm)))⟩)
           have HC8 := hide (Nat.lt_of_lt_of_le HC5r.out HW8.out.size)
           refine hK2 _ _ HW8.out ?_
           clear hK2 K2 hO8 hg8 hv8 hv0 hgC
           refine anyK_take 12 1 1 rfl (by decide) (by kernel_rfl) (fun _ _ d _ _ h => by cases d <;> exact h) ?_
           repeat (refine headC_step (fun K hK => ?_); go_simp; refine hK _ ?_; clear hK K)
           refine headC_nil ?_
           refine anyK_one 13 (by kernel_rfl) ?_
           refine stepK_run rfl ?_
           intro w9 h9 K2 hK2
           have B9 := B8.out.ext h9 HC8.out
           have u := (B9 4 _ rfl).1
           have y := (B9 4 _ rfl).2
           have HBs := hide (B9.set1 4 (.slice a8 (j + 1) c8) (by simp))
           have HGs := hide (grb_set (grb_ext HG8.out h9) 4 (.slice a8 (j + 1) c8))
           have HOs : Hid ((w9.setCell ⟨C, 4, none⟩ (.slice a8 (j + 1) c8)).ownsRow w5.heap.size 3 1 (.slice a8 (j + 1) c8) (j + 1) (ints F (j + 1))) := hide (ownsRow_of_blk (ownsRow_ext HO8.out h9) (fun g hg => Below.heap_setCell _ _ _ _ (fun e => by
            rcases HO8.out.2 with ⟨h0, -⟩ | ⟨g', _, _, h0, hb', -⟩
            ·rw [h0] at hg; simp [Value.ownBlock] at hg
            ·rw [h0] at hg; simp only [Value.ownBlock, Option.some.injEq] at hg; have := HC5.out; have e' : g = C := e; omega)))
           have HWs : Hid (Grw (fun q => q = C ∨ w5.heap.size ≤ q) wr (w9.setCell ⟨C, 4, none⟩ (.slice a8 (j + 1) c8))) := hide ((HW8.out.trans (Grw.of_ext h9)).trans (Grw.of_touch ((Touch.refl C w9).set 4 (.slice a8 (j + 1) c8)) (.inl rfl)))
           clear B9 h9
           go_simp
           obtain ⟨wz, hwz⟩ : ∃ W, w9.setCell ⟨C, 4, none⟩ (.slice a8 (j + 1) c8) = W := ⟨_, rfl⟩
           rw [hwz] at HBs HGs HOs HWs
           simp only [hwz]
           refine hK2 _ _ HWs.out ?_
           clear hK2 K2 u y hwz
           refine anyK_done (by kernel_rfl) ?_ 0
           intro wq hq
           have HBq := hide (HBs.out.ext hq (Blk.lt HBs.out (by simp)))
           have HGq := hide (grb_ext HGs.out hq)
           have HOq := hide (ownsRow_ext HOs.out hq)
           clear hq
           go_wp2_with fail
           go_roundw
           case rel => exact ⟨j + 1, _, by omega, by go_num, HGq.out, HBq.out, HOq.out⟩
           case measure => simp [intOf]; omega
        ·have hje : j = K3 := by omega
         have HOe := HO.out
         rw [hje] at HOe
         obtain ⟨va, vb, vc2, hv, -, -, -, hW⟩ := iowns_seg HOe
         subst hv
         have hjk : ¬ (j : Int) < (K3 : Int) := by omega
         have HE1r := hide (grb_below HGr.out H15.out Hge.out)
         have HVr := hide (HE1.out.trans HE1r.out)
         have hnn : 0 < (x a1).kid.toNat → nb ≠ C := fun h0 e => by
          have := HS5.out.cell 0 h0
          rw [e, (HB5.out 0 _ rfl).1] at this
          cases this
         have hsn : 0 < l - 1 → sb ≠ C := fun h0 e => by
          have := HG5.out.cell 0 h0
          rw [e, (HB5.out 0 _ rfl).1] at this
          cases this
         have sI := HS5.out.grb HGr.out hnn
         have sG := HG5.out.grb HGr.out hsn
         have bz : Blk wr w.heap.size zL := by rw [HLz.out]; exact HC0.out.ext HVr.out (by have := HV.out; omega)
         obtain ⟨c, hc⟩ : ∃ c, mdC x n a0 a1 a3 i2 q1 q2 = c := ⟨_, rfl⟩
         obtain ⟨m, hm⟩ : ∃ m : ClPl, (⟨⟨na, nb, 0, nc⟩, ⟨va, vb, 0, vc2⟩, ⟨sa, sb, 0, sc⟩⟩ : ClPl) = m := ⟨_, rfl⟩
         have HIn : Hid (ClIn wr c m) := hide (by
          rw [← hc, ← hm]
          refine ⟨sI, ?_, ?_⟩
          ·show Seg wr va vb 0 (x a3).kid.toNat (mdC x n a0 a1 a3 i2 q1 q2).fv
           rw [HK3.out, HFe.out]
           exact hW.toSeg
          ·show BSeg wr sa sb 0 ((x i2).len - 1) (fun i => (x i2).f (i + 1))
           rw [Hl.out]
           exact sG)
         have HBl : Hid (Blk wr C (clL c m)) := hide (by
          rw [← hc, ← hm]
          show Blk wr C [.slice na (x a1).kid.toNat nc, .int .i64 q1, .int .i64 q2, .int .i64 (riV (x a0).f (x a0).len), .slice va (x a3).kid.toNat vc2, .slice sa ((x i2).len - 1) sc]
          rw [HK3.out, Hl.out]
          exact HBr.out)
         have Hne : Hid ((0 < c.ni → m.i.b ≠ w.heap.size) ∧ (0 < c.nv → m.v.b ≠ w.heap.size) ∧ (0 < c.ng → m.g.b ≠ w.heap.size)) := hide (by
          have hi := HIn.out
          rw [← hc, ← hm] at hi ⊢
          refine ⟨fun h0 e => ?_, fun h0 e => ?_, fun h0 e => ?_⟩
          ·have := hi.i.cell 0 h0
           rw [e] at this
           rw [(bz 0 _ rfl).1] at this
           cases this
          ·have := hi.v.cell 0 h0
           rw [e] at this
           rw [(bz 0 _ rfl).1] at this
           cases this
          ·have := hi.g.cell 0 h0
           rw [e] at this
           rw [(bz 0 _ rfl).1] at this
           cases this)
         have HSm : Hid (ClSm c 4000) := hide (by rw [← hc]; exact mdC_sm Hlx.out (by have := (Hkd.out a1 Oa1.out.lt).2; omega) (by rw [HK3.out]; exact hK300))
         have HQ : Hid ((∃ d, CrlRd g f bn d) → CrlRd g f bn c) := hide (fun ⟨d, hd⟩ => by
          have hs : SameL c d := by
           have := mdC_same (q1 := q1) (q2 := q2) HX.out (by rw [Ha.out.1]; exact Oa0.out) (by rw [Ha.out.2.2.2]; exact Oa3.out) (by rw [Ha.out.2.2.1, HK2.out]; exact Hft.out) (HLy.out d hd) (ClOk.of hd.1)
           rw [Ha.out.1, Ha.out.2.1, Ha.out.2.2.2, Hi2.out, hc] at this
           exact this
          have e := hs.eqs g
          unfold CrlRd
          rw [e.1, e.2]
          exact hd)
         have hrg : ∀ i, i < c.ng → 0 ≤ c.fg i ∧ c.fg i < 256 := by
          rw [← hc]
          exact fun i hi => HX.out.rng i2 l2 (i + 1) (by have : i < (x i2).len - 1 := hi; omega)
         have Hrs := hide (seC_rng (g := g) hrg)
         have HIff := hide (same_iff (g := g) (f := f) (bn := bn) (c := c))
         have Hansr := hide (fun i => ansL_rng (ok := clB c) Hrs.out i)
         have HWr := hide (specWriteCrl_at g hg c m wr HIn.out ⟨by have := HSm.out.i; omega, fun j hj => by have := HSm.out.is j hj; omega, by have := HSm.out.v; omega, by have := HSm.out.g; omega⟩)
         have hlC : (clL c m).length = 6 := rfl
         have hone : ∀ v ∈ clL c m, v.oneCell' = true := by simp [clL, Value.oneCell']
         obtain ⟨LC, hLC⟩ : ∃ a, clL c m = a := ⟨_, rfl⟩
         obtain ⟨aL, haL⟩ : ∃ a, ansL (clB c) (seC (clC g c) c.ng c.fg) = a := ⟨_, rfl⟩
         obtain ⟨ok, hok⟩ : ∃ a, ansB (clB c) (seC (clC g c) c.ng c.fg) = a := ⟨_, rfl⟩
         unfold GivesAn at HWr
         rw [hLC, haL, hok] at HWr
         rw [hLC] at HBl hlC hone
         rw [haL] at Hansr
         rw [haL, hok] at HIff
         have HLC := hide hLC
         have Hl6 := hide hlC
         have Hone := hide hone
         have Hld : Hid (∀ (b : Nat) (W : World), Blk W b LC → (loadVar 26 ⟨b, 0, none⟩).run Tryz.prog W = .ok (.agg LC.toArray) W) := hide (fun b W hB => run_ld (P := Tryz.prog) 26 LC W (by rw [Hl6.out]; kernel_rfl) (by kernel_rfl) b 0 (Blk.ld hB 0 _ (fun j v h => by rw [Nat.zero_add]; exact h)))
         have hl1 := Hld.out C wr HBl.out
         have Hbz := hide bz
         have HlC := hide (Blk.lt HBl.out (by rw [Hl6.out]; decide))
         clear hLC haL hok hlC hone hc hm hW hnn hsn sI sG bz hrg Hrs HS5 HG5 HB5 HK3 HFe HF Hft hK300 HGr HBr HO HOe Hk3 H35 hje
         go_wp2_with (first | (refine wpList_ld (by first | rfl | simp [Region.wanted, yielded]) 26 _ rfl _ rfl _ hl1 ?_))
         refine HWr.out.mono ?_
         rintro e w7 ⟨ga, gb, gc, rfl, hgb, hgo, hE7⟩
         have Hgo := hide hgo.toBSeg
         have HE7 := hide hE7
         have HV7 := hide (HVr.out.trans hE7)
         clear hgb hgo hE7 hl1 HWr
         cases ok
         ·have Hw := hide (show ¬ ∃ d, CrlRd g f bn d from fun h => by have := (HIff.out.2 (HQ.out h)).1; cases this)
          obtain ⟨n1, n2, n3, n4⟩ := HNo.out w7 HV7.out
          have N3 := hide n3
          have N4 := hide n4
          clear n3 n4
          go_wp2_with (first | (refine wpList_ld (by first | rfl | simp [Region.wanted, yielded]) 26 _ rfl _ rfl _ n1 ?_) | (refine wpList_st (by first | rfl | simp [Region.wanted, yielded]) 26 _ _ rfl _ rfl _ rfl _ n2 ?_) | (refine bodyPost_ret (v := .tuple #[.agg L.toArray, .bool false]) (results_atb Tryz.results4 rfl rfl N3.out) rfl ⟨N4.out, .inr ⟨by rw [HLz.out], Hw.out⟩⟩))
         ·have HEq := hide (l1Same_any ga gb 0 aL.length gc (fun i => aL.getD i 0) ba bb boff bn bc f w7 Hgo.out (Hs.out.of_all HV7.out) (fun i _ => Hansr.out i) Hb.out)
          obtain ⟨eq, heq⟩ : ∃ q, (aL.length == bn && alike (fun i => aL.getD i 0) f aL.length) = q := ⟨_, rfl⟩
          rw [heq] at HEq HIff
          clear heq
          go_wp2_with fail
          refine HEq.out.mono ?_
          rintro e w8 ⟨rfl, hw8⟩
          obtain rfl := hw8.symm
          clear HEq
          cases eq
          ·have Hw := hide (show ¬ ∃ d, CrlRd g f bn d from fun h => by have := (HIff.out.2 (HQ.out h)).2; cases this)
           obtain ⟨n1, n2, n3, n4⟩ := HNo.out w7 HV7.out
           have N3 := hide n3
           have N4 := hide n4
           clear n3 n4
           go_wp2_with (first | (refine wpList_ld (by first | rfl | simp [Region.wanted, yielded]) 26 _ rfl _ rfl _ n1 ?_) | (refine wpList_st (by first | rfl | simp [Region.wanted, yielded]) 26 _ _ rfl _ rfl _ rfl _ n2 ?_) | (refine bodyPost_ret (v := .tuple #[.agg L.toArray, .bool false]) (results_atb Tryz.results4 rfl rfl N3.out) rfl ⟨N4.out, .inr ⟨by rw [HLz.out], Hw.out⟩⟩))
          ·have HY := hide (HIff.out.1 (by first | exact ⟨rfl, rfl⟩ | exact ⟨trivial, rfl⟩ | simp))
           have hl1 := Hld.out C w7 (HBl.out.ext HE7.out HlC.out)
           have hBr := Hbz.out.ext HE7.out (by have := HV.out; have := Below.size HVr.out; omega)
           have hst := run_st (P := Tryz.prog) 26 LC w7 (by rw [Hl6.out]; kernel_rfl) Hone.out w.heap.size 0 (Blk.st hBr 0 _ (by rw [Hl6.out]; decide))
           have hBf := hBr.put LC (by rw [Hl6.out]; rfl)
           have Hlr := hide (Hld.out w.heap.size _ hBf)
           have Hfin := hide ((HE.out.trans HV7.out).putL (Nat.le_refl _) LC)
           have HIf : Hid (ClIn (putL w.heap.size 0 LC w7) c m) := hide ((HIn.out.ext HE7.out).putO Hne.out.1 Hne.out.2.1 Hne.out.2.2)
           obtain ⟨W, hW⟩ : ∃ W, putL w.heap.size 0 LC w7 = W := ⟨_, rfl⟩
           rw [hW] at hst Hlr Hfin HIf
           clear hW hBf hBr HIff HQ HBl Hbz
           go_wp2_with (first | (refine wpList_ld (by first | rfl | simp [Region.wanted, yielded]) 26 _ rfl _ rfl _ hl1 ?_) | (refine wpList_st (by first | rfl | simp [Region.wanted, yielded]) 26 _ _ rfl _ rfl _ rfl _ hst ?_) | (refine bodyPost_ret (v := .tuple #[.agg LC.toArray, .bool true]) (results_atb Tryz.results4 rfl rfl Hlr.out) rfl ⟨Hfin.out, .inl ⟨c, m, by rw [HLC.out], HIf.out, HSm.out, HY.out⟩⟩))
    ·have h4' : ¬ ((K1 : Int) = 4) := by omega
     have Hw := hide (show ¬ ∃ d, CrlRd g f bn d from fun ⟨d, hd⟩ => h4 (by rw [← HK1.out]; exact (HLy.out d hd).ak))
     obtain ⟨n1, n2, n3, n4⟩ := HNo.out w3 (HE1.out.trans HE3.out)
     have N3 := hide n3
     have N4 := hide n4
     clear n3 n4
     go_wp2_with (first | (refine wpList_ld (by first | rfl | simp [Region.wanted, yielded]) 26 _ rfl _ rfl _ n1 ?_) | (refine wpList_st (by first | rfl | simp [Region.wanted, yielded]) 26 _ _ rfl _ rfl _ rfl _ n2 ?_) | (refine bodyPost_ret (v := .tuple #[.agg L.toArray, .bool false]) (results_atb Tryz.results4 rfl rfl N3.out) rfl ⟨N4.out, .inr ⟨by rw [HLz.out], Hw.out⟩⟩))
  ·have h2' : ¬ ((K0 : Int) = 2) := by omega
   have Hw := hide (show ¬ ∃ d, CrlRd g f bn d from fun ⟨d, hd⟩ => h2 (by rw [← HK0.out]; exact (HLy.out d hd).rk))
   obtain ⟨n1, n2, n3, n4⟩ := HNo.out w2 (HE1.out.trans HE2.out)
   have N3 := hide n3
   have N4 := hide n4
   clear n3 n4
   go_wp2_with (first | (refine wpList_ld (by first | rfl | simp [Region.wanted, yielded]) 26 _ rfl _ rfl _ n1 ?_) | (refine wpList_st (by first | rfl | simp [Region.wanted, yielded]) 26 _ _ rfl _ rfl _ rfl _ n2 ?_) | (refine bodyPost_ret (v := .tuple #[.agg L.toArray, .bool false]) (results_atb Tryz.results4 rfl rfl N3.out) rfl ⟨N4.out, .inr ⟨by rw [HLz.out], Hw.out⟩⟩))
 ·have hne : (cd != 0) = true := by simpa using h0
  have Hw := hide (show ¬ ∃ d, CrlRd g f bn d from fun ⟨d, hd⟩ => h0 (by rw [← Hcd.out, (hd.lay hg Hb.out).1]))
  clear h0
  obtain ⟨n1, n2, n3, n4⟩ := HNo.out w1 HE1.out
  have N3 := hide n3
  have N4 := hide n4
  clear n3 n4
  go_wp2_with (first | (refine wpList_ld (by first | rfl | simp [Region.wanted, yielded]) 26 _ rfl _ rfl _ n1 ?_) | (refine wpList_st (by first | rfl | simp [Region.wanted, yielded]) 26 _ _ rfl _ rfl _ rfl _ n2 ?_) | (refine bodyPost_ret (v := .tuple #[.agg L.toArray, .bool false]) (results_atb Tryz.results4 rfl rfl N3.out) rfl ⟨N4.out, .inr ⟨by rw [HLz.out], Hw.out⟩⟩))
end Go.Proofs.YtkogbinfhoiggaaGreatDoor
