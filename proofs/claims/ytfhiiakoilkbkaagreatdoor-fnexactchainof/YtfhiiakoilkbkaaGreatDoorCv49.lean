/- Walks: the model copies lists of strings and of numbers; lists of certificates all of which are right. Walks: leaf, pool and anchors all right, of both. Walks: the program's candidates are made. Walks: certificates put onto lists. Walks: the model's chain of numbers. -/
import Derived.Test.YtfhiiakoilkbkaaGreatDoorCv36
import Derived.Test.YtfhiiakoilkbkaaGreatDoorCv48
namespace Go.Proofs.YtfhiiakoilkbkaaGreatDoor
set_option linter.unusedVariables false
set_option linter.unusedSimpArgs false
section
open Go.RowKit
theorem strz_succ (f : Nat → ByteArray) (n : Nat) : strz f (n + 1) = strz f n ++ [.string (f n)] := by simp [strz, List.range_succ]
set_option maxHeartbeats 3200000 in
set_option maxRecDepth 100000 in
theorem l12Texts_any (p : Plc) (n : Nat) (f : Nat → ByteArray) (w : World) (hs : SSeg w p.ad p.b p.off n f) (hn : n ≤ 1048576) :
  Calls Tryz.prog 53 #[.slice p.ad n p.cap] w fun e w' => ∃ q : Plc, e = .returned (.slice q.ad n q.cap) ∧ CpSs w w' n f q ∧ Ext w w' := by
 obtain ⟨ad, b, off, cap⟩ := p
 dsimp only at hs ⊢
 obtain ⟨i0, hi0, hz0, hz1, hz2⟩ := info_parts Tryz.infoS
 have H0 := hide (World.ownsRow_made (base := w.heap.size) (e := 9) (size := 1) w #[] 0 (Nat.le_refl _) (by simp) rfl)
 have Hs := hide hs
 have HE0 := hide (Ext.alloc w (.cells #[] 9))
 clear hs
 go_enter Tryz.func53, Tryz.ntmps53
 go_wp2
 go_loopw [3, 4] (fun v k wr => ∃ j : Nat, j ≤ n ∧ k = .int .i64 (j : Int) ∧ wr.ownsRow w.heap.size 9 1 v j (strz f j) ∧ Ext w wr) (fun _ k _ => n - (intOf k).toNat)
 case atStart => exact ⟨0, Nat.zero_le _, rfl, H0.out, HE0.out⟩
 case round =>
  clear H0 HE0
  obtain ⟨j, hj, rfl, hO, hE⟩ := hrel
  have HO := hide hO
  have HEr := hide hE
  by_cases hlt : j < n
  ·obtain rfl := Hs.out.at' (by omega)
   have hjk : (j : Int) < (n : Int) := by omega
   have c1 := (Hs.out.of_all hE).cell j hlt
   have HX := hide (strz_succ f j)
   obtain ⟨s, hse⟩ : ∃ s, f j = s := ⟨_, rfl⟩
   rw [hse] at HX c1
   obtain ⟨xs, hxs⟩ : ∃ xs, strz f j = xs := ⟨_, rfl⟩
   rw [hxs] at HX HO
   clear hO hE hse hxs
   go_wp2_with (at_builtin; refine wpList_append_own _ rfl _ _ 22 rfl w.heap.size 9 i0 (.string ⟨#[]⟩) 1 16 Tryz.underlying22 hi0 hz0 hz1 hz2 rfl (by decide) _ _ _ rfl (HO.out.alloc _) ⟨wr.heap.size, 0, none⟩ 1 1 [.string s] rfl rfl (cell_one_new _ _ _) (strs_one _) (by unfold maxLen; omega) (by omega) (by have := Below.size HEr.out; simp; omega) ?_; intro v' w4 hown' hgrow hnil)
   have HN : Hid (w4.ownsRow w.heap.size 9 1 v' (j + 1) (strz f (j + 1)) ∧ Ext w w4) := hide ⟨by rw [HX.out]; exact hown', (Below.alloc HEr.out (Below.size HEr.out) _).grown hgrow (by have := Below.size HEr.out; simp; omega) (fun j hj => (HO.out.lt j hj).1)⟩
   clear hown' hgrow hnil HO HEr c1
   go_wp2
   go_roundw
   case rel => exact ⟨j + 1, by omega, by go_num, HN.out.1, HN.out.2⟩
   case measure => simp [intOf]; omega
  ·obtain rfl : j = n := by omega
   clear hO hE
   go_wp2
   go_ret
   obtain ⟨q, h1, h2, h3, h4⟩ := sowns_seg HO.out
   exact ⟨q, congrArg Ending.returned h1, cps_of h2 h3 h4, HEr.out⟩
set_option maxHeartbeats 3200000 in
set_option maxRecDepth 100000 in
theorem l12Ints_any (p : Plc) (n : Nat) (f : Nat → Int) (w : World) (hs : Seg w p.ad p.b p.off n f) (hn : n ≤ 1048576) :
  Calls Tryz.prog 54 #[.slice p.ad n p.cap] w fun e w' => ∃ q : Plc, e = .returned (.slice q.ad n q.cap) ∧ CpIs w w' n f q ∧ Ext w w' := by
 obtain ⟨ad, b, off, cap⟩ := p
 dsimp only at hs ⊢
 obtain ⟨i0, hi0, hz0, hz1, hz2⟩ := info_parts Tryz.info3
 have H0 := hide (World.ownsRow_made (base := w.heap.size) (e := 3) (size := 1) w #[] 0 (Nat.le_refl _) (by simp) rfl)
 have Hs := hide hs
 have HE0 := hide (Ext.alloc w (.cells #[] 3))
 clear hs
 go_enter Tryz.func54, Tryz.ntmps54
 go_wp2
 go_loopw [3, 4] (fun v k wr => ∃ j : Nat, j ≤ n ∧ k = .int .i64 (j : Int) ∧ wr.ownsRow w.heap.size 3 1 v j (ints f j) ∧ Ext w wr) (fun _ k _ => n - (intOf k).toNat)
 case atStart => exact ⟨0, Nat.zero_le _, rfl, H0.out, HE0.out⟩
 case round =>
  clear H0 HE0
  obtain ⟨j, hj, rfl, hO, hE⟩ := hrel
  have HO := hide hO
  have HEr := hide hE
  by_cases hlt : j < n
  ·obtain rfl := Hs.out.at' (by omega)
   have hjk : (j : Int) < (n : Int) := by omega
   have c1 := (Hs.out.of_all hE).cell j hlt
   have HX := hide (ints_succ f j)
   obtain ⟨s, hse⟩ : ∃ s, f j = s := ⟨_, rfl⟩
   rw [hse] at HX c1
   obtain ⟨xs, hxs⟩ : ∃ xs, ints f j = xs := ⟨_, rfl⟩
   rw [hxs] at HX HO
   clear hO hE hse hxs
   go_wp2_with (at_builtin; refine wpList_append_own _ rfl _ _ 23 rfl w.heap.size 3 i0 (.int .i64 0) 1 8 Tryz.underlying23 hi0 hz0 hz1 hz2 rfl (by decide) _ _ _ rfl (HO.out.alloc _) ⟨wr.heap.size, 0, none⟩ 1 1 [.int .i64 s] rfl rfl (cell_one_new _ _ _) (fun u hu => by simp at hu; subst hu; rfl) (by unfold maxLen; omega) (by omega) (by have := Below.size HEr.out; simp; omega) ?_; intro v' w4 hown' hgrow hnil)
   have HN : Hid (w4.ownsRow w.heap.size 3 1 v' (j + 1) (ints f (j + 1)) ∧ Ext w w4) := hide ⟨by rw [HX.out]; exact hown', (Below.alloc HEr.out (Below.size HEr.out) _).grown hgrow (by have := Below.size HEr.out; simp; omega) (fun j hj => (HO.out.lt j hj).1)⟩
   clear hown' hgrow hnil HO HEr c1
   go_wp2
   go_roundw
   case rel => exact ⟨j + 1, by omega, by go_num, HN.out.1, HN.out.2⟩
   case measure => simp [intOf]; omega
  ·obtain rfl : j = n := by omega
   clear hO hE
   go_wp2
   go_ret
   obtain ⟨a2, g, c2, h1, h2, -, -, h3⟩ := iowns_seg HO.out
   exact ⟨⟨a2, g, 0, c2⟩, congrArg Ending.returned h1, cpi_of h2 h3, HEr.out⟩
set_option maxHeartbeats 3200000 in
theorem l12All_any (p : Plc) (n most : Nat) (c : Nat → Ct) (m : Nat → CtPl) (ok : Nat → Bool) (w : World) (hs : CSeg w p n c m) (hK : ChOk n c ok) (hm : most ≤ 1048576) :
  Calls Tryz.prog 52 #[.slice p.ad n p.cap, .int .i64 (most : Int)] w fun e w' => e = .returned (.bool (decide (n ≤ most) && allB (fun i => ctB (c i) (ok i)) n)) ∧ Ext w w' := by
 obtain ⟨ad, b, off, cap⟩ := p
 dsimp only
 have Hs := hide hs
 have HC : Hid (∀ i, i < n → ∀ W, Ext w W → Calls Tryz.prog 51 #[.agg (ctL (c i) (m i)).toArray] W fun e w' => e = .returned (.bool (ctB (c i) (ok i))) ∧ Ext W w') := hide (fun i hi W hW => specCertOk_at (c i) (m i) (ok i) (hK.ok i) W ((hs.each i hi).ext hW) (hK.sm i hi) (hK.ky i hi))
 have n1 := hK.n1
 obtain ⟨R, hR⟩ : ∃ R, R = (decide (n ≤ most) && allB (fun i => ctB (c i) (ok i)) n) := ⟨_, rfl⟩
 rw [← hR]
 have HR := hide hR
 clear hs hR hK
 go_enter Tryz.func52, Tryz.ntmps52
 go_wp2
 go_loopw [5] (fun i wr => ∃ k : Nat, k ≤ n ∧ i = .int .i64 (k : Int) ∧ (∀ j, j < k → ctB (c j) (ok j) = true) ∧ Ext w wr) (fun i _ => n - (intOf i).toNat)
 case atStart => exact ⟨0, Nat.zero_le _, rfl, fun j hj => absurd hj (Nat.not_lt_zero _), Ext.refl _⟩
 case round =>
  obtain ⟨k, hk, rfl, hd, hE⟩ := hrel
  have HD := hide hd
  have HE := hide hE
  clear hd
  by_cases hlt : k < n
  ·have hat := Hs.out.at' (by omega)
   dsimp only at hat
   subst hat
   have hld := (Hs.out.ext hE).ld k hlt
   dsimp only at hld
   have hkn : (k : Int) < (n : Int) := by omega
   have HX := hide (HC.out k hlt _ hE)
   obtain ⟨q, hq⟩ : ∃ q, ctB (c k) (ok k) = q := ⟨_, rfl⟩
   rw [hq] at HX
   have Hq := hide hq
   generalize ctL (c k) (m k) = L at *
   clear hE hq
   go_wp2_with (refine wpList_ld (by first | rfl | simp [Region.wanted, yielded]) 54 _ rfl _ rfl _ hld ?_)
   refine HX.out.mono ?_
   rintro e w1 ⟨rfl, hE1⟩
   have HE1 := hide (HE.out.trans hE1)
   clear hE1 HX hld
   cases q
   ·go_wp2
    go_ret
    refine ⟨?_, HE1.out⟩
    rw [HR.out]
    have : allB (fun i => ctB (c i) (ok i)) n = false := by
     cases e : allB (fun i => ctB (c i) (ok i)) n
     ·rfl
     ·have := allB_iff.1 e k hlt
      rw [Hq.out] at this
      cases this
    rw [this, Bool.and_false]
    rfl
   ·go_wp2
    go_roundw
    case rel => exact ⟨k + 1, by omega, by go_num, fun j hj => by
     by_cases e : j = k
     ·rw [e]; exact Hq.out
     ·exact HD.out j (by omega), HE1.out⟩
    case measure => simp [intOf]; omega
  ·obtain rfl : k = n := by omega
   have e : R = decide (k ≤ most) := by rw [HR.out, allB_iff.2 HD.out, Bool.and_true]
   have he := hide e
   clear e hE
   by_cases h : k ≤ most
   ·have h1 : (k : Int) ≤ (most : Int) := by omega
    go_wp2
    go_ret
    refine ⟨?_, HE.out⟩
    rw [he.out, decide_eq_true h]
    rfl
   ·have h1 : ¬ (k : Int) ≤ (most : Int) := by omega
    go_wp2
    go_ret
    refine ⟨?_, HE.out⟩
    rw [he.out, decide_eq_false h]
    rfl
structure Cnd where
 c0 : Ct
 k0 : Bool
 np : Nat
 cp : Nat → Ct
 kp : Nat → Bool
 na : Nat
 ca : Nat → Ct
 ka : Nat → Bool
structure CndPl where
 m0 : CtPl
 pp : Plc
 mp : Nat → CtPl
 pa : Plc
 ma : Nat → CtPl
structure CndIn (w : World) (c : Cnd) (m : CndPl) : Prop where
 l : CtIn w c.c0 m.m0
 p : CSeg w m.pp c.np c.cp m.mp
 a : CSeg w m.pa c.na c.ca m.ma
structure CndOk (c : Cnd) : Prop where
 s0 : CtSm c.c0 1048576
 y0 : KyIn c.c0.k
 o0 : c.k0 = true ↔ KeyP c.c0.k
 p : ChOk c.np c.cp c.kp
 a : ChOk c.na c.ca c.ka
theorem CndIn.ext {w w' : World} {c : Cnd} {m : CndPl} (h : CndIn w c m) (e : Ext w w') : CndIn w' c m := ⟨h.l.ext e, h.p.ext e, h.a.ext e⟩
def poolB (c : Cnd) : Bool := decide (c.np ≤ 8) && allB (fun i => ctB (c.cp i) (c.kp i)) c.np
def ancB (c : Cnd) : Bool := decide (c.na ≤ 4) && allB (fun i => ctB (c.ca i) (c.ka i)) c.na
def cndB (c : Cnd) : Bool := ctB c.c0 c.k0 && poolB c && ancB c
set_option maxHeartbeats 3200000 in
set_option maxRecDepth 100000 in
theorem l12Ok_any (c : Cnd) (m : CndPl) (w : World) (hI : CndIn w c m) (hO : CndOk c) :
  Calls Tryz.prog 22 #[.agg (ctL c.c0 m.m0).toArray, .slice m.pp.ad c.np m.pp.cap, .slice m.pa.ad c.na m.pa.cap] w fun e w' => e = .returned (.bool (cndB c)) ∧ Ext w w' := by
 obtain ⟨V, hV⟩ : ∃ V, w.alloc (.cells (ctL c.c0 m.m0).toArray 54) = V := ⟨_, rfl⟩
 obtain ⟨B0, hE, -⟩ := box1 w (ctL c.c0 m.m0) 54 (w1 := V) (by rw [← hV]; exact Ext.refl _)
 have hld := run_ld (P := Tryz.prog) 54 (ctL c.c0 m.m0) V (by kernel_rfl) (by kernel_rfl) w.heap.size 0 (Blk.ld B0 0 _ (fun j v h => by rw [Nat.zero_add]; exact h))
 have HC := hide (specCertOk_at c.c0 m.m0 c.k0 hO.o0 V (hI.l.ext hE) hO.s0 hO.y0)
 have HP : Hid (∀ W, Ext V W → Calls Tryz.prog 52 #[.slice m.pp.ad c.np m.pp.cap, .int .i64 8] W fun e w' => e = .returned (.bool (poolB c)) ∧ Ext W w') := hide (fun W h => l12All_any m.pp c.np 8 c.cp m.mp c.kp W (hI.p.ext (hE.trans h)) hO.p (by decide))
 have HA : Hid (∀ W, Ext V W → Calls Tryz.prog 52 #[.slice m.pa.ad c.na m.pa.cap, .int .i64 4] W fun e w' => e = .returned (.bool (ancB c)) ∧ Ext W w') := hide (fun W h => l12All_any m.pa c.na 4 c.ca m.ma c.ka W (hI.a.ext (hE.trans h)) hO.a (by decide))
 have HE := hide hE
 have HR : Hid (cndB c = (ctB c.c0 c.k0 && poolB c && ancB c)) := hide rfl
 rw [HR.out]
 generalize ctL c.c0 m.m0 = L at *
 generalize ctB c.c0 c.k0 = b0 at *
 generalize poolB c = b1 at *
 generalize ancB c = b2 at *
 clear hI hO hE B0 HR
 go_enter Tryz.func22, Tryz.ntmps22
 go_wp2_with (first | (refine wpList_ld (by first | rfl | simp [Region.wanted, yielded]) 54 _ rfl _ rfl _ hld ?_))
 refine HC.out.mono ?_
 rintro e w1 ⟨rfl, hE1⟩
 have HE1 := hide hE1
 clear hE1 hld HC
 cases b0
 ·go_wp2
  go_ret
  exact ⟨rfl, HE.out.trans HE1.out⟩
 ·go_wp2_with fail
  refine (HP.out _ HE1.out).mono ?_
  rintro e w2 ⟨rfl, hE2⟩
  have HE2 := hide (HE1.out.trans hE2)
  clear hE2
  cases b1
  ·go_wp2
   go_ret
   exact ⟨rfl, HE.out.trans HE2.out⟩
  ·go_wp2_with fail
   refine (HA.out _ HE2.out).mono ?_
   rintro e w3 ⟨rfl, hE3⟩
   have HE3 := hide (HE2.out.trans hE3)
   clear hE3
   go_wp2
   go_ret
   exact ⟨by cases b2 <;> rfl, HE.out.trans HE3.out⟩
def cdL (c : Cnd) (m : CndPl) (B : Nat) : List Value := ctL c.c0 m.m0 ++ [.slice m.pp.ad c.np m.pp.cap, .slice m.pa.ad c.na m.pa.cap, .pointer (some ⟨B, 0, none⟩)]
set_option maxHeartbeats 3200000 in
set_option maxRecDepth 100000 in
theorem candOk_any (c : Cnd) (m : CndPl) (B : Nat) (w : World) (hI : CndIn w c m) (hO : CndOk c) :
  Calls Tryz.prog 31 #[.agg (cdL c m B).toArray] w fun e w' => e = .returned (.bool (cndB c)) ∧ Ext w w' := by
 obtain ⟨V, hV⟩ : ∃ V, w.alloc (.cells (cdL c m B).toArray 79) = V := ⟨_, rfl⟩
 obtain ⟨B0, hE, -⟩ := box1 w (cdL c m B) 79 (w1 := V) (by rw [← hV]; exact Ext.refl _)
 have HB := hide B0
 have HL := hide (Blk.lt B0 (by simp [cdL, ctL, kyL, exL]))
 have HC : Hid (∀ W, Ext V W → Calls Tryz.prog 61 #[.agg (ctL c.c0 m.m0).toArray] W fun e w' => e = .returned (.bool (ctB c.c0 c.k0)) ∧ Ext W w') := hide (fun W h => implCertOk_at c.c0 m.m0 c.k0 hO.o0 W (hI.l.ext (hE.trans h)) hO.s0 hO.y0)
 have HP : Hid (∀ W, Ext V W → Calls Tryz.prog 60 #[.slice m.pp.ad c.np m.pp.cap, .int .i64 8, .func (.func 61) #[] #[]] W fun e w' => e = .returned (.bool (poolB c)) ∧ Ext W w') := hide (fun W h => aokC_any 61 (fun _ _ => by kernel_rfl) (fun i => ctB (c.cp i) (c.kp i)) 8 m.pp c.np c.cp m.mp W (hI.p.ext (hE.trans h)) hO.p.n1 (by decide) (hide fun i hi W2 hW => implCertOk_at (c.cp i) (m.mp i) (c.kp i) (hO.p.ok i) W2 ((hI.p.each i hi).ext (hE.trans (h.trans hW))) (hO.p.sm i hi) (hO.p.ky i hi)))
 have HA : Hid (∀ W, Ext V W → Calls Tryz.prog 60 #[.slice m.pa.ad c.na m.pa.cap, .int .i64 4, .func (.func 61) #[] #[]] W fun e w' => e = .returned (.bool (ancB c)) ∧ Ext W w') := hide (fun W h => aokC_any 61 (fun _ _ => by kernel_rfl) (fun i => ctB (c.ca i) (c.ka i)) 4 m.pa c.na c.ca m.ma W (hI.a.ext (hE.trans h)) hO.a.n1 (by decide) (hide fun i hi W2 hW => implCertOk_at (c.ca i) (m.ma i) (c.ka i) (hO.a.ok i) W2 ((hI.a.each i hi).ext (hE.trans (h.trans hW))) (hO.a.sm i hi) (hO.a.ky i hi)))
 have HE := hide hE
 have HR : Hid (cndB c = (ctB c.c0 c.k0 && poolB c && ancB c)) := hide rfl
 rw [HR.out]
 have c34 := (B0 34 _ rfl).1
 generalize ctB c.c0 c.k0 = b0 at *
 generalize poolB c = b1 at *
 generalize ancB c = b2 at *
 clear hI hO hE B0 HR
 go_enter Tryz.func31, Tryz.ntmps31
 go_wp2_with fail
 refine (HP.out _ (Ext.refl _)).mono ?_
 rintro e w1 ⟨rfl, hE1⟩
 have HE1 := hide hE1
 clear hE1 c34
 cases b1
 ·go_wp2
  go_ret
  exact ⟨by cases b0 <;> rfl, HE.out.trans HE1.out⟩
 ·have c35 := ((HB.out.ext HE1.out HL.out) 35 _ rfl).1
  go_wp2_with fail
  refine (HA.out _ HE1.out).mono ?_
  rintro e w2 ⟨rfl, hE2⟩
  have HE2 := hide (HE1.out.trans hE2)
  clear hE2 c35
  cases b2
  ·go_wp2
   go_ret
   exact ⟨by cases b0 <;> rfl, HE.out.trans HE2.out⟩
  ·have hB2 := HB.out.ext HE2.out HL.out
   have hld := run_ld (P := Tryz.prog) 54 (ctL c.c0 m.m0) w2 (by kernel_rfl) (by kernel_rfl) w.heap.size 0 (Blk.ld hB2 0 _ (fun j v h => by
    rw [Nat.zero_add]
    have hj := (List.getElem?_eq_some_iff.1 h).1
    show (ctL c.c0 m.m0 ++ _)[j]? = some v
    rw [List.getElem?_append_left hj]
    exact h))
   clear hB2
   go_wp2_with (first | (refine wpList_ld (by first | rfl | simp [Region.wanted, yielded]) 54 _ rfl _ rfl _ hld ?_))
   refine (HC.out _ HE2.out).mono ?_
   rintro e w3 ⟨rfl, hE3⟩
   have HE3 := hide (HE2.out.trans hE3)
   clear hE3
   go_wp2
   go_ret
   exact ⟨by cases b0 <;> rfl, HE.out.trans HE3.out⟩
theorem wpList_build {P : Program} {w : World} {ops : Array Oper} {rest : List Oper} {o : Oper} {a : Act} {Q : Exit → Act → World → Prop} (hw : Region.wanted o (yielded ops a.tmps) = true) (ty : TypeId) (ps : Array (Nat × Operand)) (ho : o.op = .build ty ps) (vs : Array (Nat × Value)) (hp : (ps.map fun (i, x) => (i, a.eval x)) = vs) (v : Value) (hl : (Instr.build ty vs).run P w = .ok v w)
  (h : wpList P ops Q rest (a.put o.dst v) w) : wpList P ops Q (o :: rest) a w := by
 rw [wpList]
 simp only [hw, if_true]
 refine Or.inl ?_
 unfold Oper.wp execOp
 simp only [ho, hp, Sem.run_bind, Sem.run_pure, Result.andThen_ok, hl]
 exact h
set_option maxHeartbeats 3200000 in
set_option maxRecDepth 100000 in
theorem newCands_any (c : Cnd) (m : CndPl) (w : World) :
  Calls Tryz.prog 30 #[.agg (ctL c.c0 m.m0).toArray, .slice m.pp.ad c.np m.pp.cap, .slice m.pa.ad c.na m.pa.cap] w fun e w' => ∃ B, e = .returned (.agg (cdL c m B).toArray) ∧ Ext w w' := by
 obtain ⟨V, hV⟩ : ∃ V, (w.alloc (.cells (ctL c.c0 m.m0).toArray 54)).alloc (.cells #[.int .i64 0, .slice none 0 0, .slice none 0 0, .int .i64 0, .int .i64 0, .int .i64 0, .slice none 0 0, .int .i64 0, .int .i64 0, .int .i64 0, .int .i64 0, .int .i64 0, .int .i64 0, .int .i64 0, .int .i64 0, .int .i64 0, .bool false, .int .i64 0, .int .i64 0, .int .i64 0, .int .i64 0, .int .i64 0, .int .i64 0, .int .i64 0, .int .i64 0, .bool false, .int .i64 0, .int .i64 0, .slice none 0 0, .slice none 0 0, .slice none 0 0, .slice none 0 0, .slice none 0 0, .slice none 0 0, .slice none 0 0, .slice none 0 0, .pointer none] 79) = V := ⟨_, rfl⟩
 obtain ⟨B0, B1, hE, hsz⟩ := box2 w (ctL c.c0 m.m0) [.int .i64 0, .slice none 0 0, .slice none 0 0, .int .i64 0, .int .i64 0, .int .i64 0, .slice none 0 0, .int .i64 0, .int .i64 0, .int .i64 0, .int .i64 0, .int .i64 0, .int .i64 0, .int .i64 0, .int .i64 0, .int .i64 0, .bool false, .int .i64 0, .int .i64 0, .int .i64 0, .int .i64 0, .int .i64 0, .int .i64 0, .int .i64 0, .int .i64 0, .bool false, .int .i64 0, .int .i64 0, .slice none 0 0, .slice none 0 0, .slice none 0 0, .slice none 0 0, .slice none 0 0, .slice none 0 0, .slice none 0 0, .slice none 0 0, .pointer none] 54 79 (w1 := V) (by rw [← hV]; exact Ext.refl _)
 have hld := run_ld (P := Tryz.prog) 54 (ctL c.c0 m.m0) V (by kernel_rfl) (by kernel_rfl) w.heap.size 0 (Blk.ld B0 0 _ (fun j v h => by rw [Nat.zero_add]; exact h))
 have hmm := run_makeMap (P := Tryz.prog) 99 V
 have HE := hide hE
 have H1 := hide B1
 have Hsz := hide hsz
 have hst : ∀ W, Ext V W → (Instr.storeAt 79 (.pointer (some ⟨w.heap.size + 1, 0, none⟩)) (.agg (cdL c m (V.heap.size + 1)).toArray)).run Tryz.prog W = .ok () (putL (w.heap.size + 1) 0 (cdL c m (V.heap.size + 1)) W) := fun W h => run_st (P := Tryz.prog) 79 (cdL c m (V.heap.size + 1)) W (by kernel_rfl) (by simp [cdL, ctL, kyL, exL, Value.oneCell']) (w.heap.size + 1) 0 (Blk.st (B1.ext h (by omega)) 0 _ (by simp [cdL, ctL, kyL, exL]))
 have hb1 : ∀ W, (Instr.build 108 #[(1, .map (some V.heap.size))]).run Tryz.prog W = .ok (.agg #[.int .i32 0, .int .u32 0, .map (some V.heap.size)]) W := fun W => by kernel_rfl
 have hb2 : ∀ W, (Instr.build 79 #[(0, .agg (ctL c.c0 m.m0).toArray), (1, .slice m.pp.ad c.np m.pp.cap), (2, .slice m.pa.ad c.na m.pa.cap), (3, .pointer (some ⟨V.heap.size + 1, 0, none⟩))]).run Tryz.prog W = .ok (.agg (cdL c m (V.heap.size + 1)).toArray) W := fun W => by kernel_rfl
 have hR : ∀ W, Ext V W → (loadVar 79 ⟨w.heap.size + 1, 0, none⟩).run Tryz.prog (putL (w.heap.size + 1) 0 (cdL c m (V.heap.size + 1)) W) = .ok (.agg (cdL c m (V.heap.size + 1)).toArray) (putL (w.heap.size + 1) 0 (cdL c m (V.heap.size + 1)) W) ∧ Ext w (putL (w.heap.size + 1) 0 (cdL c m (V.heap.size + 1)) W) := fun W h => ⟨run_ld (P := Tryz.prog) 79 (cdL c m (V.heap.size + 1)) _ (by kernel_rfl) (by kernel_rfl) (w.heap.size + 1) 0 (Blk.ld (Blk.putAll1 (B1.ext h (by omega)) (vs := cdL c m (V.heap.size + 1)) (by simp [cdL, ctL, kyL, exL])) 0 _ (fun j v h => by rw [Nat.zero_add]; exact h)), below_putL (Nat.le_succ _) _ 0 _ (hE.trans h)⟩
 have HR := hide hR
 have Hst := hide hst
 clear B0 B1 hE hsz hst hR
 obtain ⟨L1, hL1⟩ : ∃ L, (ctL c.c0 m.m0) = L := ⟨_, rfl⟩
 obtain ⟨L2, hL2⟩ : ∃ L, cdL c m (V.heap.size + 1) = L := ⟨_, rfl⟩
 rw [hL1] at hld hb2 ⊢
 rw [hL2] at hb2 Hst HR
 have HL2 := hide hL2
 have hEx : Ext V ((V.alloc (.map #[] 0)).alloc (.cells #[.int .i32 0, .int .u32 0, .map (some V.heap.size)] 108)) := (Ext.alloc _ _).trans (Ext.alloc _ _)
 have hst := Hst.out _ hEx
 have HF := hide (HR.out _ hEx)
 rw [hL1] at hV
 clear hL1 hL2 Hst HR hEx
 go_enter Tryz.func30, Tryz.ntmps30
 go_wp2_with (first | (refine wpList_build (by first | rfl | simp [Region.wanted, yielded]) 79 _ rfl _ (by first | rfl | (simp; done) | go_simp) _ (hb2 _) ?_) | (refine wpList_ld (by first | rfl | simp [Region.wanted, yielded]) 54 _ rfl _ rfl _ hld ?_) | (refine wpList_st (by first | rfl | simp [Region.wanted, yielded]) 79 _ _ rfl _ rfl _ rfl _ hst ?_) | (refine bodyPost_ret (v := .agg L2.toArray) (results_at Tryz.results30 rfl HF.out.1) rfl ⟨_, by rw [HL2.out], HF.out.2⟩))
def ctsW (c : Nat → Ct) (m : Nat → CtPl) : Nat → List Value
 | 0 => []
 | n + 1 => ctsW c m n ++ ctL (c n) (m n)
theorem ctsW_len (c : Nat → Ct) (m : Nat → CtPl) : ∀ n, (ctsW c m n).length = n * 34
 | 0 => rfl
 | n + 1 => by rw [ctsW, List.length_append, ctsW_len c m n, ctL_len]; omega
theorem ctsW_at (c : Nat → Ct) (m : Nat → CtPl) : ∀ (n i j : Nat) (v : Value), i < n → (ctL (c i) (m i))[j]? = some v → (ctsW c m n)[i * 34 + j]? = some v
 | n + 1, i, j, v, hi, hv => by
  have hj : j < 34 := (List.getElem?_eq_some_iff.1 hv).1
  rw [ctsW]
  by_cases e : i = n
  ·subst e
   rw [List.getElem?_append_right (by rw [ctsW_len]; omega), ctsW_len, show i * 34 + j - i * 34 = j by omega]
   exact hv
  ·have : (i + 1) * 34 ≤ n * 34 := Nat.mul_le_mul_right _ (by omega)
   rw [List.getElem?_append_left (by rw [ctsW_len]; omega)]
   exact ctsW_at c m n i j v (by omega) hv
theorem ctsW_congr {c c' : Nat → Ct} {m m' : Nat → CtPl} : ∀ {n : Nat}, (∀ i, i < n → c i = c' i ∧ m i = m' i) → ctsW c m n = ctsW c' m' n
 | 0, _ => rfl
 | n + 1, h => by rw [ctsW, ctsW, ctsW_congr (fun i hi => h i (by omega)), (h n (Nat.lt_succ_self _)).1, (h n (Nat.lt_succ_self _)).2]
theorem infoCt : (Tryz.prog.info? 54).map (fun i => (i.zero, i.size, i.bytes)) = some (some (.agg zC.toArray), 34, 416) := by kernel_rfl
theorem wp_appCt {o : Oper} {a0 : Act} {K : Act → World → Prop} {Q : Exit → Act → World → Prop} {w : World} (s x : Operand)
  (ho : o.op = .call { callee := .builtin .append, args := #[s, x], argTypes := #[43, 43] })
  (base : Nat) (v : Value) (n : Nat) (c : Nat → Ct) (m : Nat → CtPl) (hs : a0.eval s = v) (hown : w.ownsRow base 54 34 v n (ctsW c m n))
  (b : Nat) (hx : a0.eval x = .slice (some ⟨b, 0, none⟩) 1 1) (hb : Blk w b (ctL (c n) (m n))) (hlen : n ≤ 1048576) (hbase : base ≤ w.heap.size)
  (h : ∀ v' w', w'.ownsRow base 54 34 v' (n + 1) (ctsW c m (n + 1)) → w.grownBy w' v.ownBlock → (v'.ownBlock = v.ownBlock ∨ v'.ownBlock = some w.heap.size) → K (a0.put o.dst v') w') : o.wp Tryz.prog a0 w K Q := by
 obtain ⟨i0, hi, hz0, hz1, hz2⟩ := info_parts infoCt
 obtain ⟨v', w', hr, h2, h3, -, h5⟩ := run_append_own_at (P := Tryz.prog) w base 43 o.type 54 i0 (.agg zC.toArray) 34 416 Tryz.underlying43 hi hz0 hz1 hz2 rfl (by decide) v n (ctsW c m n) hown ⟨b, 0, none⟩ 1 1 (ctL (c n) (m n)) (by rw [ctL_len]) (by
  intro j u hj
  have e : Addr.add ⟨b, 0, none⟩ j = ⟨b, 0 + j, none⟩ := by
   by_cases h0 : j = 0
   ·subst h0; simp [Addr.add]
   ·simp [Addr.add, h0]
  rw [e, Nat.zero_add]
  exact (hb j u hj).1) (by simp [ctL, kyL, exL, Value.oneCell']) (by unfold maxLen; omega) (by omega) hbase
 unfold Oper.wp execOp
 simp only [ho, resolve, invoke, builtin, Sem.run_bind, Sem.run_pure, Result.andThen_ok, List.map_toArray, List.map_cons, List.map_nil, hs, hx, hr]
 exact h v' w' h2 h3 h5
theorem wpList_appCt {ops : Array Oper} {rest : List Oper} {o : Oper} {a0 : Act} {Q : Exit → Act → World → Prop} {w : World} (hgd : o.guard = none) (s x : Operand)
  (ho : o.op = .call { callee := .builtin .append, args := #[s, x], argTypes := #[43, 43] })
  (base : Nat) (v : Value) (n : Nat) (c : Nat → Ct) (m : Nat → CtPl) (hs : a0.eval s = v) (hown : w.ownsRow base 54 34 v n (ctsW c m n))
  (b : Nat) (hx : a0.eval x = .slice (some ⟨b, 0, none⟩) 1 1) (hb : Blk w b (ctL (c n) (m n))) (hlen : n ≤ 1048576) (hbase : base ≤ w.heap.size)
  (h : ∀ v' w', w'.ownsRow base 54 34 v' (n + 1) (ctsW c m (n + 1)) → w.grownBy w' v.ownBlock → (v'.ownBlock = v.ownBlock ∨ v'.ownBlock = some w.heap.size) → wpList Tryz.prog ops Q rest (a0.put o.dst v') w') : wpList Tryz.prog ops Q (o :: rest) a0 w :=
 wpList_plain hgd fun K hK => wp_appCt s x ho base v n c m hs hown b hx hb hlen hbase fun v' w' h1 h2 h3 => hK _ _ (h v' w' h1 h2 h3)
theorem wpList_bslice {P : Program} {w w' : World} {ops : Array Oper} {rest : List Oper} {o : Oper} {a : Act} {Q : Exit → Act → World → Prop} (hw : Region.wanted o (yielded ops a.tmps) = true) (ty : TypeId) (x : Operand) (ho : o.op = .buildSlice ty 1 #[(0, x)]) (vx : Value) (hx : a.eval x = vx) (v : Value) (hl : (Instr.buildSlice ty 1 #[(0, vx)]).run P w = .ok v w')
  (h : wpList P ops Q rest (a.put o.dst v) w') : wpList P ops Q (o :: rest) a w := by
 subst hx
 rw [wpList]
 simp only [hw, if_true]
 refine Or.inl ?_
 unfold Oper.wp execOp
 have hp : (#[(0, x)].map fun (i, x) => (i, a.eval x)) = #[((0 : Nat), a.eval x)] := by simp
 simp only [ho, hp, Sem.run_bind, Sem.run_pure, Result.andThen_ok, hl]
 exact h
theorem bslice_ct (c : Ct) (m : CtPl) (W : World) : (Instr.buildSlice 43 1 #[(0, .agg (ctL c m).toArray)]).run Tryz.prog W = .ok (.slice (some ⟨W.heap.size, 0, none⟩) 1 1) (W.alloc (.cells (ctL c m).toArray 54)) := by kernel_rfl
def chC (c : Cnd) (np : Nat) (P : Nat → Nat) (i : Nat) : Ct := if i = 0 then c.c0 else if i < np then c.cp (P (i - 1)) else c.ca (P (np - 1))
def chM (m : CndPl) (np : Nat) (P : Nat → Nat) (i : Nat) : CtPl := if i = 0 then m.m0 else if i < np then m.mp (P (i - 1)) else m.ma (P (np - 1))
set_option maxHeartbeats 6400000 in
set_option maxRecDepth 100000 in
theorem l12Chain_any (c : Cnd) (m : CndPl) (w : World) (hI : CndIn w c m) (q : Plc) (np : Nat) (P : Nat → Nat) (hq : Seg w q.ad q.b q.off np (fun i => (P i : Int))) (h1 : 1 ≤ np) (hn : np ≤ 1048576) (hp : ∀ i, i + 1 < np → P i < c.np) (ha : P (np - 1) < c.na) :
  Calls Tryz.prog 24 #[.agg (ctL c.c0 m.m0).toArray, .slice m.pp.ad c.np m.pp.cap, .slice m.pa.ad c.na m.pa.cap, .slice q.ad np q.cap] w fun e w' => ∃ v, e = .returned v ∧ (∃ B, w.heap.size ≤ B ∧ w'.ownsRow B 54 34 v (np + 1) (ctsW (chC c np P) (chM m np P) (np + 1))) ∧ Ext w w' := by
 obtain ⟨V, hV⟩ : ∃ V, w.alloc (.cells (ctL c.c0 m.m0).toArray 54) = V := ⟨_, rfl⟩
 obtain ⟨B0, hE, -⟩ := box1 w (ctL c.c0 m.m0) 54 (w1 := V) (by rw [← hV]; exact Ext.refl _)
 have hld := run_ld (P := Tryz.prog) 54 (ctL c.c0 m.m0) V (by kernel_rfl) (by kernel_rfl) w.heap.size 0 (Blk.ld B0 0 _ (fun j v h => by rw [Nat.zero_add]; exact h))
 have hbs := bslice_ct c.c0 m.m0 V
 have H0 : Hid ((V.alloc (.cells (ctL c.c0 m.m0).toArray 54)).ownsRow V.heap.size 54 34 (.slice (some ⟨V.heap.size, 0, none⟩) 1 1) 1 (ctsW (chC c np P) (chM m np P) 1)) := hide (by
  refine ⟨by rw [ctsW_len], .inr ⟨V.heap.size, 1, (ctL c.c0 m.m0).toArray, rfl, Nat.le_refl _, heap_alloc_new V _, Nat.le_refl _, by decide, rfl, rfl⟩⟩)
 have HI := hide hI
 have Hq := hide hq
 have Hp := hide hp
 have Ha := hide ha
 have HE0 := hide (show Ext w (V.alloc (.cells (ctL c.c0 m.m0).toArray 54)) from hE.trans (Ext.alloc _ _))
 have HV := hide (Below.size hE)
 obtain ⟨U, hU⟩ : ∃ U, V.alloc (.cells (ctL c.c0 m.m0).toArray 54) = U := ⟨_, rfl⟩
 have HVU := hide (show V.heap.size ≤ U.heap.size by rw [← hU]; simp)
 rw [hU] at H0 HE0 hbs
 obtain ⟨L0, hL0⟩ : ∃ L, ctL c.c0 m.m0 = L := ⟨_, rfl⟩
 rw [hL0] at hld hbs hV hU ⊢
 have HN := hide (And.intro h1 hn)
 clear hI hq hp ha hE B0 hL0 hU h1 hn
 go_enter Tryz.func24, Tryz.ntmps24
 go_wp2_with (first | (refine wpList_ld (by first | rfl | simp [Region.wanted, yielded]) 54 _ rfl _ rfl _ hld ?_) | (refine wpList_bslice (by first | rfl | simp [Region.wanted, yielded]) 43 _ rfl _ (by go_simp) _ hbs ?_))
 clear hld hbs hV
 obtain ⟨h1, hn⟩ := HN.out
 go_loopw [9, 10] (fun v k wr => ∃ i : Nat, i + 1 ≤ np ∧ k = .int .i64 (i : Int) ∧ wr.ownsRow V.heap.size 54 34 v (i + 1) (ctsW (chC c np P) (chM m np P) (i + 1)) ∧ Ext w wr ∧ V.heap.size ≤ wr.heap.size) (fun _ k _ => np - (intOf k).toNat)
 case atStart => exact ⟨0, h1, rfl, H0.out, HE0.out, HVU.out⟩
 case round =>
  clear H0 HE0 HVU
  obtain ⟨i, hi, rfl, hO, hE, hz⟩ := hrel
  have HO := hide hO
  have HE := hide hE
  have Hz := hide hz
  have hat := Hq.out.at' (by omega)
  by_cases hlt : i + 1 < np
  ·have hin : (i : Int) + 1 < (np : Int) := by omega
   have hin0 : (i : Int) < (np : Int) := by omega
   have c1 := (Hq.out.of_all hE).cell i (by omega)
   have hpl := Hp.out i hlt
   have hpt := HI.out.p.at' (by omega)
   have hldp := (HI.out.p.ext hE).ld (P i) hpl
   have hch : ctL (chC c np P (i + 1)) (chM m np P (i + 1)) = ctL (c.cp (P i)) (m.mp (P i)) := by
    unfold chC chM
    have e0 : ¬ (i + 1 = 0) := by omega
    simp only [if_neg e0, if_pos hlt, Nat.add_sub_cancel]
   have hbs := bslice_ct (c.cp (P i)) (m.mp (P i)) wr
   have HB : Hid (Blk (wr.alloc (.cells (ctL (c.cp (P i)) (m.mp (P i))).toArray 54)) wr.heap.size (ctL (chC c np P (i + 1)) (chM m np P (i + 1)))) := hide (by rw [hch]; exact Blk.alloc wr _ _)
   have HOa : Hid ((wr.alloc (.cells (ctL (c.cp (P i)) (m.mp (P i))).toArray 54)).ownsRow V.heap.size 54 34 u9 (i + 1) (ctsW (chC c np P) (chM m np P) (i + 1))) := hide (HO.out.alloc _)
   obtain ⟨U, hU⟩ : ∃ U, wr.alloc (.cells (ctL (c.cp (P i)) (m.mp (P i))).toArray 54) = U := ⟨_, rfl⟩
   have HEU : Hid (Ext w U ∧ V.heap.size ≤ U.heap.size) := hide (by rw [← hU]; exact ⟨hE.trans (Ext.alloc _ _), by simp; omega⟩)
   rw [hU] at hbs HB HOa
   obtain ⟨t, ht⟩ : ∃ t, P i = t := ⟨_, rfl⟩
   rw [ht] at hpl hldp hbs
   simp only [ht] at c1
   have hpi : (t : Int) < (c.np : Int) := by omega
   obtain ⟨L1, hL1⟩ : ∃ L, ctL (c.cp t) (m.mp t) = L := ⟨_, rfl⟩
   rw [hL1] at hldp hbs
   clear hO hE hz hch hU ht hL1
   go_wp2_with (first | (refine wpList_ld (by first | rfl | simp [Region.wanted, yielded]) 54 _ rfl _ rfl _ hldp ?_) | (refine wpList_bslice (by first | rfl | simp [Region.wanted, yielded]) 43 _ rfl _ (by go_simp) _ hbs ?_) | (at_builtin; refine wpList_appCt rfl _ _ rfl V.heap.size u9 (i + 1) (chC c np P) (chM m np P) rfl HOa.out wr.heap.size rfl HB.out (by omega) HEU.out.2 ?_; intro v' w4 hown hgrow hor))
   have HN2 : Hid (w4.ownsRow V.heap.size 54 34 v' (i + 1 + 1) (ctsW (chC c np P) (chM m np P) (i + 1 + 1)) ∧ Ext w w4 ∧ V.heap.size ≤ w4.heap.size) := hide ⟨hown, HEU.out.1.grown hgrow (Nat.le_trans HV.out HEU.out.2) (fun j hj => Nat.le_trans HV.out (HOa.out.lt j hj).1), Nat.le_trans HEU.out.2 (by first | exact hgrow.size | exact hgrow.1 | exact hgrow.2 | exact hgrow.le)⟩
   clear hown hgrow hor HO HOa HB HEU c1
   go_wp2
   try rw [← hpt]
   try rw [← hat]
   go_roundw
   case rel => exact ⟨i + 1, hlt, by go_num, HN2.out.1, HN2.out.2.1, HN2.out.2.2⟩
   case measure => simp [intOf]; omega
  ·obtain rfl : np = i + 1 := by omega
   have hin0 : (i : Int) < ((i + 1 : Nat) : Int) := by omega
   have c1 := (Hq.out.of_all hE).cell i (by omega)
   have hpl : P i < c.na := Ha.out
   have hpt := HI.out.a.at' (by omega)
   have hldp := (HI.out.a.ext hE).ld (P i) hpl
   have hch : ctL (chC c (i + 1) P (i + 1)) (chM m (i + 1) P (i + 1)) = ctL (c.ca (P i)) (m.ma (P i)) := by
    unfold chC chM
    have e0 : ¬ (i + 1 = 0) := by omega
    simp only [if_neg e0, if_neg (Nat.lt_irrefl _), Nat.add_sub_cancel]
   have hbs := bslice_ct (c.ca (P i)) (m.ma (P i)) wr
   have HB : Hid (Blk (wr.alloc (.cells (ctL (c.ca (P i)) (m.ma (P i))).toArray 54)) wr.heap.size (ctL (chC c (i + 1) P (i + 1)) (chM m (i + 1) P (i + 1)))) := hide (by rw [hch]; exact Blk.alloc wr _ _)
   have HOa : Hid ((wr.alloc (.cells (ctL (c.ca (P i)) (m.ma (P i))).toArray 54)).ownsRow V.heap.size 54 34 u9 (i + 1) (ctsW (chC c (i + 1) P) (chM m (i + 1) P) (i + 1))) := hide (HO.out.alloc _)
   obtain ⟨U, hU⟩ : ∃ U, wr.alloc (.cells (ctL (c.ca (P i)) (m.ma (P i))).toArray 54) = U := ⟨_, rfl⟩
   have HEU : Hid (Ext w U ∧ V.heap.size ≤ U.heap.size) := hide (by rw [← hU]; exact ⟨hE.trans (Ext.alloc _ _), by simp; omega⟩)
   rw [hU] at hbs HB HOa
   obtain ⟨t, ht⟩ : ∃ t, P i = t := ⟨_, rfl⟩
   rw [ht] at hpl hldp hbs
   simp only [ht] at c1
   have hpi : (t : Int) < (c.na : Int) := by omega
   have hidx : ((i + 1 : Nat) : Int) - 1 = (i : Int) := by omega
   have hidx2 : (i : Int) + 1 - 1 = (i : Int) := by omega
   obtain ⟨L1, hL1⟩ : ∃ L, ctL (c.ca t) (m.ma t) = L := ⟨_, rfl⟩
   rw [hL1] at hldp hbs
   clear hO hE hz hch hU ht hL1
   go_wp2_with (first | (refine wpList_ld (by first | rfl | simp [Region.wanted, yielded]) 54 _ rfl _ rfl _ hldp ?_) | (refine wpList_bslice (by first | rfl | simp [Region.wanted, yielded]) 43 _ rfl _ (by go_simp) _ hbs ?_) | (at_builtin; refine wpList_appCt rfl _ _ rfl V.heap.size u9 (i + 1) (chC c (i + 1) P) (chM m (i + 1) P) rfl HOa.out wr.heap.size rfl HB.out (by omega) HEU.out.2 ?_; intro v' w4 hown hgrow hor))
   have HN2 : Hid (w4.ownsRow V.heap.size 54 34 v' (i + 1 + 1) (ctsW (chC c (i + 1) P) (chM m (i + 1) P) (i + 1 + 1)) ∧ Ext w w4) := hide ⟨hown, HEU.out.1.grown hgrow (Nat.le_trans HV.out HEU.out.2) (fun j hj => Nat.le_trans HV.out (HOa.out.lt j hj).1)⟩
   clear hown hgrow hor HO HOa HB HEU c1
   go_wp2
   go_ret
   exact ⟨v', rfl, ⟨V.heap.size, HV.out, HN2.out.1⟩, HN2.out.2⟩
end
end Go.Proofs.YtfhiiakoilkbkaaGreatDoor
