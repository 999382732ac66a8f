/- Walks: the program's allOk over numbers with a closure that holds one box. Walks: the program's chain of certificates, and ChainOf. Walks: the program's ChainOf. A list of numbers that came in, opened. The law FnExactChainOf. -/
import Derived.Test.YtfhiiakoilkbkaaGreatDoorCv50
import Derived.Test.YtfhiiakoilkbkaaGreatDoorCv42
namespace Go.Proofs.YtfhiiakoilkbkaaGreatDoor
set_option linter.unusedVariables false
set_option linter.unusedSimpArgs false
section
open Go.RowKit
set_option maxHeartbeats 800000 in
theorem aokIc1_any (G B : Nat) (cv : Value) (hG : ∀ (args : Array Value) (w : World), (callFunc G args).run Tryz.prog w = .ok (.enter G args) w) (r : Bool) (v : Value) (w : World) (hc : w.cell? ⟨B, 0, none⟩ = some (.func (.func G) #[] #[cv]))
  (HC : Hid (Calls Tryz.prog G #[v, cv] w fun e w' => e = .returned (.bool r) ∧ Ext w w')) :
  Calls Tryz.prog 87 #[v, .pointer (some ⟨B, 0, none⟩)] w fun e w' => e = .returned (.bool (!r)) ∧ Ext w w' := by
 go_enter Tryz.func87, Tryz.ntmps87
 go_wp2_with fail
 refine HC.out.mono ?_
 rintro e w1 ⟨rfl, hE1⟩
 have HE1 := hide hE1
 clear hE1
 go_wp2
 go_ret
 exact ⟨rfl, HE1.out⟩
set_option maxHeartbeats 1600000 in
theorem aokIc_any (G : Nat) (cv : Value) (hG : ∀ (args : Array Value) (w : World), (callFunc G args).run Tryz.prog w = .ok (.enter G args) w) (p : Nat → Bool) (most : Nat) (a : Option Addr) (b off n cap : Nat) (v : Nat → Value) (w : World) (hs : VSeg w a b off n v) (hn : n ≤ 1048576) (hm : most ≤ 1048576)
  (HC : Hid (∀ i, i < n → ∀ W, Ext w W → Calls Tryz.prog G #[v i, cv] W fun e w' => e = .returned (.bool (p i)) ∧ Ext W w')) :
  Calls Tryz.prog 64 #[.slice a n cap, .int .i64 (most : Int), .func (.func G) #[] #[cv]] w fun e w' => e = .returned (.bool (decide (n ≤ most) && allB p n)) ∧ Ext w w' := by
 obtain ⟨V, hV⟩ : ∃ V, w.alloc (.cells #[.func (.func G) #[] #[cv]] 110) = V := ⟨_, rfl⟩
 obtain ⟨B0, hE, hl⟩ := box1 w [.func (.func G) #[] #[cv]] 110 (w1 := V) (by rw [← hV]; exact Ext.refl _)
 have HB := hide B0
 have HE := hide hE
 have HX := hide (conI_any 87 (.pointer (some ⟨w.heap.size, 0, none⟩)) (fun _ _ => by kernel_rfl) (fun i => !p i) a b off n cap v V (hs.of_all hE) hn
  (hide fun i hi W hW => aokIc1_any G w.heap.size cv hG (p i) (v i) W ((Blk.ext HB.out hW (by omega)) 0 _ rfl).1 (hide (HC.out i hi W (Ext.trans hE hW)))))
 have HR : Hid (allB p n = !anyB (fun i => !p i) n) := rfl
 rw [HR.out]
 generalize anyB (fun i => !p i) n = R at HX ⊢
 clear B0 hE hs hl HR HC hG
 by_cases h : n ≤ most
 ·have h1 : (n : Int) ≤ (most : Int) := by omega
  rw [decide_eq_true h, Bool.true_and]
  clear h
  go_enter Tryz.func64, Tryz.ntmps64
  go_wp2_with fail
  refine HX.out.mono ?_
  rintro e w1 ⟨rfl, hE1⟩
  have HE1 := hide hE1
  clear hE1
  go_wp2
  go_ret
  exact ⟨rfl, Ext.trans HE.out HE1.out⟩
 ·have h1 : ¬ (n : Int) ≤ (most : Int) := by omega
  rw [decide_eq_false h, Bool.false_and]
  clear h
  go_enter Tryz.func64, Tryz.ntmps64
  go_wp2
  go_ret
  exact ⟨rfl, HE.out⟩
set_option maxHeartbeats 800000 in
theorem inPool_any (B np : Nat) (ad : Option Addr) (cap : Nat) (t : Int) (w : World) (hc : w.cell? ⟨B, 34, none⟩ = some (.slice ad np cap)) (hn : np ≤ 1048576) :
  Calls Tryz.prog 62 #[.int .i64 t, .pointer (some ⟨B, 0, none⟩)] w fun e w' => e = .returned (.bool (inB t 0 ((np : Int) - 1))) ∧ Ext w w' := by
 have HI := hide (inRange_any t 0 ((np : Int) - 1))
 have h1 : -9223372036854775808 ≤ (np : Int) - 1 := by omega
 have h2 : (np : Int) - 1 ≤ 9223372036854775807 := by omega
 go_enter Tryz.func62, Tryz.ntmps62
 go_wp2_with fail
 refine (HI.out _).mono ?_
 rintro e w1 ⟨rfl, hw⟩
 obtain rfl := hw.symm
 go_wp2
 go_ret
 exact ⟨rfl, Ext.refl _⟩
theorem has_succ (np na l : Nat) (f : Nat → Int) : hasB np na (l + 1) f = ((decide (l ≤ 4) && allB (fun i => inB (f i) 0 ((np : Int) - 1)) l) && inB (f l) 0 ((na : Int) - 1)) := by
 rw [Bool.eq_iff_iff]
 unfold hasB
 simp only [Bool.and_eq_true, decide_eq_true_eq, allB_iff]
 constructor
 ·rintro ⟨⟨h1, h2⟩, h3⟩
  refine ⟨⟨by omega, fun i hi => ?_⟩, ?_⟩
  ·have := h3 i (by omega)
   unfold plaB at this
   rwa [if_neg (by omega)] at this
  ·have := h3 l (by omega)
   unfold plaB at this
   rwa [if_pos rfl] at this
 ·rintro ⟨⟨h1, h2⟩, h3⟩
  refine ⟨⟨by omega, by omega⟩, fun i hi => ?_⟩
  unfold plaB
  by_cases e : i = l
  ·subst e; rw [if_pos rfl]; exact h3
  ·rw [if_neg (by omega)]; exact h2 i (by omega)
set_option maxHeartbeats 6400000 in
set_option maxRecDepth 100000 in
theorem hasPlaces_any (c : Cnd) (m : CndPl) (B : Nat) (ad : Option Addr) (b off n cap : Nat) (f : Nat → Int) (w : World) (hq : Seg w ad b off n f) (hn : n ≤ 1048576) (hc : n ≤ cap) (hp : c.np ≤ 1048576) (ha : c.na ≤ 1048576) :
  Calls Tryz.prog 32 #[.agg (cdL c m B).toArray, .slice ad n cap] w fun e w' => e = .returned (.bool (hasB c.np c.na n f)) ∧ Ext w w' := by
 obtain ⟨V, hV⟩ : ∃ V, w.alloc (.cells (cdL c m B).toArray 79) = V := ⟨_, rfl⟩
 obtain ⟨B0, hE, -⟩ := box1 w (cdL c m B) 79 (w1 := V) (by rw [← hV]; exact Ext.refl _)
 have hlt := Blk.lt B0 (by simp [cdL, ctL, kyL, exL])
 have HE := hide hE
 have c34 : ∀ W, Ext V W → W.cell? ⟨w.heap.size, 34, none⟩ = some (.slice m.pp.ad c.np m.pp.cap) := fun W h => ((B0.ext h hlt) 34 _ rfl).1
 have k35 := cell_regrown (B0 35 _ rfl).1
 obtain ⟨L, hL⟩ : ∃ L, cdL c m B = L := ⟨_, rfl⟩
 rw [hL] at hV ⊢
 by_cases h0 : n = 0
 ·subst h0
  rw [show hasB c.np c.na 0 f = false from rfl]
  clear c34 k35 B0 hL hE hlt hq
  go_enter Tryz.func32, Tryz.ntmps32
  go_wp2_with fail
  refine wp_region_quiet_below (by kernel_rfl) (by kernel_rfl) ?_
  repeat (first | go_big_quiet_step (fail) | quiet_step (fail))
  refine wpQuiet_nil ?_
  intro _ hw'
  obtain ⟨⟨dq, osq⟩, hw''⟩ := hw'
  subst hw''
  have HE1 : Hid (Ext V (Sort.grow (redrawn V dq) osq)) := hide (below_regrown V dq osq)
  go_wp2
  go_ret
  exact ⟨rfl, HE.out.trans HE1.out⟩
 obtain ⟨l, rfl⟩ : ∃ l, n = l + 1 := ⟨n - 1, by omega⟩
 have HA : Hid (∀ d os, Calls Tryz.prog 64 #[.slice ad l cap, .int .i64 4, .func (.func 62) #[] #[.pointer (some ⟨w.heap.size, 0, none⟩)]] (Sort.grow (redrawn V d) os) fun e w'' => e = .returned (.bool (decide (l ≤ 4) && allB (fun i => inB (f i) 0 ((c.np : Int) - 1)) l)) ∧ ∃ p : Regrown, w'' = Sort.grow (redrawn V p.d) p.os) := hide (fun d os => Calls.regrown_of (aokIc_any 62 (.pointer (some ⟨w.heap.size, 0, none⟩)) (fun _ _ => by kernel_rfl) (fun i => inB (f i) 0 ((c.np : Int) - 1)) 4 ad b off l cap (fun i => .int .i64 (f i)) _ ⟨fun h => hq.at' (by omega), fun i hi => ((hq.of_all hE).of_all (below_regrown V d os)).cell i (by omega)⟩ (by omega) (by decide) (hide fun i hi W hW => inPool_any w.heap.size c.np m.pp.ad m.pp.cap (f i) W (c34 W (Ext.trans (below_regrown V d os) hW)) hp)))
 have HR : Hid (∀ d os, Calls Tryz.prog 63 #[.int .i64 (f l), .int .i64 0, .int .i64 ((c.na : Int) - 1)] (Sort.grow (redrawn V d) os) fun e w'' => e = .returned (.bool (inB (f l) 0 ((c.na : Int) - 1))) ∧ ∃ p : Regrown, w'' = Sort.grow (redrawn V p.d) p.os) := hide (fun d os => Calls.regrown_of ((inRange_any (f l) 0 ((c.na : Int) - 1) _).mono fun e w' ⟨h1, h2⟩ => ⟨h1, h2 ▸ Ext.refl _⟩))
 rw [has_succ]
 have hat := hq.at' (by omega)
 have kc := cell_regrown ((hq.of_all hE).cell l (by omega))
 subst hat
 have hl0 : (0 : Int) ≤ (l : Int) := by omega
 have hlc : (l : Int) ≤ (cap : Int) := by omega
 have hll : (l : Int) < ((l + 1 : Nat) : Int) := by omega
 have hll2 : (l : Int) < (l : Int) + 1 := by omega
 have hx1 : ((l + 1 : Nat) : Int) - 1 = (l : Int) := by omega
 have hx2 : (l : Int) + 1 - 1 = (l : Int) := by omega
 have hw1 : wrap64 ((c.na : Int) - 1) = (c.na : Int) - 1 := by unfold wrap64; omega
 have hw2 : IntKind.i64.wrap ((c.na : Int) - 1) = (c.na : Int) - 1 := by rw [IntKind.wrap_i64]; omega
 obtain ⟨t, ht⟩ : ∃ t, f l = t := ⟨_, rfl⟩
 rw [ht] at kc HR ⊢
 generalize (decide (l ≤ 4) && allB (fun i => inB (f i) 0 ((c.np : Int) - 1)) l) = q1 at HA ⊢
 generalize inB t 0 ((c.na : Int) - 1) = q2 at HR ⊢
 clear c34 B0 hL hE hlt hq h0 ht
 cases q1
 ·go_enter Tryz.func32, Tryz.ntmps32
  go_wp2_with fail
  refine wp_region_quiet_below (by kernel_rfl) (by kernel_rfl) ?_
  repeat (first | go_big_quiet_step (first | (go_at_call 64; exact HA.out _ _)) | quiet_step (first | (go_at_call 64; exact HA.out _ _)))
  refine wpQuiet_nil ?_
  intro _ hw'
  obtain ⟨⟨dq, osq⟩, hw''⟩ := hw'
  subst hw''
  have HE1 : Hid (Ext V (Sort.grow (redrawn V dq) osq)) := hide (below_regrown V dq osq)
  go_wp2
  go_ret
  exact ⟨rfl, HE.out.trans HE1.out⟩
 ·go_enter Tryz.func32, Tryz.ntmps32
  go_wp2_with fail
  refine wp_region_quiet_below (by kernel_rfl) (by kernel_rfl) ?_
  repeat (first | go_big_quiet_step (first | (go_at_call 64; exact HA.out _ _) | (go_at_call 63; exact HR.out _ _)) | quiet_step (first | (go_at_call 64; exact HA.out _ _) | (go_at_call 63; exact HR.out _ _)))
  refine wpQuiet_nil ?_
  intro _ hw'
  obtain ⟨⟨dq, osq⟩, hw''⟩ := hw'
  subst hw''
  have HE1 : Hid (Ext V (Sort.grow (redrawn V dq) osq)) := hide (below_regrown V dq osq)
  go_wp2
  go_ret
  exact ⟨by cases q2 <;> rfl, HE.out.trans HE1.out⟩
theorem wp_bslice {P : Program} {w w' : World} {o : Oper} {a : Act} {K : Act → World → Prop} {Q : Exit → Act → World → Prop} (ty : TypeId) (x : Operand) (ho : o.op = .buildSlice ty 1 #[(0, x)]) (vx : Value) (hx : a.eval x = vx) (v : Value) (hl : (Instr.buildSlice ty 1 #[(0, vx)]).run P w = .ok v w') (h : K (a.put o.dst v) w') : o.wp P a w K Q := by
 subst hx
 unfold Oper.wp execOp
 have hp : (#[(0, x)].map fun (i, x) => (i, a.eval x)) = #[((0 : Nat), a.eval x)] := by simp
 simp only [ho, hp, Sem.run_bind, Sem.run_pure, Result.andThen_ok, hl]
 exact h
set_option maxHeartbeats 12800000 in
set_option maxRecDepth 100000 in
theorem chainOf_any (c : Cnd) (m : CndPl) (D : Nat) (w : World) (hI : CndIn w c m) (ad : Option Addr) (b off cap : Nat) (l : Nat) (P : Nat → Nat) (hq : Seg w ad b off (l + 1) (fun i => (P i : Int))) (hn : l + 1 ≤ 5) (hcap : l + 1 ≤ cap) (hp : ∀ i, i < l → P i < c.np) (ha : P l < c.na) :
  Calls Tryz.prog 34 #[.agg (cdL c m D).toArray, .slice ad (l + 1) cap] w fun e w' => ∃ v, e = .returned v ∧ (∃ B, w.heap.size ≤ B ∧ w'.ownsRow B 54 34 v (l + 2) (ctsW (chC c (l + 1) P) (chM m (l + 1) P) (l + 2))) ∧ Ext w w' := by
 obtain ⟨V, hV⟩ : ∃ V, w.alloc (.cells (cdL c m D).toArray 79) = V := ⟨_, rfl⟩
 obtain ⟨B0, hE, -⟩ := box1 w (cdL c m D) 79 (w1 := V) (by rw [← hV]; exact Ext.refl _)
 have hlt := Blk.lt B0 (by simp [cdL, ctL, kyL, exL])
 have hld := run_ld (P := Tryz.prog) 54 (ctL c.c0 m.m0) V (by kernel_rfl) (by kernel_rfl) w.heap.size 0 (Blk.ld B0 0 _ (fun j v h => by
  rw [Nat.zero_add]
  have hj := (List.getElem?_eq_some_iff.1 h).1
  show (ctL c.c0 m.m0 ++ _)[j]? = some v
  rw [List.getElem?_append_left hj]
  exact h))
 have hbs := bslice_ct c.c0 m.m0 V
 have H0 : Hid ((V.alloc (.cells (ctL c.c0 m.m0).toArray 54)).ownsRow V.heap.size 54 34 (.slice (some ⟨V.heap.size, 0, none⟩) 1 1) 1 (ctsW (chC c (l + 1) P) (chM m (l + 1) P) 1)) := hide (by
  refine ⟨by rw [ctsW_len], .inr ⟨V.heap.size, 1, (ctL c.c0 m.m0).toArray, rfl, Nat.le_refl _, heap_alloc_new V _, Nat.le_refl _, by decide, rfl, rfl⟩⟩)
 have HI := hide hI
 have Hq := hide hq
 have Hp := hide hp
 have Ha := hide ha
 have HB := hide B0
 have HL := hide hlt
 have HEV := hide hE
 have HV := hide (Below.size hE)
 obtain ⟨U, hU⟩ : ∃ U, V.alloc (.cells (ctL c.c0 m.m0).toArray 54) = U := ⟨_, rfl⟩
 have HVU : Hid (Ext V U) := hide (by rw [← hU]; exact Ext.alloc _ _)
 rw [hU] at H0 hbs
 obtain ⟨L0, hL0⟩ : ∃ L, ctL c.c0 m.m0 = L := ⟨_, rfl⟩
 rw [hL0] at hld hbs hU
 obtain ⟨L9, hL9⟩ : ∃ L, cdL c m D = L := ⟨_, rfl⟩
 rw [hL9] at hV ⊢
 have HN := hide (And.intro hn hcap)
 have c34 : ∀ W, Ext V W → W.cell? ⟨w.heap.size, 34, none⟩ = some (.slice m.pp.ad c.np m.pp.cap) := fun W h => ((B0.ext h hlt) 34 _ rfl).1
 have c35 : ∀ W, Ext V W → W.cell? ⟨w.heap.size, 35, none⟩ = some (.slice m.pa.ad c.na m.pa.cap) := fun W h => ((B0.ext h hlt) 35 _ rfl).1
 have H34 := hide c34
 have H35 := hide c35
 obtain rfl := Hq.out.at' (by omega)
 have hx1 : ((l + 1 : Nat) : Int) - 1 = (l : Int) := by omega
 have hx2 : (l : Int) + 1 - 1 = (l : Int) := by omega
 have hl0 : (0 : Int) ≤ (l : Int) := by omega
 have hlc : (l : Int) ≤ (cap : Int) := by omega
 clear hI hq hp ha hE B0 hL0 hU hlt hL9 c34 c35 HB
 go_enter Tryz.func34, Tryz.ntmps34
 go_wp2_with (first | (refine wpList_ld (by first | rfl | simp [Region.wanted, yielded]) 54 _ rfl _ rfl _ hld ?_) | (refine wpList_bslice (by first | rfl | simp [Region.wanted, yielded]) 43 _ rfl _ (by go_simp) _ hbs ?_))
 clear hld hbs hV
 go_loopw [6, 8, 19] (fun v _ k wr => ∃ i : Nat, i ≤ l ∧ k = .int .i64 (i : Int) ∧ wr.ownsRow V.heap.size 54 34 v (i + 1) (ctsW (chC c (l + 1) P) (chM m (l + 1) P) (i + 1)) ∧ Ext V wr) (fun _ _ k _ => l - (intOf k).toNat)
 case atStart => exact ⟨0, Nat.zero_le _, rfl, H0.out, HVU.out⟩
 case round =>
  clear H0 HVU
  obtain ⟨i, hi, rfl, hO, hE⟩ := hrel
  have HO := hide hO
  have HE := hide hE
  by_cases hlt : i < l
  ·have hin : (i : Int) < (l : Int) := by omega
   have c1 := (Hq.out.of_all (HEV.out.trans hE)).cell i (by omega)
   have hpl := Hp.out i hlt
   have hpt := HI.out.p.at' (by omega)
   have hldp := (HI.out.p.ext (HEV.out.trans hE)).ld (P i) hpl
   have cb := H34.out wr hE
   rw [hpt] at cb
   have hch : ctL (chC c (l + 1) P (i + 1)) (chM m (l + 1) P (i + 1)) = ctL (c.cp (P i)) (m.mp (P i)) := by
    unfold chC chM
    have e0 : ¬ (i + 1 = 0) := by omega
    have e1 : i + 1 < l + 1 := by omega
    simp only [if_neg e0, if_pos e1, Nat.add_sub_cancel]
   have hbs := bslice_ct (c.cp (P i)) (m.mp (P i)) wr
   have HB : Hid (Blk (wr.alloc (.cells (ctL (c.cp (P i)) (m.mp (P i))).toArray 54)) wr.heap.size (ctL (chC c (l + 1) P (i + 1)) (chM m (l + 1) P (i + 1)))) := hide (by rw [hch]; exact Blk.alloc wr _ _)
   have HOa : Hid ((wr.alloc (.cells (ctL (c.cp (P i)) (m.mp (P i))).toArray 54)).ownsRow V.heap.size 54 34 u6 (i + 1) (ctsW (chC c (l + 1) P) (chM m (l + 1) P) (i + 1))) := hide (HO.out.alloc _)
   obtain ⟨U2, hU⟩ : ∃ U, wr.alloc (.cells (ctL (c.cp (P i)) (m.mp (P i))).toArray 54) = U := ⟨_, rfl⟩
   have HEU : Hid (Ext V U2 ∧ V.heap.size ≤ U2.heap.size ∧ i + 1 ≤ 1048576) := hide (by have := HN.out.1; have := Below.size hE; rw [← hU]; exact ⟨hE.trans (Ext.alloc _ _), by simp; omega, by omega⟩)
   rw [hU] at hbs HB HOa
   obtain ⟨t, ht⟩ : ∃ t, P i = t := ⟨_, rfl⟩
   rw [ht] at hpl hldp hbs
   simp only [ht] at c1
   have hpi : (t : Int) < (c.np : Int) := by omega
   obtain ⟨L1, hL1⟩ : ∃ L, ctL (c.cp t) (m.mp t) = L := ⟨_, rfl⟩
   rw [hL1] at hldp hbs
   clear hO hE hch hU ht hL1
   go_wp2_with (first | (refine wpList_ld (by first | rfl | simp [Region.wanted, yielded]) 54 _ rfl _ rfl _ hldp ?_) | (refine wpList_bslice (by first | rfl | simp [Region.wanted, yielded]) 43 _ rfl _ (by go_simp) _ hbs ?_) | (at_builtin; refine wpList_appCt rfl _ _ rfl V.heap.size u6 (i + 1) (chC c (l + 1) P) (chM m (l + 1) P) rfl HOa.out wr.heap.size rfl HB.out HEU.out.2.2 HEU.out.2.1 ?_; intro v' w4 hown hgrow hor))
   have HN2 : Hid (w4.ownsRow V.heap.size 54 34 v' (i + 1 + 1) (ctsW (chC c (l + 1) P) (chM m (l + 1) P) (i + 1 + 1)) ∧ Ext V w4) := hide ⟨hown, HEU.out.1.grown hgrow HEU.out.2.1 (fun j hj => (HOa.out.lt j hj).1)⟩
   clear hown hgrow hor HO HOa HB HEU c1 cb hldp hbs
   go_wp2
   try rw [← hpt]
   go_roundw
   case rel => exact ⟨i + 1, hlt, by go_num, HN2.out.1, HN2.out.2⟩
   case measure => simp [intOf]; omega
  ·obtain rfl : i = l := by omega
   have hll : (i : Int) < ((i + 1 : Nat) : Int) := by omega
   have hll2 : (i : Int) < (i : Int) + 1 := by omega
   have hX : ∀ q, q < V.heap.size → ¬ (V.heap.size ≤ q) := fun q h => by omega
   have z1 := Below.size HEV.out
   have c1 := fun p : ReC (fun q => V.heap.size ≤ q) wr => cell_reC ((Hq.out.of_all (HEV.out.trans hE)).cell i (by omega)) (hX _ (Nat.lt_of_lt_of_le (Hq.out.lt (by omega)) z1)) p
   have hpt := HI.out.a.at' (by have := Ha.out; omega)
   have cb := H35.out wr hE
   rw [hpt] at cb
   have c2 := fun p : ReC (fun q => V.heap.size ≤ q) wr => cell_reC cb (hX _ HL.out) p
   obtain ⟨t, ht⟩ : ∃ t, P i = t := ⟨_, rfl⟩
   have Ht := hide ht
   have hta : (t : Int) < (c.na : Int) := by have := Ha.out; omega
   have hldp : ∀ p : ReC (fun q => V.heap.size ≤ q) wr, (loadVar 54 ⟨m.pa.b, m.pa.off + t * 34, none⟩).run Tryz.prog p.val = .ok (.agg (ctL (c.ca t) (m.ma t)).toArray) p.val := fun p => by
    have hs := HI.out.a.ext (HEV.out.trans hE)
    have hb : p.val.heap[m.pa.b]? = wr.heap[m.pa.b]? := p.ok.block _ (hs.lt (by omega)) (hX _ (Nat.lt_of_lt_of_le (HI.out.a.lt (by omega)) z1))
    exact run_ld (P := Tryz.prog) 54 (ctL (c.ca t) (m.ma t)) p.val (by kernel_rfl) (by kernel_rfl) m.pa.b (m.pa.off + t * 34) (fun j v hv => (World.cell?_of_block (a := ⟨m.pa.b, m.pa.off + t * 34 + j, none⟩) hb).trans (hs.cell t (by omega) j v hv))
   simp only [ht] at c1
   have Hch : Hid (ctL (chC c (i + 1) P (i + 1)) (chM m (i + 1) P (i + 1)) = ctL (c.ca t) (m.ma t)) := hide (by
    unfold chC chM
    have e0 : ¬ (i + 1 = 0) := by omega
    simp only [if_neg e0, if_neg (Nat.lt_irrefl _), Nat.add_sub_cancel, ht])
   clear hO cb ht hE
   go_wp2_with fail
   refine anyK_begin (fun q => V.heap.size ≤ q) 12 rfl (by kernel_rfl) ?_
   refine anyK_take 0 9 3 rfl (by decide) (by kernel_rfl) (fun _ _ d _ _ h => by cases d <;> exact h) ?_
   repeat (refine headC_step (fun K hK => ?_); go_simp; refine hK _ ?_; clear hK K)
   refine head_ld (by first | rfl | simp [Region.wanted, yielded]) rfl (by go_simp) hldp ?_
   refine headC_nil ?_
   clear c1 c2 hldp
   refine anyK_one 9 (by kernel_rfl) ?_
   refine stepK_run rfl ?_
   intro wa ha K hK
   rw [if_pos (by first | rfl | simp [Region.wanted, yielded])]
   refine wp_bslice 43 _ rfl (.agg (ctL (c.ca t) (m.ma t)).toArray) (by go_simp) _ (bslice_ct (c.ca t) (m.ma t) wa) ?_
   have HB := hide (show Blk (wa.alloc (.cells (ctL (c.ca t) (m.ma t)).toArray 54)) wa.heap.size (ctL (chC c (i + 1) P (i + 1)) (chM m (i + 1) P (i + 1))) by rw [Hch.out]; exact Blk.alloc wa _ _)
   have HU := hide (show Ext wr (wa.alloc (.cells (ctL (c.ca t) (m.ma t)).toArray 54)) ∧ wa.heap.size < (wa.alloc (.cells (ctL (c.ca t) (m.ma t)).toArray 54)).heap.size from ⟨ha.trans (Ext.alloc _ _), by simp⟩)
   obtain ⟨bb, hbb⟩ : ∃ b, wa.heap.size = b := ⟨_, rfl⟩
   obtain ⟨wb, hwb⟩ : ∃ W, wa.alloc (.cells (ctL (c.ca t) (m.ma t)).toArray 54) = W := ⟨_, rfl⟩
   rw [hwb, hbb] at HB HU
   simp only [hwb, hbb]
   clear ha hwb hbb
   refine hK _ _ (Grw.of_ext HU.out.1) ?_
   clear hK K
   refine anyK_one 10 (by kernel_rfl) ?_
   refine stepK_run rfl ?_
   intro wc hc K hK
   have HB2 := hide (HB.out.ext hc HU.out.2)
   have HEc := hide (HU.out.1.trans hc)
   have HOc := hide (owns_extE HO.out HEc.out)
   rw [if_pos (by first | rfl | simp [Region.wanted, yielded])]
   refine wp_appCt _ _ rfl V.heap.size u6 (i + 1) (chC c (i + 1) P) (chM m (i + 1) P) (by first | rfl | go_simp) HOc.out bb (by first | rfl | go_simp) HB2.out (by have := HN.out.1; omega) (Below.size (HE.out.trans HEc.out)) ?_
   intro v' w4 hown hgrow hor
   have HN2 : Hid (w4.ownsRow V.heap.size 54 34 v' (i + 1 + 1) (ctsW (chC c (i + 1) P) (chM m (i + 1) P) (i + 1 + 1)) ∧ Ext V w4) := hide ⟨hown, (HE.out.trans HEc.out).grown hgrow (Below.size (HE.out.trans HEc.out)) (fun j hj => (HOc.out.lt j hj).1)⟩
   have HGr : Hid (Grw (fun q => V.heap.size ≤ q) wr w4) := hide (Grw.trans (Grw.of_ext HEc.out) ⟨hgrow.os, hgrow.tape, hgrow.output, hgrow.size, fun k hk hn => hgrow.block k hk (fun e => hn ((HOc.out.lt k e.symm).1))⟩)
   refine hK _ _ HGr.out ?_
   clear hK K hown hgrow hor HB2 HOc hc
   refine anyK_one 11 (by kernel_rfl) ?_
   refine stepK_run rfl ?_
   intro wd hd K hK
   go_simp
   refine hK _ _ (HGr.out.trans (Grw.of_ext hd)) ?_
   clear hK K
   refine anyK_done (by kernel_rfl) ?_ 0
   intro we he
   have HEe := hide (Ext.trans hd he)
   clear hd he
   go_wp2
   go_ret
   exact ⟨v', rfl, ⟨V.heap.size, HV.out, owns_extE HN2.out.1 HEe.out⟩, HEV.out.trans (HN2.out.2.trans HEe.out)⟩
theorem cps_none (w w' : World) (c : Nat → Ct) (m : Nat → CtPl) (g : Nat) : CpCs w w' 0 c ⟨some ⟨g, 0, none⟩, g, 0, 0⟩ m := fun w'' _ =>
 ⟨⟨⟨fun h => absurd h (Nat.lt_irrefl _), fun i h => absurd h (Nat.not_lt_zero _), fun i h => absurd h (Nat.not_lt_zero _)⟩, fun i h => absurd h (Nat.not_lt_zero _), fun i h => absurd h (Nat.not_lt_zero _), fun i i' r r' h => absurd h (Nat.not_lt_zero _), fun i r h => absurd h (Nat.not_lt_zero _)⟩, fun b hb => by
  rcases hb with ⟨h, -⟩ | ⟨i, r, h, -⟩
  ·exact absurd h (Nat.lt_irrefl _)
  ·exact absurd h (Nat.not_lt_zero _)⟩
theorem CpCs.up {w W w' : World} {n : Nat} {c : Nat → Ct} {q : Plc} {m : Nat → CtPl} (h : CpCs W w' n c q m) (e : Ext w W) : CpCs w w' n c q m := fun w'' k => by
 obtain ⟨h1, h2⟩ := h w'' (k.mono (Below.size e))
 exact ⟨h1, fun b hb => ⟨Nat.le_trans (Below.size e) (h2 b hb).1, (h2 b hb).2⟩⟩
theorem box_cd (L : List Value) (h : L.length = 37 ∧ ∀ v ∈ L, v.oneCell' = true) (W : World) : ∃ U, (Instr.storeAt 79 (.pointer (some ⟨W.heap.size, 0, none⟩)) (.agg L.toArray)).run Tryz.prog (W.alloc (.cells #[.int .i64 0, .slice none 0 0, .slice none 0 0, .int .i64 0, .int .i64 0, .int .i64 0, .slice none 0 0, .int .i64 0, .int .i64 0, .int .i64 0, .int .i64 0, .int .i64 0, .int .i64 0, .int .i64 0, .int .i64 0, .int .i64 0, .bool false, .int .i64 0, .int .i64 0, .int .i64 0, .int .i64 0, .int .i64 0, .int .i64 0, .int .i64 0, .int .i64 0, .bool false, .int .i64 0, .int .i64 0, .slice none 0 0, .slice none 0 0, .slice none 0 0, .slice none 0 0, .slice none 0 0, .slice none 0 0, .slice none 0 0, .slice none 0 0, .pointer none] 79)) = .ok () U ∧ Blk U W.heap.size L ∧ Ext W U ∧ U.heap.size = W.heap.size + 1 := by
 obtain ⟨hl, ho⟩ := h
 have hB := Blk.alloc W [.int .i64 0, .slice none 0 0, .slice none 0 0, .int .i64 0, .int .i64 0, .int .i64 0, .slice none 0 0, .int .i64 0, .int .i64 0, .int .i64 0, .int .i64 0, .int .i64 0, .int .i64 0, .int .i64 0, .int .i64 0, .int .i64 0, .bool false, .int .i64 0, .int .i64 0, .int .i64 0, .int .i64 0, .int .i64 0, .int .i64 0, .int .i64 0, .int .i64 0, .bool false, .int .i64 0, .int .i64 0, .slice none 0 0, .slice none 0 0, .slice none 0 0, .slice none 0 0, .slice none 0 0, .slice none 0 0, .slice none 0 0, .slice none 0 0, .pointer none] 79
 refine ⟨_, run_st (P := Tryz.prog) 79 L _ (by rw [hl]; kernel_rfl) ho W.heap.size 0 (Blk.st hB 0 _ (by rw [hl]; decide)), Blk.putAll1 (vs := L) hB (by rw [hl]; rfl), below_putL (Nat.le_refl _) _ 0 _ (Ext.alloc _ _), ?_⟩
 rw [size_putL]
 simp
set_option maxHeartbeats 12800000 in
set_option maxRecDepth 100000 in
theorem implChainOf_any (c : Cnd) (m : CndPl) (q : Plc) (n : Nat) (f : Nat → Int) (w : World) (hI : CndIn w c m) (hO : CndOk c) (hq : Seg w q.ad q.b q.off n f) (hn : n ≤ 1048576) (hcap : n ≤ q.cap) :
  Calls Tryz.prog 10 #[.agg (ctL c.c0 m.m0).toArray, .slice m.pp.ad c.np m.pp.cap, .slice m.pa.ad c.na m.pa.cap, .slice q.ad n q.cap] w fun e w' => ∃ (p : Plc) (m' : Nat → CtPl), e = .returned (.tuple #[.slice p.ad (ansN c n f) p.cap, .bool (ansB c n f)]) ∧ CpCs w w' (ansN c n f) (ansC c n f) p m' ∧ Ext w w' := by
 obtain ⟨V, hV⟩ : ∃ V, w.alloc (.cells (ctL c.c0 m.m0).toArray 54) = V := ⟨_, rfl⟩
 obtain ⟨B0, hE, -⟩ := box1 w (ctL c.c0 m.m0) 54 (w1 := V) (by rw [← hV]; exact Ext.refl _)
 have hld := run_ld (P := Tryz.prog) 54 (ctL c.c0 m.m0) V (by kernel_rfl) (by kernel_rfl) w.heap.size 0 (Blk.ld B0 0 _ (fun j v h => by rw [Nat.zero_add]; exact h))
 have HNw := hide (newCands_any c m V)
 have HOk : Hid (∀ B W, Ext V W → Calls Tryz.prog 31 #[.agg (cdL c m B).toArray] W fun e w' => e = .returned (.bool (cndB c)) ∧ Ext W w') := hide (fun B W h => candOk_any c m B W (hI.ext (hE.trans h)) hO)
 have HPl : Hid (∀ B W, Ext V W → Calls Tryz.prog 32 #[.agg (cdL c m B).toArray, .slice q.ad n q.cap] W fun e w' => e = .returned (.bool (hasB c.np c.na n f)) ∧ Ext W w') := hide (fun B W h => hasPlaces_any c m B q.ad q.b q.off n q.cap f W (hq.of_all (hE.trans h)) hn hcap hO.p.n1 hO.a.n1)
 have HCh : Hid (hasB c.np c.na n f = true → ∀ B W, Ext V W → Calls Tryz.prog 34 #[.agg (cdL c m B).toArray, .slice q.ad n q.cap] W fun e w' => ∃ p : Plc, e = .returned (.slice p.ad (n + 1) p.cap) ∧ CSeg w' p (n + 1) (ansC c n f) (chM m n (fun i => (f i).toNat)) ∧ Ext W w') := hide (fun hh B W h => by
  obtain ⟨h1, h5, hf, hp, ha⟩ := has_of hh
  obtain ⟨l, rfl⟩ : ∃ l, n = l + 1 := ⟨n - 1, by omega⟩
  have hI' := hI.ext (hE.trans h)
  refine (chainOf_any c m B W hI' q.ad q.b q.off q.cap l (fun i => (f i).toNat) ?_ h5 hcap (fun i hi => hp i (by omega)) ha).mono ?_
  ·exact ⟨hq.at', fun i hi => by rw [← hf i hi]; exact (hq.of_all (hE.trans h)).cell i hi⟩
  ·rintro e w' ⟨v, rfl, ⟨B, hB, hown⟩, hE2⟩
   obtain ⟨p, rfl, hs⟩ := cts_seg hown (ch_in (hI'.ext hE2) h1 hp ha)
   exact ⟨p, rfl, hs, hE2⟩)
 have HMp : Hid (hasB c.np c.na n f = true → ∀ (p : Plc) (mm : Nat → CtPl) (W : World), CSeg W p (n + 1) (ansC c n f) mm → Calls Tryz.prog 33 #[.slice p.ad (n + 1) p.cap, .func (.func 35) #[] #[]] W fun e w' => ∃ (q : Plc) (m' : Nat → CtPl), e = .returned (.slice q.ad (n + 1) q.cap) ∧ CpCs W w' (n + 1) (ansC c n f) q m' ∧ Ext W w') := hide (fun hh p mm W hs => by
  obtain ⟨h1, h5, hf, hp, ha⟩ := has_of hh
  exact mappedCerts_any p (n + 1) (ansC c n f) mm W hs (by omega) (ch_sm hO hp ha))
 have HE := hide hE
 have HA : Hid (ansB c n f = (cndB c && hasB c.np c.na n f)) := hide rfl
 have HCut : Hid (ansB c n f = false → ∀ (g : Nat) (W : World), Ext V W → ∃ (p : Plc) (m' : Nat → CtPl), (Ending.returned (.tuple #[.slice (some ⟨g, 0, none⟩) 0 0, .bool false])) = .returned (.tuple #[.slice p.ad (ansN c n f) p.cap, .bool (ansB c n f)]) ∧ CpCs w W (ansN c n f) (ansC c n f) p m' ∧ Ext w W) := hide (fun hb g W hW => by
  refine ⟨⟨some ⟨g, 0, none⟩, g, 0, 0⟩, m.mp, ?_, ?_, hE.trans hW⟩
  ·unfold ansN; rw [hb]; rfl
  ·unfold ansN; rw [hb]; exact cps_none _ _ _ _ _)
 obtain ⟨b0, hb0⟩ : ∃ b, cndB c = b := ⟨_, rfl⟩
 rw [hb0] at HOk
 have Hb0 := hide hb0
 obtain ⟨b1, hb1⟩ : ∃ b, hasB c.np c.na n f = b := ⟨_, rfl⟩
 rw [hb1] at HPl HCh HMp
 have Hb1 := hide hb1
 obtain ⟨L, hL⟩ : ∃ L, ctL c.c0 m.m0 = L := ⟨_, rfl⟩
 rw [hL] at HNw hld hV ⊢
 clear hI hO hq hE B0 hL hn hcap hb0 hb1
 go_enter Tryz.func10, Tryz.ntmps10
 go_wp2_with (first | (refine wpList_ld (by first | rfl | simp [Region.wanted, yielded]) 54 _ rfl _ rfl _ hld ?_))
 refine HNw.out.mono ?_
 rintro e W1 ⟨D, rfl, hE1⟩
 obtain ⟨U1, hst, hB, hEU, hsz⟩ := box_cd (cdL c m D) ⟨rfl, by simp [cdL, ctL, kyL, exL, Value.oneCell']⟩ W1
 have HB := hide hB
 have HEU := hide (hE1.trans hEU)
 have Hsz := hide (show W1.heap.size < U1.heap.size by omega)
 have HLd : Hid (∀ W, Ext U1 W → (loadVar 79 ⟨W1.heap.size, 0, none⟩).run Tryz.prog W = .ok (.agg (cdL c m D).toArray) W) := hide (fun W h => run_ld (P := Tryz.prog) 79 (cdL c m D) W (by kernel_rfl) (by kernel_rfl) W1.heap.size 0 (Blk.ld (hB.ext h (by omega)) 0 _ (fun j v h => by rw [Nat.zero_add]; exact h)))
 replace HOk := hide (HOk.out D)
 replace HPl := hide (HPl.out D)
 replace HCh := hide (fun h => HCh.out h D)
 have hldC := HLd.out _ (Ext.refl _)
 obtain ⟨L2, hL2⟩ : ∃ L, cdL c m D = L := ⟨_, rfl⟩
 rw [hL2] at HLd HOk HPl HCh hst hldC ⊢
 clear hB hE1 hEU hsz hL2 HNw hld
 go_wp2_with (first | (refine wpList_st (by first | rfl | simp [Region.wanted, yielded]) 79 _ _ rfl _ rfl _ rfl _ hst ?_) | (refine wpList_ld (by first | rfl | simp [Region.wanted, yielded]) 79 _ rfl _ rfl _ hldC ?_))
 clear hst hldC
 refine (HOk.out _ HEU.out).mono ?_
 rintro e W2 ⟨rfl, hE⟩
 have HX := hide hE
 have hldC := HLd.out _ hE
 clear hE HOk
 cases b0
 ·clear hldC
  go_wp2
  go_ret2
  exact HCut.out (by rw [HA.out, Hb0.out]; rfl) _ _ (HEU.out.trans (HX.out.trans (Ext.alloc _ _)))
 go_wp2_with (first | (refine wpList_ld (by first | rfl | simp [Region.wanted, yielded]) 79 _ rfl _ rfl _ hldC ?_))
 clear hldC
 refine (HPl.out _ (HEU.out.trans HX.out)).mono ?_
 rintro e W3 ⟨rfl, hE⟩
 replace HX := hide (HX.out.trans hE)
 have hldC := HLd.out _ HX.out
 clear hE HPl
 cases b1
 ·clear hldC
  go_wp2
  go_ret2
  exact HCut.out (by rw [HA.out, Hb1.out, Bool.and_false]) _ _ (HEU.out.trans (HX.out.trans (Ext.alloc _ _)))
 go_wp2_with (first | (refine wpList_ld (by first | rfl | simp [Region.wanted, yielded]) 79 _ rfl _ rfl _ hldC ?_))
 clear hldC
 refine (HCh.out (by first | rfl | trivial) _ (HEU.out.trans HX.out)).mono ?_
 rintro e W4 ⟨p, rfl, hs, hE⟩
 replace HX := hide (HX.out.trans hE)
 have HMx := hide (HMp.out (by first | rfl | trivial) p _ W4 hs)
 clear hE hs HCh HMp
 go_wp2_with fail
 refine HMx.out.mono ?_
 rintro e W5 ⟨q5, m5, rfl, hc, hE⟩
 have Hc := hide (hc.up (HE.out.trans (HEU.out.trans HX.out)))
 replace HX := hide (HX.out.trans hE)
 clear hc hE HMx
 go_wp2
 go_ret2
 have hA : ansB c n f = true := by rw [HA.out, Hb0.out, Hb1.out]; rfl
 have hN1 : ansN c n f = n + 1 := by unfold ansN; rw [hA]; rfl
 exact ⟨q5, m5, by rw [hN1, hA]; rfl, by rw [hN1]; exact Hc.out, HE.out.trans (HEU.out.trans HX.out)⟩
end
section
set_option maxRecDepth 100000
open Go.RowKit
open Go.ChangeShapes Go.WideShapes Go.ChangeAt
structure IlX where
 p : Plc
 n : Nat
 f : Nat → Int
structure IlIn (w : World) (X : IlX) : Prop where
 seg : Seg w X.p.ad X.p.b X.p.off X.n X.f
 small : X.n ≤ 9223372036854775807
section
variable {H : Type} {enc : TypeId × Value → H} {w : World} {base : Nat} {held : Bool}
theorem open_ilist {r : Reach} {b0 : Nat} {v : Value} {d : DataW H} {ps : List MemPlace} (hv : Value.okWide Tryz.prog w r b0 23 v) (h : DataW.Trod enc Tryz.prog w base (fun _ => true) held 23 v d ps) :
  ∃ X : IlX, v = .slice X.p.ad X.n X.p.cap ∧ IlIn w X := by
 obtain ⟨a', len', cap', rfl⟩ := okWide_slice Tryz.underlying23 hv
 obtain ⟨fuel, hf⟩ := h
 obtain ⟨p, n, f, hcs, hS, hn⟩ := open_intsC hf
 simp [Value.cells] at hcs
 obtain ⟨rfl, rfl, rfl⟩ := hcs
 exact ⟨⟨p, _, f⟩, rfl, hS, hn⟩
end
end
section
open Go.RowKit
theorem preS_term (f : Nat → Nat) : ∀ {n i : Nat}, i < n → f i ≤ preS f n
 | n + 1, i, h => by
  by_cases e : i = n
  ·subst e; exact Nat.le_add_left _ _
  ·exact Nat.le_trans (preS_term f (show i < n by omega)) (Nat.le_add_right _ _)
theorem preS_most {f : Nat → Nat} {b : Nat} : ∀ {n : Nat}, (∀ i, i < n → f i ≤ b) → preS f n ≤ n * b
 | 0, _ => Nat.zero_le _
 | n + 1, h => by
  have h1 := preS_most (n := n) (fun i hi => h i (by omega))
  have h2 := h n (Nat.lt_succ_self _)
  rw [Nat.succ_mul]
  simp only [preS]
  omega
set_option maxHeartbeats 1600000 in
theorem lawChainOf_long (L0 : List Value) (vp va : Value) (iad : Option Addr) (icap n : Nat) (w : World) (hn : ¬ n ≤ 1048576) :
  Calls Tryz.prog 3 #[.agg L0.toArray, vp, va, .slice iad n icap] w fun e w' => e = .returned (.bool true) ∧ Ext w w' := by
 have HE : Hid (Ext w (w.alloc (.cells L0.toArray 39))) := hide (Ext.alloc _ _)
 have hz : (1048576 : Int) < (n : Int) := by omega
 go_enter Tryz.func3, Tryz.ntmps3
 go_wp2
 go_ret
 exact ⟨rfl, HE.out⟩
set_option maxHeartbeats 1600000 in
theorem chg_of (c : Cnd) (m0 : CtPl) (p1 : Plc) (m1 : Nat → CtPl) (p2 : Plc) (m2 : Nat → CtPl) (p3 : Plc) (n : Nat) (f : Nat → Int) (w : World) (hO : CndOk c) (hI : CtIn w c.c0 m0) (h1 : CSeg w p1 c.np c.cp m1) (h2 : CSeg w p2 c.na c.ca m2) (h3 : Seg w p3.ad p3.b p3.off n f) (hn : n ≤ 1048576) (b0 : wC c.c0 ≤ 1048576) (b1 : preS (fun i => wC (c.cp i)) c.np ≤ 1048576) (b2 : preS (fun i => wC (c.ca i)) c.na ≤ 1048576) :
  ChG w (ctL c.c0 m0) (.slice p1.ad c.np p1.cap) (.slice p2.ad c.na p2.cap) (.slice p3.ad n p3.cap) c.c0 c.np c.cp c.na c.ca n f (ansN c n f) (ansC c n f) (ansB c n f) ((1 + mC c.c0 : Nat) : Int) ((kn c.cp (1 + mC c.c0) c.np : Nat) : Int) ((kn c.ca (kn c.cp (1 + mC c.c0) c.np) c.na : Nat) : Int) ((kn c.ca (kn c.cp (1 + mC c.c0) c.np) c.na + n : Nat) : Int) (kn (ansC c n f) 1 (ansN c n f)) := by
 have n1 := hO.p.n1
 have n2 := hO.a.n1
 have q0 := mC_le c.c0
 have q1 := kn_le c.cp (1 + mC c.c0) c.np
 have q2 := kn_le c.ca (kn c.cp (1 + mC c.c0) c.np) c.na
 have g : ansN c n f ≤ 6 ∧ (∀ i, i < ansN c n f → CtSm (ansC c n f i) 1048576) ∧ ∀ i, i < ansN c n f → wC (ansC c n f i) ≤ 1048576 := by
  unfold ansN
  by_cases e : ansB c n f = true
  ·rw [if_pos e]
   have e2 : hasB c.np c.na n f = true := by unfold ansB at e; rw [Bool.and_eq_true] at e; exact e.2
   obtain ⟨k1, k5, -, kp, ka⟩ := has_of e2
   refine ⟨by omega, fun i hi => ch_sm hO kp ka i hi, fun i hi => ?_⟩
   unfold ansC chC
   by_cases e0 : i = 0
   ·simp only [if_pos e0]; exact b0
   ·simp only [if_neg e0]
    by_cases e3 : i < n
    ·simp only [if_pos e3]; exact Nat.le_trans (preS_term (fun i => wC (c.cp i)) (kp (i - 1) (by omega))) b1
    ·simp only [if_neg e3]; exact Nat.le_trans (preS_term (fun i => wC (c.ca i)) ka) b2
  ·rw [if_neg e]
   exact ⟨Nat.zero_le _, fun i hi => absurd hi (Nat.not_lt_zero _), fun i hi => absurd hi (Nat.not_lt_zero _)⟩
 obtain ⟨g1, g2, g3⟩ := g
 have q3 := kn_le (ansC c n f) 1 (ansN c n f)
 have q4 : preS (fun i => wC (ansC c n f i)) (ansN c n f) ≤ ansN c n f * 1048576 := preS_most g3
 have gn : ansN c n f ≤ 1048576 := by omega
 have hg : kn (ansC c n f) 1 (ansN c n f) ≤ 1073741824 := by omega
 exact {
  tc := fun W hW => toC_any c.c0 m0 W (hI.ext hW) hO.s0
  tp := fun W hW => toV_any p1 c.np c.cp m1 W (h1.ext hW) n1 hO.p.sm
  ta := fun W hW => toV_any p2 c.na c.ca m2 W (h2.ext hW) n2 hO.a.sm
  ti := fun W hW => toI_any p3 n f W (h3.of_all hW) hn
  sp := fun W L v1 v2 v3 ⟨k0, e0, i0⟩ ⟨r1, k1, e1, i1⟩ ⟨r2, k2, e2, i2⟩ ⟨r3, e3, _, i3⟩ => by
   subst e0 e1 e2 e3
   exact (specChainOf_any c ⟨k0, r1, k1, r2, k2⟩ r3 n f W ⟨i0, i1, i2⟩ hO i3 hn).mono fun e w' ⟨p, m', a1, a2, a3⟩ => ⟨_, a1, ⟨p, m', rfl, a2⟩, a3⟩
  im := fun W L v1 v2 v3 ⟨k0, e0, i0⟩ ⟨r1, k1, e1, i1⟩ ⟨r2, k2, e2, i2⟩ ⟨r3, e3, hc, i3⟩ => by
   subst e0 e1 e2 e3
   exact (implChainOf_any c ⟨k0, r1, k1, r2, k2⟩ r3 n f W ⟨i0, i1, i2⟩ hO i3 hn hc).mono fun e w' ⟨p, m', a1, a2, a3⟩ => ⟨_, a1, owv_of a2, a3⟩
  ec := eqC_any c.c0 hO.s0
  ep := eqV_any c.np c.cp n1 hO.p.sm
  ea := eqV_any c.na c.ca n2 hO.a.sm
  eg := eqV_any (ansN c n f) (ansC c n f) gn g2
  ei := eqI_any n f hn
  mc := fun B T L W h => mkC_any c.c0 1 B T hO.s0 (by omega) L W h
  mp := fun B T v W h => mkV_any c.np c.cp (1 + mC c.c0) B T n1 hO.p.sm (by omega) v W h
  ma := fun B T v W h => mkV_any c.na c.ca (kn c.cp (1 + mC c.c0) c.np) B T n2 hO.a.sm (by omega) v W h
  mi := fun B T v W h => mkI_any n f (kn c.ca (kn c.cp (1 + mC c.c0) c.np) c.na) B T hn (by omega) v W h
  mg := fun B T v W h => mkG_any (ansN c n f) (ansC c n f) B T gn g2 hg v W h
  k4 := Int.natCast_nonneg _ }
theorem lawChainOf_any (X0 : CtM) (X1 X2 : CsM) (X3 : IlX) (w : World) (h0 : CertIn w X0) (h1 : CertsIn w X1) (h2 : CertsIn w X2) (h3 : IlIn w X3) :
  Calls Tryz.prog 3 #[.agg (ctL X0.c X0.m).toArray, .slice X1.p.ad X1.n X1.p.cap, .slice X2.p.ad X2.n X2.p.cap, .slice X3.p.ad X3.n X3.p.cap] w fun e w' => e = .returned (.bool true) ∧ Ext w w' := by
 by_cases hn : X3.n ≤ 1048576
 ·obtain ⟨ok, hok⟩ : ∃ ok : Ct → Bool, ∀ c, ok c = true ↔ KeyP c.k := ⟨fun c => Classical.choose (tell (KeyP c.k)), fun c => Classical.choose_spec (tell (KeyP c.k))⟩
  have hK : ∀ X : CsM, CertsIn w X → X.n ≤ 1048576 → (∀ i, i < X.n → CtSm (X.c i) 1048576) → ChOk X.n X.c (fun i => ok (X.c i)) := fun X hX a b => ⟨a, b, fun i hi => (hX.each i hi).ky (b i hi).k, fun i => hok (X.c i)⟩
  exact lawChainOf_at (ctL X0.c X0.m) _ _ X3.p.ad X3.p.cap X0.c X1.n X1.c X2.n X2.c X3.n X3.f _ _ _ _ _ _ _ _ (fun z => z + (wC X0.c : Nat) ≤ 1048576 ∧ CtSm X0.c 1048576)
   (fun z y => y + (X1.n : Int) + (preS (fun i => wC (X1.c i)) X1.n : Nat) ≤ z ∧ z ≤ 1048576 ∧ ∀ i, i < X1.n → CtSm (X1.c i) 1048576)
   (fun z y => y + (X2.n : Int) + (preS (fun i => wC (X2.c i)) X2.n : Nat) ≤ z ∧ z ≤ 1048576 ∧ ∀ i, i < X2.n → CtSm (X2.c i) 1048576) w rfl hn
   (hide fun W hW => szCert_sum X0.c X0.m 1048576 W (h0.ok.ext hW) h0.sm (by omega) (by omega))
   (hide fun z z0 z1 W hW => (szCertS_sum X1.p X1.n X1.c X1.m z W (h1.seg.ext hW) h1.small (fun i hi => (h1.each i hi).sm) z0 z1).mono fun e w' ⟨⟨y, a1, a2, a3, a4⟩, a5⟩ => ⟨⟨y, a1, a2, a3, fun h => ⟨(a4 h).1, z1, (a4 h).2.2⟩⟩, a5⟩)
   (hide fun z z0 z1 W hW => (szCertS_sum X2.p X2.n X2.c X2.m z W (h2.seg.ext hW) h2.small (fun i hi => (h2.each i hi).sm) z0 z1).mono fun e w' ⟨⟨y, a1, a2, a3, a4⟩, a5⟩ => ⟨⟨y, a1, a2, a3, fun h => ⟨(a4 h).1, z1, (a4 h).2.2⟩⟩, a5⟩)
   (hide fun z1 z2 z3 k3 ⟨a1, a2⟩ ⟨b1, b2, b3⟩ ⟨d1, d2, d3⟩ => chg_of ⟨X0.c, ok X0.c, X1.n, X1.c, fun i => ok (X1.c i), X2.n, X2.c, fun i => ok (X2.c i)⟩ X0.m X1.p X1.m X2.p X2.m X3.p X3.n X3.f w
    ⟨a2, h0.ky a2.k, hok X0.c, hK X1 h1 (by omega) b3, hK X2 h2 (by omega) d3⟩ h0.ok h1.seg h2.seg h3.seg hn (by show wC X0.c ≤ _; omega) (by show preS (fun i => wC (X1.c i)) X1.n ≤ _; omega) (by show preS (fun i => wC (X2.c i)) X2.n ≤ _; omega))
 ·exact lawChainOf_long _ _ _ _ _ _ w hn
end
end Go.Proofs.YtfhiiakoilkbkaaGreatDoor
