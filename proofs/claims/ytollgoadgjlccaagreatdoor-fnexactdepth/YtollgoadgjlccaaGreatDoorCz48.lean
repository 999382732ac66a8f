/- Walks: chains that are right, how many between are not own; Depth of both; the walk of the law FnExactDepth (written by mkdep.py). -/
import Derived.Laws.EntriesVeiled
import Derived.Test.YtollgoadgjlccaaGreatDoorCz45
import Derived.Test.YtollgoadgjlccaaGreatDoorCz47
namespace Go.Proofs.YtollgoadgjlccaaGreatDoor

section
set_option linter.unusedVariables false
set_option linter.unusedSimpArgs false
set_option maxRecDepth 100000

open Go.RowKit

set_option maxHeartbeats 3200000 in
theorem idxC_any (F : Nat) (cl : Value) (hF : ∀ (args : Array Value) (w : World), (callFunc F args).run Tryz.prog w = .ok (.enter F args) w) (r : Nat → Bool) (p : Plc) (n : Nat) (c : Nat → Ct) (m : Nat → CtPl) (w : World) (hs : CSeg w p n c m) (hn : n ≤ 1048576)
    (HC : Hid (∀ i, i < n → ∀ W, Ext w W → Calls Tryz.prog F #[.agg (ctL (c i) (m i)).toArray, cl] W fun e w' => e = .returned (.bool (r i)) ∧ Ext W w')) :
    Calls Tryz.prog 248 #[.slice p.ad n p.cap, .func (.func F) #[] #[cl]] w fun e w' => IdxQ (anyB r n) e ∧ Ext w w' := by
  obtain ⟨ad, b, off, cap⟩ := p
  dsimp only
  have Hs := hide hs
  obtain ⟨R, hR⟩ : ∃ R, R = anyB r n := ⟨_, rfl⟩
  rw [← hR]
  have HR := hide hR
  clear hs hR
  go_enter Tryz.func248, Tryz.ntmps248
  go_wp2
  go_loopw [8] (fun i wr => ∃ k : Nat, k ≤ n ∧ i = .int .i64 (k : Int) ∧ (∀ j, j < k → r j = false) ∧ Ext w wr) (fun i _ => n - (intOf i).toNat)
  case atStart => exact ⟨0, Nat.zero_le _, rfl, fun j hj => absurd hj (Nat.not_lt_zero _), Ext.refl _⟩
  case round =>
    obtain ⟨k, hk, rfl, hd, hE⟩ := hrel
    have HD := hide hd
    have HE := hide hE
    by_cases hlt : k < n
    · have hat := Hs.out.at' (by omega)
      dsimp only at hat
      subst hat
      have hld := (Hs.out.ext hE).ld k hlt
      dsimp only at hld
      have hkn : (k : Int) < (n : Int) := by omega
      have HX := hide (HC.out k hlt _ hE)
      obtain ⟨q, hq⟩ : ∃ q, r k = q := ⟨_, rfl⟩
      rw [hq] at HX
      have Hq := hide hq
      clear hd hE hq
      generalize ctL (c k) (m k) = L at HX hld
      go_wp2_with (refine wpList_ld (by first | rfl | simp [Region.wanted, yielded]) 50 _ rfl _ rfl _ hld ?_)
      refine HX.out.mono ?_
      rintro e w1 ⟨rfl, hE1⟩
      have HE1 := hide hE1
      clear hE1 hld
      cases q
      · go_wp2
        go_roundw
        case rel => exact ⟨k + 1, by omega, by go_num, fun j hj => by
                      by_cases e : j = k
                      · subst e; exact Hq.out
                      · exact HD.out j (by omega), Ext.trans HE.out HE1.out⟩
        case measure => simp [intOf]; omega
      · go_wp2
        go_ret
        exact ⟨⟨_, rfl, by rw [HR.out, anyB_yes hlt Hq.out]; exact decide_eq_true (Int.natCast_nonneg _)⟩, Ext.trans HE.out HE1.out⟩
    · obtain rfl : k = n := by omega
      clear hd hE
      go_wp2
      go_ret
      exact ⟨⟨_, rfl, by rw [HR.out, anyB_no HD.out]; rfl⟩, HE.out⟩

set_option maxHeartbeats 800000 in
theorem conC_any (F : Nat) (cl : Value) (hF : ∀ (args : Array Value) (w : World), (callFunc F args).run Tryz.prog w = .ok (.enter F args) w) (r : Nat → Bool) (p : Plc) (n : Nat) (c : Nat → Ct) (m : Nat → CtPl) (w : World) (hs : CSeg w p n c m) (hn : n ≤ 1048576)
    (HC : Hid (∀ i, i < n → ∀ W, Ext w W → Calls Tryz.prog F #[.agg (ctL (c i) (m i)).toArray, cl] W fun e w' => e = .returned (.bool (r i)) ∧ Ext W w')) :
    Calls Tryz.prog 191 #[.slice p.ad n p.cap, .func (.func F) #[] #[cl]] w fun e w' => e = .returned (.bool (anyB r n)) ∧ Ext w w' := by
  have HX := hide (idxC_any F cl hF r p n c m w hs hn HC)
  clear hs HC hF
  obtain ⟨R, hR⟩ : ∃ R, anyB r n = R := ⟨_, rfl⟩
  rw [hR] at HX ⊢
  clear hR
  go_enter Tryz.func191, Tryz.ntmps191
  go_wp2_with fail
  refine HX.out.mono ?_
  rintro e w1 ⟨⟨z, rfl, hz⟩, hE1⟩
  have HE1 := hide hE1
  clear hE1
  have Hz := hide hz
  clear hz
  go_wp2
  go_ret
  exact ⟨ret_bool Hz.out, HE1.out⟩

set_option maxHeartbeats 1600000 in
theorem aokC1_any (G B : Nat) (hG : ∀ (args : Array Value) (w : World), (callFunc G args).run Tryz.prog w = .ok (.enter G args) w) (r : Bool) (c : Ct) (m : CtPl) (w : World) (hc : w.cell? ⟨B, 0, none⟩ = some (.func (.func G) #[] #[]))
    (HC : Hid (∀ W, Ext w W → Calls Tryz.prog G #[.agg (ctL c m).toArray] W fun e w' => e = .returned (.bool r) ∧ Ext W w')) :
    Calls Tryz.prog 190 #[.agg (ctL c m).toArray, .pointer (some ⟨B, 0, none⟩)] w fun e w' => e = .returned (.bool (!r)) ∧ Ext w w' := by
  obtain ⟨V, hV⟩ : ∃ V, w.alloc (.cells (ctL c m).toArray 50) = V := ⟨_, rfl⟩
  obtain ⟨B0, hE, -⟩ := box1 w (ctL c m) 50 (w1 := V) (by rw [← hV]; exact Ext.refl _)
  have HE := hide hE
  have hld := run_ld (P := Tryz.prog) 50 (ctL c m) V (by kernel_rfl) (by kernel_rfl) w.heap.size 0 (Blk.ld B0 0 _ (fun j v h => by rw [Nat.zero_add]; exact h))
  have hc2 : V.cell? ⟨B, 0, none⟩ = some (.func (.func G) #[] #[]) := (Below.cell hE (p := ⟨B, 0, none⟩) (World.block_lt_of_cell? _ _ hc)).trans hc
  have HX := hide (HC.out V hE)
  generalize ctL c m = L at *
  clear B0 hE hc HC
  go_enter Tryz.func190, Tryz.ntmps190
  go_wp2_with (refine wpList_ld (by first | rfl | simp [Region.wanted, yielded]) 50 _ rfl _ rfl _ hld ?_)
  refine HX.out.mono ?_
  rintro e w1 ⟨rfl, hE1⟩
  have HE1 := hide hE1
  clear hE1
  go_wp2
  go_ret
  exact ⟨rfl, Ext.trans HE.out HE1.out⟩

set_option maxHeartbeats 1600000 in
theorem aokC_any (G : Nat) (hG : ∀ (args : Array Value) (w : World), (callFunc G args).run Tryz.prog w = .ok (.enter G args) w) (r : Nat → Bool) (most : Nat) (p : Plc) (n : Nat) (c : Nat → Ct) (m : Nat → CtPl) (w : World) (hs : CSeg w p n c m) (hn : n ≤ 1048576) (hm : most ≤ 1048576)
    (HC : Hid (∀ i, i < n → ∀ W, Ext w W → Calls Tryz.prog G #[.agg (ctL (c i) (m i)).toArray] W fun e w' => e = .returned (.bool (r i)) ∧ Ext W w')) :
    Calls Tryz.prog 132 #[.slice p.ad n p.cap, .int .i64 (most : Int), .func (.func G) #[] #[]] w fun e w' => e = .returned (.bool (decide (n ≤ most) && allB r n)) ∧ Ext w w' := by
  obtain ⟨V, hV⟩ : ∃ V, w.alloc (.cells #[.func (.func G) #[] #[]] 41) = V := ⟨_, rfl⟩
  obtain ⟨B0, hE, hl⟩ := box1 w [.func (.func G) #[] #[]] 41 (w1 := V) (by rw [← hV]; exact Ext.refl _)
  have HB := hide B0
  have HE := hide hE
  have HX := hide (conC_any 190 (.pointer (some ⟨w.heap.size, 0, none⟩)) (fun _ _ => by kernel_rfl) (fun i => !r i) p n c m V (hs.ext hE) hn
    (hide fun i hi W hW => aokC1_any G w.heap.size hG (r i) (c i) (m i) W ((Blk.ext HB.out hW (by omega)) 0 _ rfl).1 (hide fun W2 hW2 => HC.out i hi W2 (Ext.trans hE (Ext.trans hW hW2)))))
  have HR : Hid (allB r n = !anyB (fun i => !r i) n) := rfl
  rw [HR.out]
  generalize anyB (fun i => !r i) n = R at HX ⊢
  clear B0 hE hs hl HR HC hG
  by_cases h : n ≤ most
  · have h1 : (n : Int) ≤ (most : Int) := by omega
    rw [decide_eq_true h, Bool.true_and]
    clear h
    go_enter Tryz.func132, Tryz.ntmps132
    go_wp2_with fail
    refine HX.out.mono ?_
    rintro e w1 ⟨rfl, hE1⟩
    have HE1 := hide hE1
    clear hE1
    go_wp2
    go_ret
    exact ⟨rfl, Ext.trans HE.out HE1.out⟩
  · have h1 : ¬ (n : Int) ≤ (most : Int) := by omega
    rw [decide_eq_false h, Bool.false_and]
    clear h
    go_enter Tryz.func132, Tryz.ntmps132
    go_wp2
    go_ret
    exact ⟨rfl, HE.out⟩

/-- A chain that is right; ok tells whose keys are. -/
def chnB (n : Nat) (c : Nat → Ct) (ok : Nat → Bool) : Bool := inB (n : Int) 1 6 && allB (fun i => ctB (c i) (ok i)) n

theorem ch_alt (n : Nat) (c : Nat → Ct) (ok : Nat → Bool) : chnB n c ok = (decide (0 < n) && (decide (n ≤ 6) && allB (fun i => ctB (c i) (ok i)) n)) := by
  unfold chnB inB
  rw [← Bool.and_assoc]
  congr 1
  by_cases h1 : 0 < n <;> by_cases h2 : n ≤ 6 <;> simp [h1, h2] <;> omega

/-- What is known of a chain's certificates. -/
structure ChOk (n : Nat) (c : Nat → Ct) (ok : Nat → Bool) : Prop where
  n1 : n ≤ 1048576
  sm : ∀ i, i < n → CtSm (c i) 1048576
  ky : ∀ i, i < n → KyIn (c i).k
  ok : ∀ i, ok i = true ↔ KeyP (c i).k

set_option maxHeartbeats 1600000 in
theorem chainOk_any (p : Plc) (n : Nat) (c : Nat → Ct) (m : Nat → CtPl) (ok : Nat → Bool) (w : World) (hs : CSeg w p n c m) (hK : ChOk n c ok) :
    Calls Tryz.prog 64 #[.slice p.ad n p.cap] w fun e w' => e = .returned (.bool (chnB n c ok)) ∧ Ext w w' := by
  have HA := hide (aokC_any 11 (fun _ _ => by kernel_rfl) (fun i => ctB (c i) (ok i)) 6 p n c m w hs hK.n1 (by omega) (hide fun i hi W hW => implCertOk_at (c i) (m i) (ok i) (hK.ok i) W ((hs.each i hi).ext hW) (hK.sm i hi) (hK.ky i hi)))
  have HV := hide (ch_alt n c ok)
  rw [HV.out]
  generalize (decide (n ≤ 6) && allB (fun i => ctB (c i) (ok i)) n) = R at *
  have n1 := hK.n1
  clear HV hs hK
  by_cases h : 0 < n
  · have h1 : (0 : Int) < (n : Int) := by omega
    rw [decide_eq_true h, Bool.true_and]
    clear h
    go_enter Tryz.func64, Tryz.ntmps64
    go_wp2_with fail
    refine HA.out.mono ?_
    rintro e w1 ⟨rfl, hE⟩
    have HE := hide hE
    clear hE
    go_wp2
    go_ret
    exact ⟨rfl, HE.out⟩
  · have h1 : ¬ (0 : Int) < (n : Int) := by omega
    rw [decide_eq_false h, Bool.false_and]
    clear h
    go_enter Tryz.func64, Tryz.ntmps64
    go_wp2
    go_ret
    exact ⟨rfl, Ext.refl _⟩

set_option maxHeartbeats 3200000 in
theorem l11Chain_any (p : Plc) (n : Nat) (c : Nat → Ct) (m : Nat → CtPl) (ok : Nat → Bool) (w : World) (hs : CSeg w p n c m) (hK : ChOk n c ok) :
    Calls Tryz.prog 62 #[.slice p.ad n p.cap] w fun e w' => e = .returned (.bool (chnB n c ok)) ∧ Ext w w' := by
  obtain ⟨ad, b, off, cap⟩ := p
  dsimp only
  have Hs := hide hs
  have HC : Hid (∀ i, i < n → ∀ W, Ext w W → Calls Tryz.prog 9 #[.agg (ctL (c i) (m i)).toArray] W fun e w' => e = .returned (.bool (ctB (c i) (ok i))) ∧ Ext W w') := fun i hi W hW => specCertOk_at (c i) (m i) (ok i) (hK.ok i) W ((hs.each i hi).ext hW) (hK.sm i hi) (hK.ky i hi)
  have HL : Hid (∀ W, Calls Tryz.prog 32 #[.int .i64 (n : Int), .int .i64 1, .int .i64 6] W fun e w' => e = .returned (.bool (inB (n : Int) 1 6)) ∧ w' = W) := fun W => l1InB _ _ _ W
  obtain ⟨R, hR⟩ : ∃ R, R = chnB n c ok := ⟨_, rfl⟩
  rw [← hR]
  have HR := hide hR
  have n1 := hK.n1
  clear hs hR hK
  go_enter Tryz.func62, Tryz.ntmps62
  go_wp2
  go_loopw [3] (fun i wr => ∃ k : Nat, k ≤ n ∧ i = .int .i64 (k : Int) ∧ (∀ j, j < k → ctB (c j) (ok j) = true) ∧ Ext w wr) (fun i _ => n - (intOf i).toNat)
  case atStart => exact ⟨0, Nat.zero_le _, rfl, fun j hj => absurd hj (Nat.not_lt_zero _), Ext.refl _⟩
  case round =>
    obtain ⟨k, hk, rfl, hd, hE⟩ := hrel
    have HD := hide hd
    have HE := hide hE
    clear hd
    by_cases hlt : k < n
    · have hat := Hs.out.at' (by omega)
      dsimp only at hat
      subst hat
      have hld := (Hs.out.ext hE).ld k hlt
      dsimp only at hld
      have hkn : (k : Int) < (n : Int) := by omega
      have HX := hide (HC.out k hlt _ hE)
      obtain ⟨q, hq⟩ : ∃ q, ctB (c k) (ok k) = q := ⟨_, rfl⟩
      rw [hq] at HX
      have Hq := hide hq
      clear hE hq
      generalize ctL (c k) (m k) = L at HX hld
      go_wp2_with (refine wpList_ld (by first | rfl | simp [Region.wanted, yielded]) 50 _ rfl _ rfl _ hld ?_)
      refine HX.out.mono ?_
      rintro e w1 ⟨rfl, hE1⟩
      have HE1 := hide hE1
      clear hE1 hld
      cases q
      · go_wp2
        go_ret
        exact ⟨ret_bool (by rw [HR.out]; unfold chnB; rw [allB_no hlt Hq.out, Bool.and_false]), Ext.trans HE.out HE1.out⟩
      · go_wp2
        go_roundw
        case rel => exact ⟨k + 1, by omega, by go_num, fun j hj => by
                      by_cases e : j = k
                      · subst e; exact Hq.out
                      · exact HD.out j (by omega), Ext.trans HE.out HE1.out⟩
        case measure => simp [intOf]; omega
    · obtain rfl : k = n := by omega
      have HLx := hide (HL.out wr)
      have Hn : Hid (R = inB (k : Int) 1 6) := hide (by rw [HR.out]; unfold chnB; rw [allB_yes HD.out, Bool.and_true])
      generalize inB (k : Int) 1 6 = Q at HLx Hn
      clear hE HL
      go_wp2_with fail
      refine HLx.out.mono ?_
      rintro e w1 ⟨rfl, hw⟩
      obtain rfl := hw.symm
      clear hw
      go_wp2
      go_ret
      exact ⟨ret_bool (by rw [Hn.out]), HE.out⟩

/-- How many from the second on are not own, below place k. -/
def othN (c : Nat → Ct) : Nat → Nat
  | 0 => 0
  | k + 1 => othN c k + (if k = 0 then 0 else if namB (c k) (c k) then 0 else 1)

theorem oth_yes (c : Nat → Ct) {k : Nat} (h : 1 ≤ k) (q : namB (c k) (c k) = true) : othN c (k + 1) = othN c k := by
  rw [othN, if_neg (by omega), q]; rfl

theorem oth_no (c : Nat → Ct) {k : Nat} (h : 1 ≤ k) (q : namB (c k) (c k) = false) : othN c (k + 1) = othN c k + 1 := by
  rw [othN, if_neg (by omega), q]; rfl

set_option maxHeartbeats 3200000 in
theorem countOthers_any (p : Plc) (n : Nat) (c : Nat → Ct) (m : Nat → CtPl) (at' : Nat) (w : World) (hs : CSeg w p n c m) (hn : n ≤ 1048576) (hS : ∀ i, i < n → CtSm (c i) 1048576) (ha : at' ≤ n) :
    Calls Tryz.prog 65 #[.slice p.ad n p.cap, .int .i64 (at' : Int)] w fun e w' => e = .returned (.int .i64 (othN c (max at' 1) : Int)) ∧ Ext w w' := by
  obtain ⟨ad, b, off, cap⟩ := p
  dsimp only
  have Hs := hide hs
  have HC : Hid (∀ i, i < n → ∀ W, Ext w W → Calls Tryz.prog 61 #[.agg (ctL (c i) (m i)).toArray] W fun e w' => e = .returned (.bool (namB (c i) (c i))) ∧ Ext W w') := fun i hi W hW => isOwn_at (c i) (m i) W ((hs.each i hi).ext hW) (hS i hi)
  obtain ⟨R, hR⟩ : ∃ R : Int, R = (othN c (max at' 1) : Int) := ⟨_, rfl⟩
  rw [← hR]
  have HR := hide hR
  clear hs hR hS
  go_enter Tryz.func65, Tryz.ntmps65
  go_wp2
  go_loopw [5, 6] (fun q i wr => ∃ (k z : Nat), (k ≤ at' ∨ k = 1) ∧ 1 ≤ k ∧ i = .int .i64 (k : Int) ∧ q = .int .i64 (z : Int) ∧ z = othN c k ∧ z ≤ k ∧ Ext w wr) (fun _ i _ => at' - (intOf i).toNat)
  case atStart => exact ⟨1, 0, .inr rfl, Nat.le_refl _, rfl, rfl, rfl, Nat.zero_le _, Ext.refl _⟩
  case round =>
    obtain ⟨k, z, hk, hk1, rfl, rfl, hz, hzk, hE⟩ := hrel
    have HZ := hide hz
    have HE := hide hE
    have HK := hide hk
    clear hz hk
    by_cases hlt : k < at'
    · have hat := Hs.out.at' (by omega)
      dsimp only at hat
      subst hat
      have hld := (Hs.out.ext hE).ld k (by omega)
      dsimp only at hld
      have hkn : (k : Int) < (at' : Int) := by omega
      have hkm : (k : Int) < (n : Int) := by omega
      have HX := hide (HC.out k (by omega) _ hE)
      obtain ⟨q, hq⟩ : ∃ q, namB (c k) (c k) = q := ⟨_, rfl⟩
      rw [hq] at HX
      have Hq := hide hq
      clear hE hq
      generalize ctL (c k) (m k) = L at HX hld
      go_wp2_with (refine wpList_ld (by first | rfl | simp [Region.wanted, yielded]) 50 _ rfl _ rfl _ hld ?_)
      refine HX.out.mono ?_
      rintro e w1 ⟨rfl, hE1⟩
      have HE1 := hide hE1
      clear hE1 hld
      cases q
      · go_wp2
        go_roundw
        case rel => exact ⟨k + 1, z + 1, by omega, by omega, by go_num, by go_num, by rw [oth_no c hk1 Hq.out, HZ.out], by omega, Ext.trans HE.out HE1.out⟩
        case measure => simp [intOf]; omega
      · go_wp2
        go_roundw
        case rel => exact ⟨k + 1, z, by omega, by omega, by go_num, rfl, by rw [oth_yes c hk1 Hq.out, HZ.out], by omega, Ext.trans HE.out HE1.out⟩
        case measure => simp [intOf]; omega
    · have g : ¬ (k : Int) < (at' : Int) := by omega
      have HF : Hid (R = (z : Int)) := hide (by rw [HR.out, HZ.out, show max at' 1 = k by have := HK.out; omega])
      clear hE
      go_wp2
      go_ret
      exact ⟨by rw [HF.out]; rfl, HE.out⟩

set_option maxHeartbeats 3200000 in
theorem l11Between_any (p : Plc) (n : Nat) (c : Nat → Ct) (m : Nat → CtPl) (at' : Nat) (w : World) (hs : CSeg w p n c m) (hn : n ≤ 1048576) (hS : ∀ i, i < n → CtSm (c i) 1048576) (ha : at' ≤ n) :
    Calls Tryz.prog 63 #[.slice p.ad n p.cap, .int .i64 (at' : Int)] w fun e w' => e = .returned (.int .i64 (othN c (max at' 1) : Int)) ∧ Ext w w' := by
  obtain ⟨ad, b, off, cap⟩ := p
  dsimp only
  have Hs := hide hs
  have HC : Hid (∀ i, i < n → ∀ W, Ext w W → Calls Tryz.prog 60 #[.agg (ctL (c i) (m i)).toArray] W fun e w' => e = .returned (.bool (namB (c i) (c i))) ∧ Ext W w') := fun i hi W hW => l11Own_at (c i) (m i) W ((hs.each i hi).ext hW) (hS i hi)
  obtain ⟨R, hR⟩ : ∃ R : Int, R = (othN c (max at' 1) : Int) := ⟨_, rfl⟩
  rw [← hR]
  have HR := hide hR
  clear hs hR hS
  go_enter Tryz.func63, Tryz.ntmps63
  go_wp2
  go_loopw [5, 6] (fun q i wr => ∃ (k z : Nat), (k ≤ at' ∨ k = 1) ∧ 1 ≤ k ∧ i = .int .i64 (k : Int) ∧ q = .int .i64 (z : Int) ∧ z = othN c k ∧ z ≤ k ∧ Ext w wr) (fun _ i _ => at' - (intOf i).toNat)
  case atStart => exact ⟨1, 0, .inr rfl, Nat.le_refl _, rfl, rfl, rfl, Nat.zero_le _, Ext.refl _⟩
  case round =>
    obtain ⟨k, z, hk, hk1, rfl, rfl, hz, hzk, hE⟩ := hrel
    have HZ := hide hz
    have HE := hide hE
    have HK := hide hk
    clear hz hk
    by_cases hlt : k < at'
    · have hat := Hs.out.at' (by omega)
      dsimp only at hat
      subst hat
      have hld := (Hs.out.ext hE).ld k (by omega)
      dsimp only at hld
      have hkn : (k : Int) < (at' : Int) := by omega
      have hkm : (k : Int) < (n : Int) := by omega
      have HX := hide (HC.out k (by omega) _ hE)
      obtain ⟨q, hq⟩ : ∃ q, namB (c k) (c k) = q := ⟨_, rfl⟩
      rw [hq] at HX
      have Hq := hide hq
      clear hE hq
      generalize ctL (c k) (m k) = L at HX hld
      go_wp2_with (refine wpList_ld (by first | rfl | simp [Region.wanted, yielded]) 50 _ rfl _ rfl _ hld ?_)
      refine HX.out.mono ?_
      rintro e w1 ⟨rfl, hE1⟩
      have HE1 := hide hE1
      clear hE1 hld
      cases q
      · go_wp2
        go_roundw
        case rel => exact ⟨k + 1, z + 1, by omega, by omega, by go_num, by go_num, by rw [oth_no c hk1 Hq.out, HZ.out], by omega, Ext.trans HE.out HE1.out⟩
        case measure => simp [intOf]; omega
      · go_wp2
        go_roundw
        case rel => exact ⟨k + 1, z, by omega, by omega, by go_num, rfl, by rw [oth_yes c hk1 Hq.out, HZ.out], by omega, Ext.trans HE.out HE1.out⟩
        case measure => simp [intOf]; omega
    · have g : ¬ (k : Int) < (at' : Int) := by omega
      have HF : Hid (R = (z : Int)) := hide (by rw [HR.out, HZ.out, show max at' 1 = k by have := HK.out; omega])
      clear hE
      go_wp2
      go_ret
      exact ⟨by rw [HF.out]; rfl, HE.out⟩

/-- What Depth answers. -/
def dpV (n : Nat) (c : Nat → Ct) (ok : Nat → Bool) : Int := if chnB n c ok = true then (othN c (max (n - 1) 1) : Int) else -1

set_option maxHeartbeats 1600000 in
theorem implDepth_at (p : Plc) (n : Nat) (c : Nat → Ct) (m : Nat → CtPl) (ok : Nat → Bool) (w : World) (hs : CSeg w p n c m) (hK : ChOk n c ok) :
    Calls Tryz.prog 26 #[.slice p.ad n p.cap] w fun e w' => e = .returned (.int .i64 (dpV n c ok)) ∧ Ext w w' := by
  have H1 := hide (chainOk_any p n c m ok w hs hK)
  have n1 := hK.n1
  by_cases h : chnB n c ok = true
  · have HV : Hid (dpV n c ok = (othN c (max (n - 1) 1) : Int)) := hide (by unfold dpV; rw [if_pos h])
    rw [HV.out]
    have h0 : 0 < n := by
      have k := h
      unfold chnB inB at k
      simp at k
      omega
    obtain ⟨a, ha⟩ : ∃ a, n = a + 1 := ⟨n - 1, by omega⟩
    have H2 : Hid (∀ W, Ext w W → Calls Tryz.prog 65 #[.slice p.ad n p.cap, .int .i64 (a : Int)] W fun e w' => e = .returned (.int .i64 (othN c (max a 1) : Int)) ∧ Ext W w') := fun W hW => countOthers_any p n c m a W (hs.ext hW) n1 hK.sm (by omega)
    rw [show n - 1 = a by omega]
    rw [h] at H1
    have g1 : (n : Int) - 1 = (a : Int) := by omega
    have ga : (a : Int) ≤ 1048576 := by omega
    have Ha := hide ha
    generalize (othN c (max a 1) : Int) = R at *
    clear HV h h0 hs hK ha
    go_enter Tryz.func26, Tryz.ntmps26
    go_wp2_with fail
    refine H1.out.mono ?_
    rintro e w1 ⟨rfl, hE1⟩
    have HE1 := hide hE1
    clear hE1
    go_wp2_with fail
    refine (H2.out _ HE1.out).mono ?_
    rintro e w2 ⟨rfl, hE2⟩
    have HE2 := hide hE2
    clear hE2
    go_wp2
    go_ret
    exact ⟨rfl, Ext.trans HE1.out HE2.out⟩
  · have HV : Hid (dpV n c ok = -1) := hide (by unfold dpV; rw [if_neg h])
    rw [HV.out]
    rw [Bool.not_eq_true] at h
    rw [h] at H1
    clear HV h hs hK
    go_enter Tryz.func26, Tryz.ntmps26
    go_wp2_with fail
    refine H1.out.mono ?_
    rintro e w1 ⟨rfl, hE1⟩
    have HE1 := hide hE1
    clear hE1
    go_wp2
    go_ret
    exact ⟨rfl, HE1.out⟩

set_option maxHeartbeats 1600000 in
theorem specDepth_at (p : Plc) (n : Nat) (c : Nat → Ct) (m : Nat → CtPl) (ok : Nat → Bool) (w : World) (hs : CSeg w p n c m) (hK : ChOk n c ok) :
    Calls Tryz.prog 24 #[.slice p.ad n p.cap] w fun e w' => e = .returned (.int .i64 (dpV n c ok)) ∧ Ext w w' := by
  have H1 := hide (l11Chain_any p n c m ok w hs hK)
  have n1 := hK.n1
  by_cases h : chnB n c ok = true
  · have HV : Hid (dpV n c ok = (othN c (max (n - 1) 1) : Int)) := hide (by unfold dpV; rw [if_pos h])
    rw [HV.out]
    have h0 : 0 < n := by
      have k := h
      unfold chnB inB at k
      simp at k
      omega
    obtain ⟨a, ha⟩ : ∃ a, n = a + 1 := ⟨n - 1, by omega⟩
    have H2 : Hid (∀ W, Ext w W → Calls Tryz.prog 63 #[.slice p.ad n p.cap, .int .i64 (a : Int)] W fun e w' => e = .returned (.int .i64 (othN c (max a 1) : Int)) ∧ Ext W w') := fun W hW => l11Between_any p n c m a W (hs.ext hW) n1 hK.sm (by omega)
    rw [show n - 1 = a by omega]
    rw [h] at H1
    have g1 : (n : Int) - 1 = (a : Int) := by omega
    have ga : (a : Int) ≤ 1048576 := by omega
    have Ha := hide ha
    generalize (othN c (max a 1) : Int) = R at *
    clear HV h h0 hs hK ha
    go_enter Tryz.func24, Tryz.ntmps24
    go_wp2_with fail
    refine H1.out.mono ?_
    rintro e w1 ⟨rfl, hE1⟩
    have HE1 := hide hE1
    clear hE1
    go_wp2_with fail
    refine (H2.out _ HE1.out).mono ?_
    rintro e w2 ⟨rfl, hE2⟩
    have HE2 := hide hE2
    clear hE2
    go_wp2
    go_ret
    exact ⟨rfl, Ext.trans HE1.out HE2.out⟩
  · have HV : Hid (dpV n c ok = -1) := hide (by unfold dpV; rw [if_neg h])
    rw [HV.out]
    rw [Bool.not_eq_true] at h
    rw [h] at H1
    clear HV h hs hK
    go_enter Tryz.func24, Tryz.ntmps24
    go_wp2_with fail
    refine H1.out.mono ?_
    rintro e w1 ⟨rfl, hE1⟩
    have HE1 := hide hE1
    clear hE1
    go_wp2
    go_ret
    exact ⟨rfl, HE1.out⟩

set_option maxHeartbeats 6400000 in
theorem lawDepth_at (p : Plc) (n : Nat) (R : Int) (C : Plc → World → Prop) (w : World) (hC : ∀ q W W', C q W → Ext W W' → C q W') (Sm : Prop)
    (HSz : Hid (∀ W, Ext w W → Calls Tryz.prog 23 #[.slice p.ad n p.cap, .int .i64 1048576] W fun e w' => (∃ z : Int, e = .returned (.int .i64 z) ∧ -1 ≤ z ∧ z ≤ 1048576 ∧ (0 ≤ z → Sm)) ∧ Ext W w'))
    (HTo : Hid (Sm → ∀ W, Ext w W → Calls Tryz.prog 25 #[.slice p.ad n p.cap] W fun e w' => ∃ q : Plc, e = .returned (.slice q.ad n q.cap) ∧ C q w' ∧ Ext W w'))
    (HSp : Hid (Sm → ∀ (q : Plc) (W : World), C q W → Calls Tryz.prog 24 #[.slice q.ad n q.cap] W fun e w' => e = .returned (.int .i64 R) ∧ Ext W w'))
    (HIm : Hid (Sm → ∀ (q : Plc) (W : World), C q W → Calls Tryz.prog 26 #[.slice q.ad n q.cap] W fun e w' => e = .returned (.int .i64 R) ∧ Ext W w'))
    (HEq : Hid (Sm → ∀ (q q2 : Plc) (W : World), C q W → C q2 W → Calls Tryz.prog 27 #[.slice q.ad n q.cap, .slice q2.ad n q2.cap] W fun e w' => e = .returned (.bool true) ∧ Ext W w')) :
    Calls Tryz.prog 7 #[.slice p.ad n p.cap] w fun e w' => e = .returned (.bool true) ∧ Ext w w' := by
  have HE : Hid (Ext w w) := hide (Ext.refl _)
  have HCx := hide hC
  clear hC
  go_enter Tryz.func7, Tryz.ntmps7
  go_wp2_with fail
  refine (HSz.out _ HE.out).mono ?_
  rintro e w1 ⟨⟨z, rfl, z0, z1, hz⟩, HEW⟩
  replace HE := hide (Ext.trans HE.out HEW)
  clear HEW HSz
  by_cases hz0 : z < 0
  · clear hz
    go_wp2
    go_ret
    exact ⟨rfl, HE.out⟩
  have hn := hz (by omega)
  have HT := hide (HTo.out hn)
  have HS := hide (HSp.out hn)
  have HI := hide (HIm.out hn)
  have HQ := hide (HEq.out hn)
  clear hz hn HTo HSp HIm HEq
  go_wp2_with fail
  refine (HT.out _ HE.out).mono ?_
  rintro e w2 ⟨p2, rfl, hs2, HEW⟩
  have HSx := hide (HS.out p2 _ hs2)
  replace HE := hide (Ext.trans HE.out HEW)
  clear HEW HS hs2
  go_wp2_with fail
  refine HSx.out.mono ?_
  rintro e w3 ⟨rfl, HEW⟩
  replace HE := hide (Ext.trans HE.out HEW)
  clear HEW HSx
  go_wp2_with fail
  refine (HT.out _ HE.out).mono ?_
  rintro e w4 ⟨p4, rfl, hs4, HEW⟩
  have Hs4 := hide hs4
  replace HE := hide (Ext.trans HE.out HEW)
  clear HEW hs4
  go_wp2_with fail
  refine (HI.out p4 _ Hs4.out).mono ?_
  rintro e w5 ⟨rfl, HEW⟩
  replace Hs4 := hide (HCx.out _ _ _ Hs4.out HEW)
  replace HE := hide (Ext.trans HE.out HEW)
  clear HEW HI
  have hne : (R != R) = false := by simp
  go_wp2_with fail
  refine (HT.out _ HE.out).mono ?_
  rintro e w6 ⟨p6, rfl, hs6, HEW⟩
  replace Hs4 := hide (HCx.out _ _ _ Hs4.out HEW)
  have Hs6 := hide hs6
  replace HE := hide (Ext.trans HE.out HEW)
  clear HEW hs6
  go_wp2_with fail
  refine (HQ.out p4 p6 _ Hs4.out Hs6.out).mono ?_
  rintro e w7 ⟨rfl, HEW⟩
  replace HE := hide (Ext.trans HE.out HEW)
  clear HEW HQ
  go_wp2
  go_ret
  exact ⟨rfl, HE.out⟩

theorem lawDepth_any (X : CsM) (w : World) (hI : CertsIn w X) :
    Calls Tryz.prog 7 #[.slice X.p.ad X.n X.p.cap] w fun e w' => e = .returned (.bool true) ∧ Ext w w' := by
  obtain ⟨ok, hok⟩ : ∃ ok : Nat → Bool, ∀ i, ok i = true ↔ KeyP (X.c i).k := ⟨fun i => Classical.choose (tell (KeyP (X.c i).k)), fun i => Classical.choose_spec (tell (KeyP (X.c i).k))⟩
  have hch : (X.n ≤ 1048576 ∧ ∀ i, i < X.n → CtSm (X.c i) 1048576) → ChOk X.n X.c ok := fun h => ⟨h.1, h.2, fun i hi => (hI.each i hi).ky (h.2 i hi).k, hok⟩
  exact lawDepth_at X.p X.n (dpV X.n X.c ok) (fun q W => ∃ m, CSeg W q X.n X.c m) w (fun q W W' ⟨m, h⟩ e => ⟨m, h.ext e⟩) (X.n ≤ 1048576 ∧ ∀ i, i < X.n → CtSm (X.c i) 1048576)
    (hide fun W hW => (szCertS_any X.p X.n X.c X.m 1048576 W (hI.seg.ext hW) hI.small (fun i hi => (hI.each i hi).sm) (by omega) (by omega)).mono fun e w' ⟨⟨z, h1, h2, h3, h4⟩, h5⟩ => ⟨⟨z, h1, h2, h3, fun h => ⟨by have := (h4 h).1; omega, (h4 h).2⟩⟩, h5⟩)
    (hide fun hS W hW => (toCertS_seg X.p X.n X.c X.m W (hI.seg.ext hW) hS.1 hS.2).mono fun e w' ⟨q, m', h1, h2, h3⟩ => ⟨q, h1, ⟨m', h2⟩, h3⟩)
    (hide fun hS q W ⟨m, h⟩ => specDepth_at q X.n X.c m ok W h (hch hS))
    (hide fun hS q W ⟨m, h⟩ => implDepth_at q X.n X.c m ok W h (hch hS))
    (hide fun hS q q2 W ⟨m, h⟩ ⟨m2, h2⟩ => eqCertS_same q q2 X.n X.c m m2 W h h2 hS.1 hS.2)
end

end Go.Proofs.YtollgoadgjlccaaGreatDoor
