/- Lists of certificates in memory; the laws' own helpers over them; one that came in, opened (written by mkdep.py). Plain: a list of certificates while its marks are written. -/
import Derived.Test.YtfhiiakoilkbkaaGreatDoorCv34
namespace Go.Proofs.YtfhiiakoilkbkaaGreatDoor
set_option linter.unusedVariables false
set_option linter.unusedSimpArgs false
section
set_option maxRecDepth 100000
open Go.RowKit
structure CSeg (w : World) (p : Plc) (n : Nat) (c : Nat → Ct) (m : Nat → CtPl) : Prop where
 at' : 0 < n → p.ad = some ⟨p.b, p.off, none⟩
 cell : ∀ i, i < n → ∀ j v, (ctL (c i) (m i))[j]? = some v → w.cell? ⟨p.b, p.off + i * 34 + j, none⟩ = some v
 each : ∀ i, i < n → CtIn w (c i) (m i)
theorem ctL_len (c : Ct) (m : CtPl) : (ctL c m).length = 34 := rfl
theorem CSeg.lt {w : World} {p : Plc} {n : Nat} {c : Nat → Ct} {m : Nat → CtPl} (h : CSeg w p n c m) (hn : 0 < n) : p.b < w.heap.size := World.block_lt_of_cell? _ _ (h.cell 0 hn 0 _ rfl)
theorem CSeg.ext {w w' : World} {p : Plc} {n : Nat} {c : Nat → Ct} {m : Nat → CtPl} (h : CSeg w p n c m) (e : Ext w w') : CSeg w' p n c m :=
 ⟨h.at', fun i hi j v hv => (Below.cell e (p := ⟨p.b, p.off + i * 34 + j, none⟩) (h.lt (by omega))).trans (h.cell i hi j v hv), fun i hi => (h.each i hi).ext e⟩
theorem CSeg.ld {w : World} {p : Plc} {n : Nat} {c : Nat → Ct} {m : Nat → CtPl} (h : CSeg w p n c m) (k : Nat) (hk : k < n) : (loadVar 54 ⟨p.b, p.off + k * 34, none⟩).run Tryz.prog w = .ok (.agg (ctL (c k) (m k)).toArray) w :=
 run_ld (P := Tryz.prog) 54 (ctL (c k) (m k)) w (by kernel_rfl) (by kernel_rfl) p.b (p.off + k * 34) (h.cell k hk)
theorem CSeg.ldL {w : World} {p : Plc} {n : Nat} {c : Nat → Ct} {m : Nat → CtPl} (h : CSeg w p n c m) (k : Nat) (hk : k < n) : (loadVar 39 ⟨p.b, p.off + k * 34, none⟩).run Tryz.prog w = .ok (.agg (ctL (c k) (m k)).toArray) w :=
 run_ld (P := Tryz.prog) 39 (ctL (c k) (m k)) w (by kernel_rfl) (by kernel_rfl) p.b (p.off + k * 34) (h.cell k hk)
set_option maxHeartbeats 3200000 in
theorem szCertS_sum (p : Plc) (n : Nat) (c : Nat → Ct) (m : Nat → CtPl) (l : Int) (w : World) (hs : CSeg w p n c m) (hn : n ≤ 9223372036854775807) (hl : ∀ i, i < n → CtSm (c i) 9223372036854775807) (l0 : 0 ≤ l) (l1 : l ≤ 1048576) :
  Calls Tryz.prog 5 #[.slice p.ad n p.cap, .int .i64 l] w fun e w' => (∃ z : Int, e = .returned (.int .i64 z) ∧ -1 ≤ z ∧ z ≤ l ∧ (0 ≤ z → z + (n : Int) + (preS (fun i => wC (c i)) n : Nat) ≤ l ∧ (n : Int) ≤ l ∧ ∀ i, i < n → CtSm (c i) 1048576)) ∧ Ext w w' := by
 have He := hide hl
 have Hs := hide hs
 clear hs hl
 obtain ⟨ad, b, off, cap⟩ := p
 dsimp only
 by_cases h : l < n
 ·have h1 : l - (n : Int) < 0 := by omega
  have h2 : -9223372036854775808 ≤ l - (n : Int) := by omega
  go_enter Tryz.func5, Tryz.ntmps5
  go_wp2
  go_ret
  exact ⟨⟨-1, rfl, by omega, by omega, fun h => by omega⟩, Ext.refl _⟩
 ·have h1 : ¬ l - (n : Int) < 0 := by omega
  go_enter Tryz.func5, Tryz.ntmps5
  go_wp2
  go_loopw [1, 5] (fun q i wr => ∃ (k : Nat) (z : Int), k ≤ n ∧ i = .int .i64 k ∧ q = .int .i64 z ∧ 0 ≤ z ∧ z + (n : Int) + (preS (fun i => wC (c i)) k : Nat) ≤ l ∧ (∀ j, j < k → CtSm (c j) 1048576) ∧ Ext w wr) (fun _ i _ => n - (intOf i).toNat)
  case atStart => exact ⟨0, l - n, Nat.zero_le _, rfl, rfl, by omega, by rw [show preS (fun i => wC (c i)) 0 = 0 from rfl]; omega, fun j hj => absurd hj (Nat.not_lt_zero _), Ext.refl _⟩
  case round =>
   obtain ⟨k, z, hk, rfl, rfl, z0, z1, hd, hE⟩ := hrel
   have HD := hide hd
   have HE := hide hE
   clear hd
   by_cases hlt : k < n
   ·have hat := Hs.out.at' (by omega)
    dsimp only at hat
    subst hat
    have hld := (Hs.out.ext hE).ldL k hlt
    have HZ := hide (szCert_sum (c k) (m k) z wr ((Hs.out.ext hE).each k hlt) (He.out k hlt) z0 (by omega))
    have hkn : (k : Int) < (n : Int) := by omega
    dsimp only at hld
    generalize ctL (c k) (m k) = L at *
    clear hE
    go_wp2_with (refine wpList_ld (by first | rfl | simp [Region.wanted, yielded]) 39 _ rfl _ rfl _ hld ?_)
    refine HZ.out.mono ?_
    rintro e W ⟨⟨y, rfl, y0, y1, hy⟩, hE1⟩
    have HY := hide hy
    have HE1 := hide hE1
    clear hy HZ hE1 hld
    by_cases hneg : y < 0
    ·go_wp2
     go_ret
     exact ⟨⟨-1, rfl, by omega, by omega, fun h => by omega⟩, Ext.trans HE.out HE1.out⟩
    ·go_wp2
     go_roundw
     case rel => exact ⟨k + 1, _, by omega, by go_num, rfl, by omega, by rw [show preS (fun i => wC (c i)) (k + 1) = preS (fun i => wC (c i)) k + wC (c k) from rfl]; have := HY.out (by omega); omega, fun j hj => by
            by_cases e : j = k
            ·subst e; exact (HY.out (by omega)).2
            ·exact HD.out j (by omega), Ext.trans HE.out HE1.out⟩
     case measure => simp [intOf]; omega
   ·obtain rfl : k = n := by omega
    clear hE
    go_wp2
    go_ret
    exact ⟨⟨z, rfl, by omega, by omega, fun _ => ⟨by omega, by omega, HD.out⟩⟩, HE.out⟩
theorem some_setCell {w : World} {p q : Addr} {v : Value} (h : (w.cell? q).isSome) : ((w.setCell p v).cell? q).isSome := by
 by_cases e : p = q
 ·subst e
  obtain ⟨y, hy⟩ := Option.isSome_iff_exists.1 h
  rw [World.cell?_setCell_same _ _ _ hy]; rfl
 ·rw [World.cell?_setCell_other _ _ _ _ e]; exact h
theorem some_putL (C : Nat) (q : Addr) : ∀ (vs : List Value) (i : Nat) (w : World), (w.cell? q).isSome → ((putL C i vs w).cell? q).isSome
 | [], _, _, h => h
 | v :: vs, i, w, h => some_putL C q vs (i + 1) _ (some_setCell h)
structure CMade (w wr : World) (n k : Nat) (c : Nat → Ct) (m : Nat → CtPl) : Prop where
 ext : Ext w wr
 lt : w.heap.size < wr.heap.size
 row : ∀ j, j < n * 34 → (wr.cell? ⟨w.heap.size, j, none⟩).isSome ∧ wr.frozen? ⟨w.heap.size, j, none⟩ = false
 done : ∀ i, i < k → ∀ j v, (ctL (c i) (m i))[j]? = some v → wr.cell? ⟨w.heap.size, i * 34 + j, none⟩ = some v
 each : ∀ i, i < k → ∀ w'', Kp (w.heap.size + 1) wr w'' → CtIn w'' (c i) (m i)
theorem CMade.step {w wr W : World} {n k : Nat} {c : Nat → Ct} {m : Nat → CtPl} {p : CtPl} (h : CMade w wr n k c m) (hk : k < n) (e : Ext wr W) (hp : ∀ w'', Kp wr.heap.size W w'' → CtIn w'' (c k) p) :
  CMade w (putL w.heap.size (k * 34) (ctL (c k) p) W) n (k + 1) c (fun i => if i = k then p else m i) := by
 have hl := h.lt
 have kk : Kp (w.heap.size + 1) wr (putL w.heap.size (k * 34) (ctL (c k) p) W) := (Kp.ext e).trans (Kp.putL (by omega) _ _ _)
 refine ⟨below_putL (Nat.le_refl _) _ _ _ (Ext.trans h.ext e), by rw [size_putL]; exact Nat.lt_of_lt_of_le hl (Below.size e), fun j hj => ?_, fun i hi j v hv => ?_, fun i hi w'' k2 => ?_⟩
 ·have h1 := h.row j hj
  refine ⟨some_putL _ _ _ _ _ ?_, by rw [frozen_putL, Below.frozen e (p := ⟨w.heap.size, j, none⟩) hl]; exact h1.2⟩
  rw [Below.cell e (p := ⟨w.heap.size, j, none⟩) hl]
  exact h1.1
 ·have hj : j < 34 := (List.getElem?_eq_some_iff.1 hv).1
  by_cases ei : i = k
  ·subst ei
   rw [if_pos rfl] at hv
   refine cell_putL _ _ _ _ (fun q hq => ?_) j v hv
   rw [Below.cell e (p := ⟨w.heap.size, i * 34 + q, none⟩) hl]
   have hq2 : q < 34 := hq
   exact (h.row _ (by have : (i + 1) * 34 ≤ n * 34 := Nat.mul_le_mul_right _ hk; omega)).1
  ·rw [if_neg ei] at hv
   have hik : (i + 1) * 34 ≤ k * 34 := Nat.mul_le_mul_right _ (by omega)
   rw [cell_putL_other _ ⟨w.heap.size, i * 34 + j, none⟩ _ _ _ (fun _ => by show i * 34 + j < k * 34; omega), Below.cell e (p := ⟨w.heap.size, i * 34 + j, none⟩) hl]
   exact h.done i (by omega) j v hv
 ·by_cases ei : i = k
  ·subst ei
   rw [if_pos rfl]
   exact hp w'' ((Kp.mono (Kp.putL (N := w.heap.size + 1) (by omega) _ _ W) (by omega)).trans (k2.mono (by omega)))
  ·rw [if_neg ei]
   exact h.each i (by omega) w'' (kk.trans k2)
theorem run_make_cts (n : Nat) (hn : n ≤ 1048576) (w : World) : (Instr.makeSlice 43 (.int .i64 (n : Int)) (.int .i64 (n : Int))).run Tryz.prog w = .ok (.slice (some ⟨w.heap.size, 0, none⟩) n n) (w.alloc (.cells (madeCells #[.int .i64 0, .slice none 0 0, .slice none 0 0, .int .i64 0, .int .i64 0, .int .i64 0, .slice none 0 0, .int .i64 0, .int .i64 0, .int .i64 0, .int .i64 0, .int .i64 0, .int .i64 0, .int .i64 0, .int .i64 0, .int .i64 0, .bool false, .int .i64 0, .int .i64 0, .int .i64 0, .int .i64 0, .int .i64 0, .int .i64 0, .int .i64 0, .int .i64 0, .bool false, .int .i64 0, .int .i64 0, .slice none 0 0, .slice none 0 0, .slice none 0 0, .slice none 0 0, .slice none 0 0, .slice none 0 0] (n * 34)) 54)) := by
 have hinfo : (Tryz.prog.info? 54).map (fun i => (i.zero, i.size, i.bytes)) = some (some (.agg #[.int .i64 0, .slice none 0 0, .slice none 0 0, .int .i64 0, .int .i64 0, .int .i64 0, .slice none 0 0, .int .i64 0, .int .i64 0, .int .i64 0, .int .i64 0, .int .i64 0, .int .i64 0, .int .i64 0, .int .i64 0, .int .i64 0, .bool false, .int .i64 0, .int .i64 0, .int .i64 0, .int .i64 0, .int .i64 0, .int .i64 0, .int .i64 0, .int .i64 0, .bool false, .int .i64 0, .int .i64 0, .slice none 0 0, .slice none 0 0, .slice none 0 0, .slice none 0 0, .slice none 0 0, .slice none 0 0]), 34, 416) := by kernel_rfl
 obtain ⟨i, hi, hzz⟩ := Option.map_eq_some_iff.1 hinfo
 simp only [Prod.mk.injEq] at hzz
 obtain ⟨hz, hs, hb⟩ := hzz
 have hr := run_make (P := Tryz.prog) w 43 54 i _ Tryz.underlying43 hi hz .i64 .i64 n n (by omega) (Int.le_refl _) (by rw [hb]; omega) (by omega)
 simp only [Int.toNat_natCast, hs] at hr
 exact hr
theorem made_cells (w : World) (A : Array Value) (t : TypeId) (j : Nat) (hj : j < A.size) : ((w.alloc (.cells A t)).cell? ⟨w.heap.size, j, none⟩).isSome ∧ (w.alloc (.cells A t)).frozen? ⟨w.heap.size, j, none⟩ = false := by
 have hi : A.toList[j]? = some (A[j]'hj) := by simp [hj]
 have h := Blk.alloc w A.toList t j _ hi
 rw [Array.toArray_toList] at h
 exact ⟨by rw [h.1]; rfl, h.2⟩
set_option maxHeartbeats 6400000 in
theorem toCertS_any (p : Plc) (n : Nat) (c : Nat → Ct) (m : Nat → CtPl) (w : World) (hs : CSeg w p n c m) (hn : n ≤ 1048576) (hl : ∀ i, i < n → CtSm (c i) 1048576) :
  Calls Tryz.prog 8 #[.slice p.ad n p.cap] w fun e w' => ∃ m' : Nat → CtPl, e = .returned (.slice (some ⟨w.heap.size, 0, none⟩) n n) ∧ CMade w w' n n c m' := by
 have hmk := run_make_cts n hn
 have Hs := hide hs
 have Hl := hide hl
 have HM0 : Hid (∀ A : Array Value, n * 34 ≤ A.size → CMade w (w.alloc (.cells A 54)) n 0 c m) := fun A hA =>
  ⟨Ext.alloc _ _, by simp, fun j hj => made_cells w A _ j (by omega), fun i hi => absurd hi (Nat.not_lt_zero _), fun i hi => absurd hi (Nat.not_lt_zero _)⟩
 have HM1 := hide (HM0.out (madeCells #[.int .i64 0, .slice none 0 0, .slice none 0 0, .int .i64 0, .int .i64 0, .int .i64 0, .slice none 0 0, .int .i64 0, .int .i64 0, .int .i64 0, .int .i64 0, .int .i64 0, .int .i64 0, .int .i64 0, .int .i64 0, .int .i64 0, .bool false, .int .i64 0, .int .i64 0, .int .i64 0, .int .i64 0, .int .i64 0, .int .i64 0, .int .i64 0, .int .i64 0, .bool false, .int .i64 0, .int .i64 0, .slice none 0 0, .slice none 0 0, .slice none 0 0, .slice none 0 0, .slice none 0 0, .slice none 0 0] (n * 34)) (Nat.le_of_eq (size_madeCells _ _).symm))
 clear hs hl HM0
 generalize madeCells #[.int .i64 0, .slice none 0 0, .slice none 0 0, .int .i64 0, .int .i64 0, .int .i64 0, .slice none 0 0, .int .i64 0, .int .i64 0, .int .i64 0, .int .i64 0, .int .i64 0, .int .i64 0, .int .i64 0, .int .i64 0, .int .i64 0, .bool false, .int .i64 0, .int .i64 0, .int .i64 0, .int .i64 0, .int .i64 0, .int .i64 0, .int .i64 0, .int .i64 0, .bool false, .int .i64 0, .int .i64 0, .slice none 0 0, .slice none 0 0, .slice none 0 0, .slice none 0 0, .slice none 0 0, .slice none 0 0] (n * 34) = A at *
 obtain ⟨ad, b, off, cap⟩ := p
 dsimp only
 go_enter Tryz.func8, Tryz.ntmps8
 go_wp2
 clear hmk
 go_loopw [4] (fun i wr => ∃ (k : Nat) (m' : Nat → CtPl), k ≤ n ∧ i = .int .i64 k ∧ CMade w wr n k c m') (fun i _ => n - (intOf i).toNat)
 case atStart => exact ⟨0, m, Nat.zero_le _, rfl, HM1.out⟩
 case round =>
  clear HM1
  obtain ⟨k, m', hk, rfl, hI⟩ := hrel
  have HI := hide hI
  by_cases hlt : k < n
  ·have hat := Hs.out.at' (by omega)
   dsimp only at hat
   subst hat
   have hs' := Hs.out.ext hI.ext
   have hld := hs'.ldL k hlt
   have HT := hide (toCert_any (c k) (m k) wr (hs'.each k hlt) (Hl.out k hlt))
   have hkn : (k : Int) < (n : Int) := by omega
   dsimp only at hld
   generalize ctL (c k) (m k) = L at *
   clear hI hs'
   go_wp2_with (refine wpList_ld (by first | rfl | simp [Region.wanted, yielded]) 39 _ rfl _ rfl _ hld ?_)
   refine HT.out.mono ?_
   rintro e W ⟨q, rfl, hq, hE⟩
   have hput := HI.out.step hlt hE hq
   have hst := run_st (P := Tryz.prog) 54 (ctL (c k) q) W (by kernel_rfl) (by simp [ctL, kyL, exL, Value.oneCell']) w.heap.size (k * 34) (fun j hj => by
    have hj2 : j < 34 := hj
    have h1 := HI.out.row (k * 34 + j) (by have : (k + 1) * 34 ≤ n * 34 := Nat.mul_le_mul_right _ hlt; omega)
    rw [Below.cell hE (p := ⟨w.heap.size, k * 34 + j, none⟩) HI.out.lt, Below.frozen hE (p := ⟨w.heap.size, k * 34 + j, none⟩) HI.out.lt]
    exact ⟨Option.isSome_iff_exists.1 h1.1, h1.2⟩)
   have HP := hide hput
   generalize putL w.heap.size (k * 34) (ctL (c k) q) W = W2 at *
   generalize ctL (c k) q = L2 at *
   clear hput hq hE HT hld HI
   go_wp2_with (refine wpList_st (by first | rfl | simp [Region.wanted, yielded]) 54 _ _ rfl _ rfl _ rfl _ hst ?_)
   go_roundw
   case rel => exact ⟨k + 1, _, by omega, by go_num, HP.out⟩
   case measure => simp [intOf]; omega
  ·obtain rfl : k = n := by omega
   clear hI
   go_wp2
   go_ret
   exact ⟨m', rfl, HI.out⟩
set_option maxHeartbeats 6400000 in
theorem eqCertS_same (p p2 : Plc) (n : Nat) (c : Nat → Ct) (m m2 : Nat → CtPl) (w : World) (hs : CSeg w p n c m) (hs2 : CSeg w p2 n c m2) (hn : n ≤ 1048576) (hl : ∀ i, i < n → CtSm (c i) 1048576) :
  Calls Tryz.prog 11 #[.slice p.ad n p.cap, .slice p2.ad n p2.cap] w fun e w' => e = .returned (.bool true) ∧ Ext w w' := by
 obtain ⟨ad, b, off, cap⟩ := p
 obtain ⟨ad2, b2, off2, cap2⟩ := p2
 dsimp only
 have Hs := hide hs
 have Hs2 := hide hs2
 have Hl := hide hl
 clear hs hs2 hl
 go_enter Tryz.func11, Tryz.ntmps11
 go_wp2
 go_loopw [5] (fun i wr => ∃ k : Nat, k ≤ n ∧ i = .int .i64 k ∧ Ext w wr) (fun i _ => n - (intOf i).toNat)
 case atStart => exact ⟨0, Nat.zero_le _, rfl, Ext.refl _⟩
 case round =>
  obtain ⟨k, hk, rfl, hE⟩ := hrel
  by_cases hlt : k < n
  ·have g1 := Hs.out.ext hE
   have g2 := Hs2.out.ext hE
   have hat := Hs.out.at' (by omega)
   have hat2 := Hs2.out.at' (by omega)
   dsimp only at hat hat2
   subst hat hat2
   have hkn : (k : Int) < (n : Int) := by omega
   have HQ : Hid (∀ W, Ext wr W → Calls Tryz.prog 12 #[.agg (ctL (c k) (m k)).toArray, .agg (ctL (c k) (m2 k)).toArray] W fun e w' => e = .returned (.bool true) ∧ Ext W w') := fun W hW => eqCert_same (c k) (m k) (m2 k) W ((g1.each k hlt).ext hW) ((g2.each k hlt).ext hW) (Hl.out k hlt)
   have HlA : Hid (∀ q : ReC (fun _ => False) wr, (loadVar 54 ⟨b, off + k * 34, none⟩).run Tryz.prog q.val = .ok (.agg (ctL (c k) (m k)).toArray) q.val) := fun q => CSeg.ld (p := ⟨some ⟨b, off, none⟩, b, off, cap⟩) (g1.ext ⟨q.ok.os, q.ok.tape, q.ok.output, q.ok.size, fun z hz => q.ok.block z hz (fun h => h)⟩) k hlt
   have HlB : Hid (∀ q : ReC (fun _ => False) wr, (loadVar 54 ⟨b2, off2 + k * 34, none⟩).run Tryz.prog q.val = .ok (.agg (ctL (c k) (m2 k)).toArray) q.val) := fun q => CSeg.ld (p := ⟨some ⟨b2, off2, none⟩, b2, off2, cap2⟩) (g2.ext ⟨q.ok.os, q.ok.tape, q.ok.output, q.ok.size, fun z hz => q.ok.block z hz (fun h => h)⟩) k hlt
   generalize ctL (c k) (m k) = L at *
   generalize ctL (c k) (m2 k) = L2 at *
   have HE := hide hE
   clear hE g1 g2
   go_wp2_with fail
   refine anyK_begin (fun _ => False) 10 rfl (by kernel_rfl) ?_
   refine anyK_take 0 8 2 rfl (by decide) (by kernel_rfl) (fun _ _ d _ _ h => by cases d <;> exact h) ?_
   (refine headC_step (fun K hK => ?_); go_simp; refine hK _ ?_; clear hK K)
   (refine headC_step (fun K hK => ?_); go_simp; refine hK _ ?_; clear hK K)
   (refine headC_step (fun K hK => ?_); go_simp; refine hK _ ?_; clear hK K)
   refine head_ld (by first | rfl | simp [Region.wanted, yielded]) rfl rfl HlA.out ?_
   (refine headC_step (fun K hK => ?_); go_simp; refine hK _ ?_; clear hK K)
   (refine headC_step (fun K hK => ?_); go_simp; refine hK _ ?_; clear hK K)
   (refine headC_step (fun K hK => ?_); go_simp; refine hK _ ?_; clear hK K)
   refine head_ld (by first | rfl | simp [Region.wanted, yielded]) rfl rfl HlB.out ?_
   refine headC_nil ?_
   refine anyK_one 8 (by kernel_rfl) ?_
   refine stepK_run rfl ?_
   intro w9 h9 K hKK
   go_simp
   refine (HQ.out _ h9).mono ?_
   rintro e w10 ⟨rfl, hE10⟩
   have HX := hide (Ext.trans h9 hE10)
   go_simp
   refine hKK _ _ (Grw.of_ext HX.out) ?_
   clear hKK K h9 hE10
   refine anyK_one 9 (by kernel_rfl) ?_
   refine stepK_run rfl ?_
   intro w11 h11 K hKK
   go_simp
   refine hKK _ _ (Grw.of_ext (Ext.trans HX.out h11)) ?_
   clear hKK K
   refine anyK_done (by kernel_rfl) ?_ 0
   intro w12 h12
   have HY := hide (Ext.trans HE.out (Ext.trans HX.out (Ext.trans h11 h12)))
   clear h11 h12 HX HE
   go_wp2
   go_roundw
   case rel => exact ⟨k + 1, by omega, by go_num, HY.out⟩
   case measure => simp [intOf]; omega
  ·obtain rfl : k = n := by omega
   go_wp2
   go_ret
   exact ⟨rfl, hE⟩
structure CsM where
 p : Plc
 n : Nat
 c : Nat → Ct
 m : Nat → CtPl
structure CertsIn (w : World) (X : CsM) : Prop where
 seg : CSeg w X.p X.n X.c X.m
 small : X.n ≤ 9223372036854775807
 each : ∀ i, i < X.n → CertIn w ⟨X.c i, X.m i⟩
open Go.ChangeShapes Go.WideShapes Go.ChangeAt
section
variable {H : Type} {enc : TypeId × Value → H} {w : World} {base : Nat} {held : Bool}
theorem open_certs {r : Reach} {b0 : Nat} {v : Value} {d : DataW H} {ps : List MemPlace} (hv : Value.okWide Tryz.prog w r b0 40 v) (h : DataW.Trod enc Tryz.prog w base (fun _ => true) held 40 v d ps) :
  ∃ X : CsM, v = .slice X.p.ad X.n X.p.cap ∧ CertsIn w X := by
 obtain ⟨a', len', cap', rfl⟩ := okWide_slice Tryz.underlying40 hv
 obtain ⟨fuel, hf⟩ := h
 obtain ⟨k1, -⟩ := kq
 have dc : Ct := ⟨0, 0, fun _ => ⟨#[]⟩, 0, fun _ => ⟨#[]⟩, 0, 0, ⟨0, 0, fun _ => 0, 0, 0, 0, 0, 0, 0, 0, ⟨0, 0, false⟩, 0, 0, 0, 0, 0, ⟨0, 0⟩⟩, 0, ⟨false, 0, 0, 0, fun _ => ⟨#[]⟩, 0, fun _ => 0, fun _ _ => 0, 0, fun _ => ⟨#[]⟩, 0, fun _ => ⟨#[]⟩, 0, fun _ => 0⟩, 0, fun _ => 0⟩
 have dm : CtPl := ⟨⟨none, 0, 0, 0⟩, ⟨none, 0, 0, 0⟩, ⟨none, 0, 0, 0⟩, ⟨⟨none, 0, 0, 0⟩, ⟨none, 0, 0, 0⟩, fun _ => ⟨none, 0, 0, 0⟩, ⟨none, 0, 0, 0⟩, ⟨none, 0, 0, 0⟩, ⟨none, 0, 0, 0⟩⟩, ⟨none, 0, 0, 0⟩⟩
 have emp : ∀ (a : Option Addr) (cp : Nat), CertsIn w ⟨⟨a, 0, 0, cp⟩, 0, fun _ => dc, fun _ => dm⟩ := fun a cp => ⟨⟨fun h => absurd h (Nat.lt_irrefl _), fun i hi => absurd hi (Nat.not_lt_zero _), fun i hi => absurd hi (Nat.not_lt_zero _)⟩, Nat.zero_le _, fun i hi => absurd hi (Nat.not_lt_zero _)⟩
 rcases DataW.trod_slice Tryz.underlying40 hf with ⟨hcs, _⟩ | ⟨a, len, cap, elems, rest, n, _, hcs, _, hb, hl, hm, hlen, hel, _, _⟩
 ·simp [Value.cells] at hcs
  obtain ⟨rfl, rfl, rfl⟩ := hcs
  exact ⟨_, rfl, emp none 0⟩
 ·simp [Value.cells] at hcs
  obtain ⟨rfl, rfl, rfl⟩ := hcs
  by_cases h0 : len' = 0
  ·subst h0
   exact ⟨_, rfl, emp _ _⟩
  ·have each : ∀ i, i < len' → ∃ X : CtM, (∀ j v, (ctL X.c X.m)[j]? = some v → w.cell? ((a.add (i * 34)).add j) = some v) ∧ CertIn w X := by
    intro i hi
    have h1 := hel i hi
    rw [k1, List.getElem?_eq_getElem (by omega)] at h1
    obtain ⟨cs', h2, h3⟩ := Option.bind_eq_some_iff.1 h1
    obtain ⟨X, rfl, hX⟩ := open_certC h3
    obtain ⟨h4, h5, h6⟩ := World.cells?_some h2
    refine ⟨X, fun j v hv => ?_, hX⟩
    have hj : j < 34 := (List.getElem?_eq_some_iff.1 hv).1
    rw [h6 j hj]
    exact hv
   obtain ⟨b, off, spot⟩ := a
   have hspot : spot = none := by
    obtain ⟨X, h, _⟩ := each 0 (by omega)
    have := h 0 _ rfl
    simpa [Addr.add] using World.cell?_spot this
   subst hspot
   have each' : ∀ i, i < len' → ∃ X : CtM, (∀ j v, (ctL X.c X.m)[j]? = some v → w.cell? ⟨b, off + i * 34 + j, none⟩ = some v) ∧ CertIn w X := fun i hi => by
    have := each i hi
    simpa only [add_off] using this
   have hx : ∃ r : Nat → CtM, ∀ i, i < len' → (∀ j v, (ctL (r i).c (r i).m)[j]? = some v → w.cell? ⟨b, off + i * 34 + j, none⟩ = some v) ∧ CertIn w (r i) :=
    ⟨fun i => if h : i < len' then Classical.choose (each' i h) else ⟨dc, dm⟩, fun i hi => by
     simp only [dif_pos hi]
     exact Classical.choose_spec (each' i hi)⟩
   obtain ⟨r, hr⟩ := hx
   exact ⟨⟨⟨some ⟨b, off, none⟩, b, off, cap'⟩, len', fun i => (r i).c, fun i => (r i).m⟩, rfl, ⟨fun _ => rfl, fun i hi => (hr i hi).1, fun i hi => (hr i hi).2.ok⟩, by unfold maxLen at hm; show len' ≤ _; omega, fun i hi => (hr i hi).2⟩
end
end
section
open Go.RowKit
def szc (c : Ct) : Nat → Nat
 | 1 => c.ni
 | 2 => c.ns
 | 6 => c.k.n
 | 28 => c.x.nh
 | 29 => preS c.x.ln c.x.nn
 | 30 => c.x.na
 | 31 => c.x.nd
 | 32 => c.x.np
 | 33 => c.ng
 | _ => 1
def kcc (c : Ct) (k t : Nat) : Nat := k + preS (szc c) t
def fl (k : Nat) : Value := .bool ((k : Int) % 3 == 0)
def mk1 (k : Nat) : Value := .int .i64 (k : Int)
def mkL (c : Ct) (m : CtPl) (K : Nat → Nat) : List Value :=
 [mk1 (K 0), .slice m.i.ad c.ni m.i.cap, .slice m.s.ad c.ns m.s.cap, mk1 (K 3), mk1 (K 4), mk1 (K 5), .slice m.k.ad c.k.n m.k.cap, mk1 (K 7), mk1 (K 8), mk1 (K 9), mk1 (K 10), mk1 (K 11), mk1 (K 12), mk1 (K 13), mk1 (K 14), mk1 (K 15), fl (K 16), mk1 (K 17), mk1 (K 18), mk1 (K 19), mk1 (K 20), mk1 (K 21), mk1 (K 22), mk1 (K 23), mk1 (K 24), fl (K 25), mk1 (K 26), mk1 (K 27),
  .slice m.x.h.ad c.x.nh m.x.h.cap, .slice m.x.n.ad c.x.nn m.x.n.cap, .slice m.x.a.ad c.x.na m.x.a.cap, .slice m.x.d.ad c.x.nd m.x.d.cap, .slice m.x.p.ad c.x.np m.x.p.cap, .slice m.g.ad c.ng m.g.cap]
def PtS (c : Ct) (m : CtPl) : Nat → Nat → Prop
 | 0 => One c.ni m.i.b
 | 1 => One c.ns m.s.b
 | 2 => One c.k.n m.k.b
 | 3 => One c.x.nh m.x.h.b
 | 4 => NsS m.x.ni c.x.nn c.x.ln
 | 5 => One c.x.na m.x.a.b
 | 6 => One c.x.nd m.x.d.b
 | 7 => One c.x.np m.x.p.b
 | 8 => One c.ng m.g.b
 | _ => fun _ => False
def PtT (c : Ct) (m : CtPl) (r b : Nat) : Prop := PtS c m r b ∨ (r = 4 ∧ One c.x.nn m.x.n.b b)
def PtW (w : World) (c : Ct) (m : CtPl) : Nat → Prop
 | 0 => SAny w m.i.ad m.i.b m.i.off c.ni
 | 1 => SAny w m.s.ad m.s.b m.s.off c.ns
 | 2 => Own w m.k.ad m.k.b m.k.off c.k.n c.k.f
 | 3 => SAny w m.x.h.ad m.x.h.b m.x.h.off c.x.nh
 | 4 => NOw w m.x.n m.x.ni c.x.nn c.x.ln c.x.fn
 | 5 => SAny w m.x.a.ad m.x.a.b m.x.a.off c.x.na
 | 6 => SAny w m.x.d.ad m.x.d.b m.x.d.off c.x.nd
 | 7 => Own w m.x.p.ad m.x.p.b m.x.p.off c.x.np c.x.fp
 | 8 => BOwn w m.g.ad m.g.b m.g.off c.ng c.fg
 | _ => True
def PtH (c : Ct) (m : CtPl) (K : Nat → Nat) : Nat → World → Prop
 | 0 => HdC 45 (.slice m.i.ad c.ni m.i.cap) (K 1) (K 2) (PtT c m 0)
 | 1 => HdC 45 (.slice m.s.ad c.ns m.s.cap) (K 2) (K 3) (PtT c m 1)
 | 2 => HdC 46 (.slice m.k.ad c.k.n m.k.cap) (K 6) (K 7) (PtT c m 2)
 | 3 => HdC 45 (.slice m.x.h.ad c.x.nh m.x.h.cap) (K 28) (K 29) (PtT c m 3)
 | 4 => HdC 47 (.slice m.x.n.ad c.x.nn m.x.n.cap) (K 29) (K 30) (PtT c m 4)
 | 5 => HdC 45 (.slice m.x.a.ad c.x.na m.x.a.cap) (K 30) (K 31) (PtT c m 5)
 | 6 => HdC 45 (.slice m.x.d.ad c.x.nd m.x.d.cap) (K 31) (K 32) (PtT c m 6)
 | 7 => HdC 46 (.slice m.x.p.ad c.x.np m.x.p.cap) (K 32) (K 33) (PtT c m 7)
 | 8 => HdC 48 (.slice m.g.ad c.ng m.g.cap) (K 33) (K 34) (PtT c m 8)
 | _ => fun _ => True
theorem NOw.agr {w W : World} {p : Plc} {q : Nat → Plc} {n : Nat} {ln : Nat → Nat} {f : Nat → Nat → Int} (h : NOw w p q n ln f) (e : AgS (fun b => NsS q n ln b ∨ One n p.b b) w W) : NOw W p q n ln f := by
 have ho : ∀ i, i < n → Own W (q i).ad (q i).b (q i).off (ln i) (f i) := fun i hi => Own.blkI (h.own i hi) (fun h0 => e.2 _ (.inl ⟨i, hi, h0, rfl⟩) ((h.own i hi).lt h0))
 exact ⟨⟨h.seg.at', fun i hi => (World.cell?_of_block (a := ⟨p.b, p.off + i, none⟩) (e.2 _ (.inr ⟨by omega, rfl⟩) (World.block_lt_of_cell? _ _ (h.seg.cell i hi)))).trans (h.seg.cell i hi), fun i hi => (ho i hi).toSeg⟩, ho, h.sep, h.out⟩
theorem PtW.agr {w W : World} {c : Ct} {m : CtPl} {r : Nat} (h : PtW w c m r) (e : AgS (PtT c m r) w W) : PtW W c m r := by
 match r, h, e with
 | 0, h, e => exact SAny.of_blk h (fun h0 => e.2 _ (.inl ⟨h0, rfl⟩) (SAny.lt h h0))
 | 1, h, e => exact SAny.of_blk h (fun h0 => e.2 _ (.inl ⟨h0, rfl⟩) (SAny.lt h h0))
 | 2, h, e =>
  have h' : Own w m.k.ad m.k.b m.k.off c.k.n c.k.f := h
  exact h'.blkI (fun h0 => e.2 _ (.inl ⟨h0, rfl⟩) (h'.lt h0))
 | 3, h, e => exact SAny.of_blk h (fun h0 => e.2 _ (.inl ⟨h0, rfl⟩) (SAny.lt h h0))
 | 4, h, e => exact NOw.agr h (e.sub (fun b hb => hb.elim (fun k => .inl k) (fun k => .inr ⟨rfl, k⟩)))
 | 5, h, e => exact SAny.of_blk h (fun h0 => e.2 _ (.inl ⟨h0, rfl⟩) (SAny.lt h h0))
 | 6, h, e => exact SAny.of_blk h (fun h0 => e.2 _ (.inl ⟨h0, rfl⟩) (SAny.lt h h0))
 | 7, h, e =>
  have h' : Own w m.x.p.ad m.x.p.b m.x.p.off c.x.np c.x.fp := h
  exact h'.blkI (fun h0 => e.2 _ (.inl ⟨h0, rfl⟩) (h'.lt h0))
 | 8, h, e =>
  have h' : BOwn w m.g.ad m.g.b m.g.off c.ng c.fg := h
  have eq : 0 < c.ng → W.heap[m.g.b]? = w.heap[m.g.b]? := fun h0 => e.2 _ (.inl ⟨h0, rfl⟩) (h'.lt h0)
  exact ⟨⟨h'.at', fun i hi => (World.cell?_of_block (a := ⟨m.g.b, m.g.off + i, none⟩) (eq (by omega))).trans (h'.cell i hi)⟩, fun i hi => (World.frozen?_of_block (a := ⟨m.g.b, m.g.off + i, none⟩) (eq (by omega))).trans (h'.free i hi)⟩
 | _ + 9, _, _ => exact trivial
theorem PtH.agr {w W : World} {c : Ct} {m : CtPl} {K : Nat → Nat} {r : Nat} (h : PtH c m K r w) (e : AgS (PtT c m r) w W) : PtH c m K r W := by
 match r, h, e with
 | 0, h, e => exact HdC.agr h e
 | 1, h, e => exact HdC.agr h e
 | 2, h, e => exact HdC.agr h e
 | 3, h, e => exact HdC.agr h e
 | 4, h, e => exact HdC.agr h e
 | 5, h, e => exact HdC.agr h e
 | 6, h, e => exact HdC.agr h e
 | 7, h, e => exact HdC.agr h e
 | 8, h, e => exact HdC.agr h e
 | _ + 9, _, _ => exact trivial
def kn (c : Nat → Ct) (k i : Nat) : Nat := k + preS (fun i => preS (szc (c i)) 34) i
structure COw (w : World) (p : Plc) (n : Nat) (c : Nat → Ct) (m : Nat → CtPl) : Prop where
 seg : CSeg w p n c m
 fz : ∀ i, i < n → ∀ t, t < 34 → w.frozen? ⟨p.b, p.off + i * 34 + t, none⟩ = false
 own : ∀ i, i < n → ∀ r, r < 9 → PtW w (c i) (m i) r
 sep : ∀ i i' r r', i < n → i' < n → r < 9 → r' < 9 → (i ≠ i' ∨ r ≠ r') → ∀ b, PtT (c i) (m i) r b → ¬ PtT (c i') (m i') r' b
 out : ∀ i r, i < n → r < 9 → ∀ b, PtT (c i) (m i) r b → b ≠ p.b
def Sdn (p : Plc) (n : Nat) (c : Nat → Ct) (m : Nat → CtPl) (j r b : Nat) : Prop := One n p.b b ∨ (∃ i r', i < j ∧ r' < 9 ∧ PtS (c i) (m i) r' b) ∨ ∃ r', r' < r ∧ PtS (c j) (m j) r' b
structure CMk (w W : World) (p : Plc) (n : Nat) (c : Nat → Ct) (m : Nat → CtPl) (k j r : Nat) (L : List Value) : Prop where
 cur : j < n → ∀ t v, t < 34 → L[t]? = some v → W.cell? ⟨p.b, p.off + j * 34 + t, none⟩ = some v ∧ W.frozen? ⟨p.b, p.off + j * 34 + t, none⟩ = false
 oth : ∀ i, i < n → i ≠ j → ∀ t v, t < 34 → (if i < j then mkL (c i) (m i) (kcc (c i) (kn c k i)) else ctL (c i) (m i))[t]? = some v → W.cell? ⟨p.b, p.off + i * 34 + t, none⟩ = some v ∧ W.frozen? ⟨p.b, p.off + i * 34 + t, none⟩ = false
 msm : Msm (Sdn p n c m j r) w W
 held : ∀ i r', (i < j ∧ r' < 9) ∨ (i = j ∧ r' < r) → PtH (c i) (m i) (kcc (c i) (kn c k i)) r' W
theorem CMk.start {w : World} {p : Plc} {n k : Nat} {c : Nat → Ct} {m : Nat → CtPl} (h : COw w p n c m) : CMk w w p n c m k 0 0 (ctL (c 0) (m 0)) :=
 ⟨fun hj t v ht hv => ⟨h.seg.cell 0 hj t v hv, h.fz 0 hj t ht⟩, fun i hi _ t v ht hv => by
  rw [if_neg (by omega)] at hv
  exact ⟨h.seg.cell i hi t v hv, h.fz i hi t ht⟩, Msm.of_ext (Ext.refl _), fun i r' hh => by omega⟩
theorem CMk.store {w W : World} {p : Plc} {n k j r : Nat} {c : Nat → Ct} {m : Nat → CtPl} {L : List Value} (h : CMk w W p n c m k j r L) (hO : COw w p n c m) (hj : j < n) (hr : r ≤ 9) (t : Nat) (ht : t < 34) (hl : L.length = 34) (v : Value) : CMk w (W.setCell ⟨p.b, p.off + j * 34 + t, none⟩ v) p n c m k j r (L.set t v) := by
 refine ⟨fun _ s u hs hu => ?_, fun i hi hne s u hs hu => ?_, ⟨h.msm.os, h.msm.tape, h.msm.output, by simp [World.setCell]; exact h.msm.size, fun q hq hn => ?_⟩, fun i r' hh => ?_⟩
 ·rw [World.frozen?_setCell]
  by_cases e : s = t
  ·subst e
   rw [List.getElem?_set_self (by omega)] at hu
   simp only [Option.some.injEq] at hu
   subst hu
   obtain ⟨v0, hv0⟩ : ∃ v0, L[s]? = some v0 := ⟨_, List.getElem?_eq_getElem (by omega)⟩
   exact ⟨World.cell?_setCell_same _ _ _ (h.cur hj s v0 hs hv0).1, (h.cur hj s v0 hs hv0).2⟩
  ·rw [List.getElem?_set_ne (by omega)] at hu
   have := h.cur hj s u hs hu
   exact ⟨by rw [World.cell?_setCell_other _ _ _ _ (fun e2 => by have := congrArg Addr.off e2; simp at this; omega)]; exact this.1, this.2⟩
 ·rw [World.frozen?_setCell]
  have := h.oth i hi hne s u hs hu
  exact ⟨by rw [World.cell?_setCell_other _ _ _ _ (fun e2 => by have := congrArg Addr.off e2; simp at this; omega)]; exact this.1, this.2⟩
 ·rw [Below.heap_setCell _ _ _ _ (fun e => hn (.inl ⟨by omega, e⟩))]
  exact h.msm.same q hq hn
 ·refine (h.held i r' hh).agr ⟨by simp [World.setCell], fun b hb _ => Below.heap_setCell _ _ _ _ (hO.out i r' (by omega) (by omega) b hb)⟩
theorem PtS.t {c : Ct} {m : CtPl} {r b : Nat} (h : PtS c m r b) : PtT c m r b := .inl h
theorem CMk.own {w W : World} {p : Plc} {n k j r : Nat} {c : Nat → Ct} {m : Nat → CtPl} {L : List Value} (h : CMk w W p n c m k j r L) (hO : COw w p n c m) (hj : j < n) (hr : r < 9) : PtW W (c j) (m j) r := by
 refine (hO.own j hj r hr).agr (h.msm.agr (fun q hq hs => ?_))
 rcases hs with ⟨_, e⟩ | ⟨i, r', hi, hr', hs⟩ | ⟨r', hr', hs⟩
 ·exact hO.out j r hj hr q hq e
 ·exact hO.sep i j r' r (by omega) hj hr' hr (.inl (by omega)) q hs.t hq
 ·exact hO.sep j j r' r hj hj (by omega) hr (.inr (by omega)) q hs.t hq
theorem CMk.mark {w W W1 : World} {p : Plc} {n k j r : Nat} {c : Nat → Ct} {m : Nat → CtPl} {L : List Value} (h : CMk w W p n c m k j r L) (hO : COw w p n c m) (hj : j < n) (hr : r < 9) (hM : Msm (PtS (c j) (m j) r) W W1) (hH : PtH (c j) (m j) (kcc (c j) (kn c k j)) r W1) : CMk w W1 p n c m k j (r + 1) L := by
 have hb : ∀ t i, i < n → ∀ v, W.cell? ⟨p.b, p.off + i * 34 + t, none⟩ = some v → W1.heap[p.b]? = W.heap[p.b]? := fun t i hi v hv => hM.same _ (World.block_lt_of_cell? _ _ hv) (fun hs => hO.out j r hj hr _ hs.t rfl)
 refine ⟨fun hj' t v ht hv => ?_, fun i hi hne t v ht hv => ?_, (h.msm.mono (fun q hq => ?_)).trans (hM.mono (fun q hq => .inr (.inr ⟨r, Nat.lt_succ_self _, hq⟩))), fun i r' hh => ?_⟩
 ·obtain ⟨h1, h2⟩ := h.cur hj' t v ht hv
  have e := hb t j hj' v h1
  exact ⟨(World.cell?_of_block (a := ⟨p.b, p.off + j * 34 + t, none⟩) e).trans h1, (World.frozen?_of_block (a := ⟨p.b, p.off + j * 34 + t, none⟩) e).trans h2⟩
 ·obtain ⟨h1, h2⟩ := h.oth i hi hne t v ht hv
  have e := hb t i hi v h1
  exact ⟨(World.cell?_of_block (a := ⟨p.b, p.off + i * 34 + t, none⟩) e).trans h1, (World.frozen?_of_block (a := ⟨p.b, p.off + i * 34 + t, none⟩) e).trans h2⟩
 ·rcases hq with e | h1 | ⟨r', hr', h1⟩
  ·exact .inl e
  ·exact .inr (.inl h1)
  ·exact .inr (.inr ⟨r', by omega, h1⟩)
 ·by_cases e : i = j ∧ r' = r
  ·obtain ⟨rfl, rfl⟩ := e
   exact hH
  ·refine (h.held i r' (by omega)).agr (hM.agr (fun q hq hs => hO.sep i j r' r (by omega) hj (by omega) hr (by omega) q hq hs.t))
theorem CMk.next {w W : World} {p : Plc} {n k j : Nat} {c : Nat → Ct} {m : Nat → CtPl} (h : CMk w W p n c m k j 9 (mkL (c j) (m j) (kcc (c j) (kn c k j)))) (hj : j < n) : CMk w W p n c m k (j + 1) 0 (ctL (c (j + 1)) (m (j + 1))) := by
 refine ⟨fun hj' t v ht hv => h.oth (j + 1) hj' (by omega) t v ht (by rw [if_neg (by omega)]; exact hv), fun i hi hne t v ht hv => ?_, h.msm.mono (fun q hq => ?_), fun i r' hh => h.held i r' (by omega)⟩
 ·by_cases e : i = j
  ·subst e
   rw [if_pos (by omega)] at hv
   exact h.cur hi t v ht hv
  ·refine h.oth i hi e t v ht ?_
   by_cases h1 : i < j
   ·rw [if_pos h1]; rwa [if_pos (by omega)] at hv
   ·rw [if_neg h1]; rwa [if_neg (by omega)] at hv
 ·rcases hq with e | ⟨i, r', h1, h2, h3⟩ | ⟨r', hr', h1⟩
  ·exact .inl e
  ·exact .inr (.inl ⟨i, r', by omega, h2, h3⟩)
  ·exact .inr (.inl ⟨j, r', by omega, hr', h1⟩)
def upL (c : Ct) (m : CtPl) (K : Nat → Nat) (t : Nat) : List Value := (mkL c m K).take t ++ (ctL c m).drop t
theorem upL_len (c : Ct) (m : CtPl) (K : Nat → Nat) (t : Nat) (ht : t ≤ 34) : (upL c m K t).length = 34 := by
 unfold upL
 rw [List.length_append, List.length_take, List.length_drop, ctL_len, show (mkL c m K).length = 34 from rfl]
 omega
def CsS (p : Plc) (n : Nat) (c : Nat → Ct) (m : Nat → CtPl) : Nat → Prop := Sdn p n c m n 0
def CsT (p : Plc) (n : Nat) (c : Nat → Ct) (m : Nat → CtPl) (b : Nat) : Prop := One n p.b b ∨ ∃ i r, i < n ∧ r < 9 ∧ PtT (c i) (m i) r b
end
end Go.Proofs.YtfhiiakoilkbkaaGreatDoor
