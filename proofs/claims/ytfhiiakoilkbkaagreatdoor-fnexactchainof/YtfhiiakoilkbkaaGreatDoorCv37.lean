/- Walks: the program copies a list of certificates. Lists as fields of a copy: one's own, and where they lie. Walks: a copy of a key, whose numbers are one's own; markKey. -/
import Derived.Test.YtfhiiakoilkbkaaGreatDoorCv36
namespace Go.Proofs.YtfhiiakoilkbkaaGreatDoor
set_option linter.unusedVariables false
set_option linter.unusedSimpArgs false
section
open Go.RowKit
theorem SSeg.blkC {w w' : World} {a : Option Addr} {b off n : Nat} {f : Nat → ByteArray} (h : SSeg w a b off n f) (e : 0 < n → w'.heap[b]? = w.heap[b]?) : SSeg w' a b off n f := ⟨h.at', fun j hj => (World.cell?_of_block (a := ⟨b, off + j, none⟩) (e (by omega))).trans (h.cell j hj)⟩
theorem CtN.keep {B T : Nat} {w W : World} {c : Ct} {m : CtPl} (h : CtN B T w c m) (hz : w.heap.size ≤ W.heap.size) (e : ∀ b, B ≤ b → b < T → b < w.heap.size → W.heap[b]? = w.heap[b]?) : CtN B T W c m := by
 have hA : ∀ r, r < 9 → AgS (PtT c m r) w W := fun r hr => ⟨hz, fun b hb hl => by have := h.iv r hr b hb; exact e b this.1 this.2 hl⟩
 have ho : ∀ r, r < 9 → PtW W c m r := fun r hr => (h.own r hr).agr (hA r hr)
 have hb : ∀ r, r < 9 → ∀ b, PtT c m r b → b < w.heap.size → W.heap[b]? = w.heap[b]? := fun r hr b hb hl => (hA r hr).2 b hb hl
 have k2 : Own W m.k.ad m.k.b m.k.off c.k.n c.k.f := ho 2 (by decide)
 have k4 : NOw W m.x.n m.x.ni c.x.nn c.x.ln c.x.fn := ho 4 (by decide)
 have k7 : Own W m.x.p.ad m.x.p.b m.x.p.off c.x.np c.x.fp := ho 7 (by decide)
 have k8 : BOwn W m.g.ad m.g.b m.g.off c.ng c.fg := ho 8 (by decide)
 refine ⟨⟨h.inn.i.blkC (fun h0 => hb 0 (by decide) _ (.inl ⟨h0, rfl⟩) (World.block_lt_of_cell? _ _ (h.inn.i.cell 0 h0))), h.inn.s.blkC (fun h0 => hb 1 (by decide) _ (.inl ⟨h0, rfl⟩) (World.block_lt_of_cell? _ _ (h.inn.s.cell 0 h0))), k2.toSeg, ⟨h.inn.x.h.blkC (fun h0 => hb 3 (by decide) _ (.inl ⟨h0, rfl⟩) (World.block_lt_of_cell? _ _ (h.inn.x.h.cell 0 h0))), k4.seg, h.inn.x.a.blkC (fun h0 => hb 5 (by decide) _ (.inl ⟨h0, rfl⟩) (World.block_lt_of_cell? _ _ (h.inn.x.a.cell 0 h0))), h.inn.x.d.blkC (fun h0 => hb 6 (by decide) _ (.inl ⟨h0, rfl⟩) (World.block_lt_of_cell? _ _ (h.inn.x.d.cell 0 h0))), k7.toSeg⟩, k8.toBSeg⟩, ho, h.sep, h.iv⟩
theorem CtN.wide {B T B' T' : Nat} {w : World} {c : Ct} {m : CtPl} (h : CtN B T w c m) (hB : B' ≤ B) (hT : T ≤ T') : CtN B' T' w c m := ⟨h.inn, h.own, h.sep, fun r hr b hb => by have := h.iv r hr b hb; omega⟩
structure CMo (w wr : World) (n k : Nat) (c : Nat → Ct) (m : Nat → CtPl) (t : Nat → Nat) : Prop extends CMade w wr n k c m where
 ct : ∀ i, i < k → CtN (t i) (t (i + 1)) wr (c i) (m i)
 up : ∀ i, i < k → t i ≤ t (i + 1)
 t0 : w.heap.size + 1 ≤ t 0
 tk : t k ≤ wr.heap.size
theorem CMo.mono {w wr : World} {n k : Nat} {c : Nat → Ct} {m : Nat → CtPl} {t : Nat → Nat} (h : CMo w wr n k c m t) {i j : Nat} (hij : i ≤ j) (hj : j ≤ k) : t i ≤ t j := by
 induction j with
 | zero => rw [show i = 0 by omega]; exact Nat.le_refl _
 | succ j ih =>
  by_cases e : i = j + 1
  ·rw [e]; exact Nat.le_refl _
  ·exact Nat.le_trans (ih (by omega) (by omega)) (h.up j (by omega))
theorem CMo.step {w wr W1 W : World} {n k : Nat} {c : Nat → Ct} {m : Nat → CtPl} {t : Nat → Nat} {p : CtPl} (h : CMo w wr n k c m t) (hk : k < n) (e1 : Ext wr W1) (e : Ext W1 W) (hp : CpCt W1 W (c k) p) :
  CMo w (putL w.heap.size (k * 34) (ctL (c k) p) W) n (k + 1) c (fun i => if i = k then p else m i) (fun i => if i = k + 1 then W.heap.size else t i) := by
 have z1 := Below.size e1
 have z2 := Below.size e
 have hl := h.lt
 have hm := h.toCMade.step hk (e1.trans e) (p := p) (fun w'' k2 => (hp w'' (k2.mono z1)).inn)
 have hb : ∀ b, w.heap.size + 1 ≤ b → (putL w.heap.size (k * 34) (ctL (c k) p) W).heap[b]? = W.heap[b]? := fun b hb => by
  by_cases hlt : b < W.heap.size
  ·exact (Kp.putL (N := w.heap.size + 1) (Nat.lt_succ_self _) _ _ W).2 b hb hlt
  ·rw [Array.getElem?_eq_none (by rw [size_putL]; omega), Array.getElem?_eq_none (by omega)]
 have hk0 := h.tk
 refine ⟨hm, fun i hi => ?_, fun i hi => ?_, ?_, ?_⟩
 ·by_cases ei : i = k
  ·subst ei
   simp only [if_true, show i ≠ i + 1 by omega, if_false]
   have := hp W (Kp.refl _ _)
   refine (this.keep (by rw [size_putL]; exact Nat.le_refl _) (fun b h1 _ _ => hb b (by omega))).wide (by omega) (Nat.le_refl _)
  ·simp only [ei, if_false, show i ≠ k + 1 by omega, show i + 1 ≠ k + 1 by omega]
   refine (h.ct i (by omega)).keep (by rw [size_putL]; omega) (fun b h1 h2 h3 => ?_)
   have h0 := h.mono (i := 0) (j := i) (by omega) (by omega)
   have := h.t0
   exact (hb b (by omega)).trans ((Below.block e b (by omega)).trans (Below.block e1 b h3))
 ·by_cases ei : i = k
  ·subst ei
   simp only [if_true, show i ≠ i + 1 by omega, if_false]
   omega
  ·simp only [show i ≠ k + 1 by omega, show i + 1 ≠ k + 1 by omega, if_false]
   exact h.up i (by omega)
 ·simp only [show (0 : Nat) ≠ k + 1 by omega, if_false]; exact h.t0
 ·simp only [if_true]; rw [size_putL]; exact Nat.le_refl _
def CpCs (W w' : World) (n : Nat) (c : Nat → Ct) (q : Plc) (m : Nat → CtPl) : Prop := ∀ w'', Kp W.heap.size w' w'' → COw w'' q n c m ∧ ∀ b, CsT q n c m b → W.heap.size ≤ b ∧ b < w'.heap.size
theorem CMo.cps {w w' : World} {n : Nat} {c : Nat → Ct} {m : Nat → CtPl} {t : Nat → Nat} (h : CMo w w' n n c m t) : CpCs w w' n c ⟨some ⟨w.heap.size, 0, none⟩, w.heap.size, 0, n⟩ m := fun w'' k => by
 have hr : w''.heap[w.heap.size]? = w'.heap[w.heap.size]? := k.2 _ (Nat.le_refl _) h.lt
 have t0 := h.t0
 have tk := h.tk
 have hc : ∀ i, i < n → CtN (t i) (t (i + 1)) w'' (c i) (m i) := fun i hi => (h.ct i hi).keep k.1 (fun b h1 _ h3 => k.2 b (by have := h.mono (i := 0) (j := i) (by omega) (by omega); omega) h3)
 have iv : ∀ i r b, i < n → r < 9 → PtT (c i) (m i) r b → w.heap.size + 1 ≤ b ∧ b < w'.heap.size ∧ t i ≤ b ∧ b < t (i + 1) := fun i r b hi hr hb => by
  have h1 := (hc i hi).iv r hr b hb
  have h2 := h.mono (i := 0) (j := i) (by omega) (by omega)
  have h3 := h.mono (i := i + 1) (j := n) (by omega) (by omega)
  omega
 refine ⟨⟨⟨fun _ => rfl, fun i hi j v hv => ?_, fun i hi => (hc i hi).inn⟩, fun i hi s hs => ?_, fun i hi r hr => (hc i hi).own r hr, fun i i' r r' hi hi' hr hr' hne b k1 k2 => ?_, fun i r hi hr b hb => by have := iv i r b hi hr hb; show b ≠ w.heap.size; omega⟩, fun b hb => ?_⟩
 ·show w''.cell? ⟨w.heap.size, 0 + i * 34 + j, none⟩ = _
  rw [Nat.zero_add]
  exact (World.cell?_of_block (a := ⟨w.heap.size, i * 34 + j, none⟩) hr).trans (h.done i hi j v hv)
 ·show w''.frozen? ⟨w.heap.size, 0 + i * 34 + s, none⟩ = _
  rw [Nat.zero_add]
  refine (World.frozen?_of_block (a := ⟨w.heap.size, i * 34 + s, none⟩) hr).trans (h.row _ ?_).2
  have : (i + 1) * 34 ≤ n * 34 := Nat.mul_le_mul_right _ hi
  omega
 ·by_cases e : i = i'
  ·subst e
   exact (hc i hi).sep r r' hr hr' (by omega) b k1 k2
  ·have e1 := iv i r b hi hr k1
   have e2 := iv i' r' b hi' hr' k2
   rcases Nat.lt_or_gt_of_ne e with e3 | e3
   ·have := h.mono (i := i + 1) (j := i') (by omega) (by omega); omega
   ·have := h.mono (i := i' + 1) (j := i) (by omega) (by omega); omega
 ·rcases hb with ⟨-, rfl⟩ | ⟨i, r, hi, hr, hb⟩
  ·exact ⟨Nat.le_refl _, h.lt⟩
  ·have := iv i r b hi hr hb; omega
set_option maxHeartbeats 6400000 in
set_option maxRecDepth 100000 in
theorem mappedCerts_any (p : Plc) (n : Nat) (c : Nat → Ct) (m : Nat → CtPl) (w : World) (hs : CSeg w p n c m) (hn : n ≤ 1048576) (hl : ∀ i, i < n → CtSm (c i) 1048576) :
  Calls Tryz.prog 33 #[.slice p.ad n p.cap, .func (.func 35) #[] #[]] w fun e w' => ∃ (q : Plc) (m' : Nat → CtPl), e = .returned (.slice q.ad n q.cap) ∧ CpCs w w' n c q m' ∧ Ext w w' := by
 have hmk := run_make_cts n hn
 have Hs := hide hs
 have Hl := hide hl
 have HM0 : Hid (∀ A : Array Value, n * 34 ≤ A.size → CMo w (w.alloc (.cells A 54)) n 0 c m (fun _ => w.heap.size + 1)) := fun A hA =>
  ⟨⟨Ext.alloc _ _, by simp, fun j hj => made_cells w A _ j (by omega), fun i hi => absurd hi (Nat.not_lt_zero _), fun i hi => absurd hi (Nat.not_lt_zero _)⟩, fun i hi => absurd hi (Nat.not_lt_zero _), fun i hi => absurd hi (Nat.not_lt_zero _), Nat.le_refl _, by simp⟩
 have HM1 := hide (HM0.out (madeCells #[.int .i64 0, .slice none 0 0, .slice none 0 0, .int .i64 0, .int .i64 0, .int .i64 0, .slice none 0 0, .int .i64 0, .int .i64 0, .int .i64 0, .int .i64 0, .int .i64 0, .int .i64 0, .int .i64 0, .int .i64 0, .int .i64 0, .bool false, .int .i64 0, .int .i64 0, .int .i64 0, .int .i64 0, .int .i64 0, .int .i64 0, .int .i64 0, .int .i64 0, .bool false, .int .i64 0, .int .i64 0, .slice none 0 0, .slice none 0 0, .slice none 0 0, .slice none 0 0, .slice none 0 0, .slice none 0 0] (n * 34)) (Nat.le_of_eq (size_madeCells _ _).symm))
 clear hs hl HM0
 generalize madeCells #[.int .i64 0, .slice none 0 0, .slice none 0 0, .int .i64 0, .int .i64 0, .int .i64 0, .slice none 0 0, .int .i64 0, .int .i64 0, .int .i64 0, .int .i64 0, .int .i64 0, .int .i64 0, .int .i64 0, .int .i64 0, .int .i64 0, .bool false, .int .i64 0, .int .i64 0, .int .i64 0, .int .i64 0, .int .i64 0, .int .i64 0, .int .i64 0, .int .i64 0, .bool false, .int .i64 0, .int .i64 0, .slice none 0 0, .slice none 0 0, .slice none 0 0, .slice none 0 0, .slice none 0 0, .slice none 0 0] (n * 34) = A at *
 obtain ⟨ad, b, off, cap⟩ := p
 dsimp only
 go_enter Tryz.func33, Tryz.ntmps33
 go_wp2
 clear hmk
 go_loopw [6, 7, 13] (fun _ _ i wr => ∃ (k : Nat) (m' : Nat → CtPl) (t : Nat → Nat), k ≤ n ∧ i = .int .i64 k ∧ CMo w wr n k c m' t) (fun _ _ i _ => n - (intOf i).toNat)
 case atStart => exact ⟨0, m, _, Nat.zero_le _, rfl, HM1.out⟩
 case round =>
  clear HM1
  obtain ⟨k, m', t, hk, rfl, hI⟩ := hrel
  have HI := hide hI
  by_cases hlt : k < n
  ·have hat := Hs.out.at' (by omega)
   dsimp only at hat
   subst hat
   have hs' := Hs.out.ext hI.ext
   have hld := hs'.ld k hlt
   have hkn : (k : Int) < (n : Int) := by omega
   dsimp only at hld
   have hG : ∀ (args : Array Value) (w : World), (callFunc 35 args).run Tryz.prog w = .ok (.enter 35 args) w := fun _ _ => by kernel_rfl
   have HT : Hid (∀ W, Ext wr W → Calls Tryz.prog 35 #[.agg (ctL (c k) (m k)).toArray] W fun e w' => ∃ q : CtPl, e = .returned (.agg (ctL (c k) q).toArray) ∧ CpCt W w' (c k) q ∧ Ext W w') := hide (fun W hW => copiedCert_any (c k) (m k) W ((hs'.each k hlt).ext hW) (Hl.out k hlt))
   have h6 : (ctL (c k) (m k)).length = 34 := rfl
   have ho : ∀ v ∈ ctL (c k) (m k), v.oneCell' = true := by simp [ctL, kyL, exL, Value.oneCell']
   obtain ⟨V1, hst1, hB1, hE1⟩ : ∃ U, (Instr.storeAt 54 (.pointer (some ⟨wr.heap.size, 0, none⟩)) (.agg (ctL (c k) (m k)).toArray)).run Tryz.prog (wr.alloc (.cells #[.int .i64 0, .slice none 0 0, .slice none 0 0, .int .i64 0, .int .i64 0, .int .i64 0, .slice none 0 0, .int .i64 0, .int .i64 0, .int .i64 0, .int .i64 0, .int .i64 0, .int .i64 0, .int .i64 0, .int .i64 0, .int .i64 0, .bool false, .int .i64 0, .int .i64 0, .int .i64 0, .int .i64 0, .int .i64 0, .int .i64 0, .int .i64 0, .int .i64 0, .bool false, .int .i64 0, .int .i64 0, .slice none 0 0, .slice none 0 0, .slice none 0 0, .slice none 0 0, .slice none 0 0, .slice none 0 0] 54)) = .ok () U ∧ Blk U wr.heap.size (ctL (c k) (m k)) ∧ Ext wr U := by
    have hB := Blk.alloc wr zC 54
    exact ⟨_, run_st (P := Tryz.prog) 54 (ctL (c k) (m k)) _ (by kernel_rfl) ho wr.heap.size 0 (Blk.st hB 0 _ (by rw [h6]; decide)), Blk.putAll1 (vs := ctL (c k) (m k)) hB (by rw [h6]; rfl), below_putL (Nat.le_refl _) _ 0 _ (Ext.alloc _ _)⟩
   have hld2 := run_ld (P := Tryz.prog) 54 (ctL (c k) (m k)) V1 (by kernel_rfl) (by kernel_rfl) wr.heap.size 0 (Blk.ld hB1 0 _ (fun j v h => by rw [Nat.zero_add]; exact h))
   have HE1 := hide hE1
   generalize ctL (c k) (m k) = L at *
   clear hI hs' hB1 hE1 h6 ho
   go_wp2_with (first | (refine wpList_ld (by first | rfl | simp [Region.wanted, yielded]) 54 _ rfl _ rfl _ hld ?_) | (refine wpList_ld (by first | rfl | simp [Region.wanted, yielded]) 54 _ rfl _ rfl _ hld2 ?_) | (refine wpList_st (by first | rfl | simp [Region.wanted, yielded]) 54 _ _ rfl _ rfl _ rfl _ hst1 ?_))
   refine (HT.out _ HE1.out).mono ?_
   rintro e W ⟨q, rfl, hq, hE⟩
   have hput := HI.out.step hlt HE1.out hE hq
   have hE2 := HE1.out.trans hE
   have hst := run_st (P := Tryz.prog) 54 (ctL (c k) q) W (by kernel_rfl) (by simp [ctL, kyL, exL, Value.oneCell']) w.heap.size (k * 34) (fun j hj => by
    have hj2 : j < 34 := hj
    have h1 := HI.out.row (k * 34 + j) (by have : (k + 1) * 34 ≤ n * 34 := Nat.mul_le_mul_right _ hlt; omega)
    rw [Below.cell hE2 (p := ⟨w.heap.size, k * 34 + j, none⟩) HI.out.lt, Below.frozen hE2 (p := ⟨w.heap.size, k * 34 + j, none⟩) HI.out.lt]
    exact ⟨Option.isSome_iff_exists.1 h1.1, h1.2⟩)
   have HP := hide hput
   generalize putL w.heap.size (k * 34) (ctL (c k) q) W = W2 at *
   generalize ctL (c k) q = L2 at *
   clear hput hq hE HT hld HI hE2 hG hld2 hst1
   go_wp2_with (refine wpList_st (by first | rfl | simp [Region.wanted, yielded]) 54 _ _ rfl _ rfl _ rfl _ hst ?_)
   go_roundw
   case rel => exact ⟨k + 1, _, _, by omega, by go_num, HP.out⟩
   case measure => simp [intOf]; omega
  ·obtain rfl : k = n := by omega
   clear hI
   go_wp2
   go_ret
   exact ⟨⟨some ⟨w.heap.size, 0, none⟩, w.heap.size, 0, k⟩, m', rfl, HI.out.cps, HI.out.ext⟩
end
section
set_option maxRecDepth 100000
open Go.RowKit
theorem toStrs_kpO (p : Plc) (n : Nat) (f : Nat → ByteArray) (W : World) (hs : SSeg W p.ad p.b p.off n f) (hn : n ≤ 1048576) :
  Calls Tryz.prog 26 #[.slice p.ad n p.cap] W fun e w' => ∃ q : Plc, e = .returned (.slice q.ad n q.cap) ∧ (∀ w'', Kp W.heap.size w' w'' → (SSeg w'' q.ad q.b q.off n f ∧ SAny w'' q.ad q.b q.off n) ∧ W.heap.size ≤ q.b ∧ q.b < w'.heap.size) ∧ Ext W w' :=
 (toStringS_any p.ad p.b p.off n p.cap f W hs hn).mono fun e w' ⟨h1, h2⟩ => ⟨⟨some ⟨W.heap.size, 0, none⟩, W.heap.size, 0, n⟩, h1, fun w'' k => by
  have hl : W.heap.size < w'.heap.size := by have := h2.size; omega
  have hb := k.2 W.heap.size (Nat.le_refl _) hl
  have hc : ∀ i, i < n → w'.cell? ⟨W.heap.size, 0 + i, none⟩ = some (.string (f i)) := h2.seg.cell
  refine ⟨⟨⟨fun _ => rfl, fun i hi => (World.cell?_of_block (a := ⟨W.heap.size, 0 + i, none⟩) hb).trans (hc i hi)⟩, ⟨fun _ => rfl, fun i hi => ⟨f i, (World.cell?_of_block (a := ⟨W.heap.size, 0 + i, none⟩) hb).trans (hc i hi)⟩, fun i hi => (World.frozen?_of_block (a := ⟨W.heap.size, 0 + i, none⟩) hb).trans (h2.row.frozen _)⟩⟩, Nat.le_refl _, hl⟩, h2.below⟩
theorem toInts_kpO (p : Plc) (n : Nat) (f : Nat → Int) (W : World) (hs : Seg W p.ad p.b p.off n f) (hn : n ≤ 1048576) :
  Calls Tryz.prog 9 #[.slice p.ad n p.cap] W fun e w' => ∃ q : Plc, e = .returned (.slice q.ad n q.cap) ∧ (∀ w'', Kp W.heap.size w' w'' → (Seg w'' q.ad q.b q.off n f ∧ Own w'' q.ad q.b q.off n f) ∧ W.heap.size ≤ q.b ∧ q.b < w'.heap.size) ∧ Ext W w' :=
 (toIntS_any p.ad p.b p.off n p.cap f W hs hn).mono fun e w' ⟨h1, h2, h3, h4⟩ => ⟨⟨some ⟨W.heap.size, 0, none⟩, W.heap.size, 0, n⟩, h1, fun w'' k => by
  have hl : W.heap.size < w'.heap.size := by omega
  have hb := k.2 W.heap.size (Nat.le_refl _) hl
  have ho : Own w'' (some ⟨W.heap.size, 0, none⟩) W.heap.size 0 n f := ⟨⟨fun _ => rfl, fun i hi => (World.cell?_of_block (a := ⟨W.heap.size, 0 + i, none⟩) hb).trans (by rw [Nat.zero_add]; exact h3.cell hi)⟩, fun i hi => (World.frozen?_of_block (a := ⟨W.heap.size, 0 + i, none⟩) hb).trans (h3.frozen _)⟩
  exact ⟨⟨ho.toSeg, ho⟩, Nat.le_refl _, hl⟩, h4⟩
theorem toBytes_kpO (p : Plc) (n : Nat) (f : Nat → Int) (W : World) (hs : BSeg W p.ad p.b p.off n f) (hn : n ≤ 1048576) :
  Calls Tryz.prog 29 #[.slice p.ad n p.cap] W fun e w' => ∃ q : Plc, e = .returned (.slice q.ad n q.cap) ∧ (∀ w'', Kp W.heap.size w' w'' → (BSeg w'' q.ad q.b q.off n f ∧ BOwn w'' q.ad q.b q.off n f) ∧ W.heap.size ≤ q.b ∧ q.b < w'.heap.size) ∧ Ext W w' :=
 (toByteS_any p.ad p.b p.off n p.cap f W hs hn).mono fun e w' ⟨h1, h2, h3, h4⟩ => ⟨⟨some ⟨W.heap.size, 0, none⟩, W.heap.size, 0, n⟩, h1, fun w'' k => by
  have hl : W.heap.size < w'.heap.size := by omega
  have hb := k.2 W.heap.size (Nat.le_refl _) hl
  have ho : BOwn w'' (some ⟨W.heap.size, 0, none⟩) W.heap.size 0 n f := ⟨⟨fun _ => rfl, fun i hi => (World.cell?_of_block (a := ⟨W.heap.size, 0 + i, none⟩) hb).trans (by rw [Nat.zero_add]; exact h3.cell hi)⟩, fun i hi => (World.frozen?_of_block (a := ⟨W.heap.size, 0 + i, none⟩) hb).trans (h3.frozen _)⟩
  exact ⟨⟨ho.toBSeg, ho⟩, Nat.le_refl _, hl⟩, h4⟩
end
section
open Go.RowKit
theorem Own.putAll {w : World} {a : Option Addr} {g o n D : Nat} {f : Nat → Int} (vs : List Value) (h : Own w a g o n f) (hn : g ≠ D) : Own (putL D 0 vs w) a g o n f :=
 ⟨h.toSeg.putAll vs hn, fun j hj => by rw [frozen_putL]; exact h.free j hj⟩
theorem Own.apart {w : World} {a : Option Addr} {g o n D i : Nat} {f : Nat → Int} (h : Own w a g o n f) (v : Value) (hn : g ≠ D) : Own (w.setCell ⟨D, i, none⟩ v) a g o n f :=
 ⟨h.toSeg.apart v hn, fun j hj => by rw [World.frozen?_setCell]; exact h.free j hj⟩
def GivesKyO (w : World) (k : Ky) (e : Ending) (w' : World) : Prop := ∃ R, e = .returned (.agg #[.int .i64 k.kind, .slice (some ⟨R, 0, none⟩) k.n k.n, .int .i64 k.e, .int .i64 k.cP, .int .i64 k.cA, .int .i64 k.cB, .int .i64 k.cN, .int .i64 k.cX, .int .i64 k.cY, .int .i64 k.q.x, .int .i64 k.q.y, .bool k.q.far, .int .i64 k.dP, .int .i64 k.dD, .int .i64 k.dL, .int .i64 k.dX, .int .i64 k.dY, .int .i64 k.a.x, .int .i64 k.a.y]) ∧ w.heap.size ≤ R ∧ Own w' (some ⟨R, 0, none⟩) R 0 k.n k.f ∧ Ext w w'
set_option maxHeartbeats 6400000 in
set_option maxRecDepth 100000 in
theorem toKeyO_any (k : Ky) (ad : Option Addr) (b off cap : Nat) (w : World) (hs : Seg w ad b off k.n k.f) (hn : k.n ≤ 1048576) :
  Calls Tryz.prog 27 #[.agg #[.int .i64 k.kind, .slice ad k.n cap, .int .i64 k.e, .int .i64 k.cP, .int .i64 k.cA, .int .i64 k.cB, .int .i64 k.cN, .int .i64 k.cX, .int .i64 k.cY, .int .i64 k.q.x, .int .i64 k.q.y, .bool k.q.far, .int .i64 k.dP, .int .i64 k.dD, .int .i64 k.dL, .int .i64 k.dX, .int .i64 k.dY, .int .i64 k.a.x, .int .i64 k.a.y]] w fun e w' => GivesKyO w k e w' := by
 obtain ⟨V, hV⟩ : ∃ V, ((w.alloc (.cells #[.int .i64 k.kind, .slice ad k.n cap, .int .i64 k.e, .int .i64 k.cP, .int .i64 k.cA, .int .i64 k.cB, .int .i64 k.cN, .int .i64 k.cX, .int .i64 k.cY, .int .i64 k.q.x, .int .i64 k.q.y, .bool k.q.far, .int .i64 k.dP, .int .i64 k.dD, .int .i64 k.dL, .int .i64 k.dX, .int .i64 k.dY, .int .i64 k.a.x, .int .i64 k.a.y] 33)).alloc (.cells #[.int .i64 0, .slice none 0 0, .int .i64 0, .int .i64 0, .int .i64 0, .int .i64 0, .int .i64 0, .int .i64 0, .int .i64 0, .int .i64 0, .int .i64 0, .bool false, .int .i64 0, .int .i64 0, .int .i64 0, .int .i64 0, .int .i64 0, .int .i64 0, .int .i64 0] 51)).alloc (.cells #[.int .i64 0, .slice none 0 0, .int .i64 0, .int .i64 0, .int .i64 0, .int .i64 0, .int .i64 0, .int .i64 0, .int .i64 0, .int .i64 0, .int .i64 0, .bool false, .int .i64 0, .int .i64 0, .int .i64 0, .int .i64 0, .int .i64 0, .int .i64 0, .int .i64 0] 51) = V := ⟨_, rfl⟩
 obtain ⟨B0, B2, B1, hE, -⟩ := box3 w [.int .i64 k.kind, .slice ad k.n cap, .int .i64 k.e, .int .i64 k.cP, .int .i64 k.cA, .int .i64 k.cB, .int .i64 k.cN, .int .i64 k.cX, .int .i64 k.cY, .int .i64 k.q.x, .int .i64 k.q.y, .bool k.q.far, .int .i64 k.dP, .int .i64 k.dD, .int .i64 k.dL, .int .i64 k.dX, .int .i64 k.dY, .int .i64 k.a.x, .int .i64 k.a.y] [.int .i64 0, .slice none 0 0, .int .i64 0, .int .i64 0, .int .i64 0, .int .i64 0, .int .i64 0, .int .i64 0, .int .i64 0, .int .i64 0, .int .i64 0, .bool false, .int .i64 0, .int .i64 0, .int .i64 0, .int .i64 0, .int .i64 0, .int .i64 0, .int .i64 0] [.int .i64 0, .slice none 0 0, .int .i64 0, .int .i64 0, .int .i64 0, .int .i64 0, .int .i64 0, .int .i64 0, .int .i64 0, .int .i64 0, .int .i64 0, .bool false, .int .i64 0, .int .i64 0, .int .i64 0, .int .i64 0, .int .i64 0, .int .i64 0, .int .i64 0] 33 51 51 (w1 := V) (by rw [← hV]; exact Ext.refl _)
 have HA := hide B0
 have HO := hide B1
 have HQ := hide B2
 have HW := hide hE
 have HInt : Hid (∀ W, Ext w W → Calls Tryz.prog 9 #[.slice ad k.n cap] W fun e w' => ∃ R, e = .returned (.slice (some ⟨R, 0, none⟩) k.n k.n) ∧ W.heap.size ≤ R ∧ Own w' (some ⟨R, 0, none⟩) R 0 k.n k.f ∧ Ext W w') := fun W h => (toIntS_any ad b off k.n cap k.f W (hs.of_all h) hn).mono fun e w' ⟨h1, h2, h3, h4⟩ => ⟨_, h1, Nat.le_refl _, Own.of_row h3 (Nat.le_refl _), h4⟩
 clear B0 B1 B2 hE hs
 have a0 := (HA.out 0 _ rfl).1
 have a1 := (HA.out 1 _ rfl).1
 have o0 := (HO.out 0 _ rfl).1
 have f0 := (HO.out 0 _ rfl).2
 go_enter Tryz.func27, Tryz.ntmps27
 go_wp2_with fail
 refine (HInt.out _ (Below.setCell HW.out (p := ⟨w.heap.size + 1 + 1, 0, none⟩) (Nat.le_succ_of_le (Nat.le_succ _)) _)).mono ?_
 rintro e w1 ⟨R, rfl, hR, hSg, hEW⟩
 clear a0 a1 o0 f0
 replace HQ := hide (Blk.ext (Blk.apart HQ.out _ (by omega)) hEW (World.block_lt_of_cell? _ _ ((Blk.apart HQ.out _ (by omega)) 0 _ rfl).1))
 replace HA := hide (Blk.ext (Blk.apart HA.out _ (by omega)) hEW (World.block_lt_of_cell? _ _ ((Blk.apart HA.out _ (by omega)) 0 _ rfl).1))
 have HO0 := HO
 replace HO : Hid (Blk w1 (w.heap.size + 1 + 1) [.int .i64 k.kind, .slice none 0 0, .int .i64 0, .int .i64 0, .int .i64 0, .int .i64 0, .int .i64 0, .int .i64 0, .int .i64 0, .int .i64 0, .int .i64 0, .bool false, .int .i64 0, .int .i64 0, .int .i64 0, .int .i64 0, .int .i64 0, .int .i64 0, .int .i64 0]) := hide (Blk.ext (Blk.set HO.out 0 _ (by simp)) hEW (World.block_lt_of_cell? _ _ ((Blk.set HO.out 0 _ (by simp)) 0 _ rfl).1))
 have HRn : Hid (R ≠ w.heap.size + 1 + 1) := by
  show _ ≠ _
  have h1 := World.block_lt_of_cell? _ _ ((Blk.set HO0.out 0 (.int .i64 k.kind) (by simp)) 0 _ rfl).1
  have h2 : w.heap.size + 1 + 1 < (V.setCell ⟨w.heap.size + 1 + 1, 0, none⟩ (.int .i64 k.kind)).heap.size := h1
  omega
 have HRq : Hid (R ≠ w.heap.size + 1) := by
  show _ ≠ _
  have h1 := World.block_lt_of_cell? _ _ ((Blk.set HO0.out 0 (.int .i64 k.kind) (by simp)) 0 _ rfl).1
  have h2 : w.heap.size + 1 + 1 < (V.setCell ⟨w.heap.size + 1 + 1, 0, none⟩ (.int .i64 k.kind)).heap.size := h1
  omega
 have HR : Hid (w.heap.size ≤ R) := by
  show _ ≤ _
  have h1 := Below.size HW.out
  have h2 : (V.setCell ⟨w.heap.size + 1 + 1, 0, none⟩ (.int .i64 k.kind)).heap.size = V.heap.size := by simp [World.setCell]
  omega
 have HSg := hide hSg
 clear hSg hR
 replace HW := hide (Ext.trans (Below.setCell HW.out (p := ⟨w.heap.size + 1 + 1, 0, none⟩) (Nat.le_succ_of_le (Nat.le_succ _)) _) hEW)
 clear hEW
 have a2 := (HA.out 2 _ rfl).1
 have a3 := (HA.out 3 _ rfl).1
 have a4 := (HA.out 4 _ rfl).1
 have a5 := (HA.out 5 _ rfl).1
 have a6 := (HA.out 6 _ rfl).1
 have a7 := (HA.out 7 _ rfl).1
 have a8 := (HA.out 8 _ rfl).1
 have o1 := (HO.out 1 _ rfl).1
 have f1 := (HO.out 1 _ rfl).2
 have o2 := (HO.out 2 _ rfl).1
 have f2 := (HO.out 2 _ rfl).2
 go_wp2_with fail
 refine (toCurve_any k.cP k.cA k.cB k.cN k.cX k.cY _).mono ?_
 rintro e w2 ⟨rfl, hEW⟩
 clear a2 a3 a4 a5 a6 a7 a8 o1 f1 o2 f2
 replace HQ := hide (Blk.ext (Blk.apart (Blk.apart HQ.out _ (by omega)) _ (by omega)) hEW (World.block_lt_of_cell? _ _ ((Blk.apart (Blk.apart HQ.out _ (by omega)) _ (by omega)) 0 _ rfl).1))
 replace HA := hide (Blk.ext (Blk.apart (Blk.apart HA.out _ (by omega)) _ (by omega)) hEW (World.block_lt_of_cell? _ _ ((Blk.apart (Blk.apart HA.out _ (by omega)) _ (by omega)) 0 _ rfl).1))
 have HO0 := HO
 replace HO : Hid (Blk w2 (w.heap.size + 1 + 1) [.int .i64 k.kind, .slice (some ⟨R, 0, none⟩) k.n k.n, .int .i64 k.e, .int .i64 0, .int .i64 0, .int .i64 0, .int .i64 0, .int .i64 0, .int .i64 0, .int .i64 0, .int .i64 0, .bool false, .int .i64 0, .int .i64 0, .int .i64 0, .int .i64 0, .int .i64 0, .int .i64 0, .int .i64 0]) := hide (Blk.ext (Blk.set (Blk.set HO.out 1 _ (by simp)) 2 _ (by simp)) hEW (World.block_lt_of_cell? _ _ ((Blk.set (Blk.set HO.out 1 _ (by simp)) 2 _ (by simp)) 0 _ rfl).1))
 replace HSg := hide (Own.of_all (Own.apart (Own.apart HSg.out _ HRn.out) _ HRn.out) hEW)
 replace HW := hide (Ext.trans (Below.setCell (Below.setCell HW.out (p := ⟨w.heap.size + 1 + 1, 1, none⟩) (Nat.le_succ_of_le (Nat.le_succ _)) _) (p := ⟨w.heap.size + 1 + 1, 2, none⟩) (Nat.le_succ_of_le (Nat.le_succ _)) _) hEW)
 clear hEW
 have a9 := (HA.out 9 _ rfl).1
 have a10 := (HA.out 10 _ rfl).1
 have a11 := (HA.out 11 _ rfl).1
 have o3 := (HO.out 3 _ rfl).1
 have f3 := (HO.out 3 _ rfl).2
 have o4 := (HO.out 4 _ rfl).1
 have f4 := (HO.out 4 _ rfl).2
 have o5 := (HO.out 5 _ rfl).1
 have f5 := (HO.out 5 _ rfl).2
 have o6 := (HO.out 6 _ rfl).1
 have f6 := (HO.out 6 _ rfl).2
 have o7 := (HO.out 7 _ rfl).1
 have f7 := (HO.out 7 _ rfl).2
 have o8 := (HO.out 8 _ rfl).1
 have f8 := (HO.out 8 _ rfl).2
 go_wp2_with fail
 refine (toPoint_any k.q.x k.q.y k.q.far _).mono ?_
 rintro e w3 ⟨rfl, hEW⟩
 clear a9 a10 a11 o3 f3 o4 f4 o5 f5 o6 f6 o7 f7 o8 f8
 replace HQ := hide (Blk.ext (Blk.apart (Blk.apart (Blk.apart (Blk.apart (Blk.apart (Blk.apart HQ.out _ (by omega)) _ (by omega)) _ (by omega)) _ (by omega)) _ (by omega)) _ (by omega)) hEW (World.block_lt_of_cell? _ _ ((Blk.apart (Blk.apart (Blk.apart (Blk.apart (Blk.apart (Blk.apart HQ.out _ (by omega)) _ (by omega)) _ (by omega)) _ (by omega)) _ (by omega)) _ (by omega)) 0 _ rfl).1))
 replace HA := hide (Blk.ext (Blk.apart (Blk.apart (Blk.apart (Blk.apart (Blk.apart (Blk.apart HA.out _ (by omega)) _ (by omega)) _ (by omega)) _ (by omega)) _ (by omega)) _ (by omega)) hEW (World.block_lt_of_cell? _ _ ((Blk.apart (Blk.apart (Blk.apart (Blk.apart (Blk.apart (Blk.apart HA.out _ (by omega)) _ (by omega)) _ (by omega)) _ (by omega)) _ (by omega)) _ (by omega)) 0 _ rfl).1))
 have HO0 := HO
 replace HO : Hid (Blk w3 (w.heap.size + 1 + 1) [.int .i64 k.kind, .slice (some ⟨R, 0, none⟩) k.n k.n, .int .i64 k.e, .int .i64 k.cP, .int .i64 k.cA, .int .i64 k.cB, .int .i64 k.cN, .int .i64 k.cX, .int .i64 k.cY, .int .i64 0, .int .i64 0, .bool false, .int .i64 0, .int .i64 0, .int .i64 0, .int .i64 0, .int .i64 0, .int .i64 0, .int .i64 0]) := hide (Blk.ext (Blk.set (Blk.set (Blk.set (Blk.set (Blk.set (Blk.set HO.out 3 _ (by simp)) 4 _ (by simp)) 5 _ (by simp)) 6 _ (by simp)) 7 _ (by simp)) 8 _ (by simp)) hEW (World.block_lt_of_cell? _ _ ((Blk.set (Blk.set (Blk.set (Blk.set (Blk.set (Blk.set HO.out 3 _ (by simp)) 4 _ (by simp)) 5 _ (by simp)) 6 _ (by simp)) 7 _ (by simp)) 8 _ (by simp)) 0 _ rfl).1))
 replace HSg := hide (Own.of_all (Own.apart (Own.apart (Own.apart (Own.apart (Own.apart (Own.apart HSg.out _ HRn.out) _ HRn.out) _ HRn.out) _ HRn.out) _ HRn.out) _ HRn.out) hEW)
 replace HW := hide (Ext.trans (Below.setCell (Below.setCell (Below.setCell (Below.setCell (Below.setCell (Below.setCell HW.out (p := ⟨w.heap.size + 1 + 1, 3, none⟩) (Nat.le_succ_of_le (Nat.le_succ _)) _) (p := ⟨w.heap.size + 1 + 1, 4, none⟩) (Nat.le_succ_of_le (Nat.le_succ _)) _) (p := ⟨w.heap.size + 1 + 1, 5, none⟩) (Nat.le_succ_of_le (Nat.le_succ _)) _) (p := ⟨w.heap.size + 1 + 1, 6, none⟩) (Nat.le_succ_of_le (Nat.le_succ _)) _) (p := ⟨w.heap.size + 1 + 1, 7, none⟩) (Nat.le_succ_of_le (Nat.le_succ _)) _) (p := ⟨w.heap.size + 1 + 1, 8, none⟩) (Nat.le_succ_of_le (Nat.le_succ _)) _) hEW)
 clear hEW
 have a12 := (HA.out 12 _ rfl).1
 have a13 := (HA.out 13 _ rfl).1
 have a14 := (HA.out 14 _ rfl).1
 have a15 := (HA.out 15 _ rfl).1
 have a16 := (HA.out 16 _ rfl).1
 have o9 := (HO.out 9 _ rfl).1
 have f9 := (HO.out 9 _ rfl).2
 have o10 := (HO.out 10 _ rfl).1
 have f10 := (HO.out 10 _ rfl).2
 have o11 := (HO.out 11 _ rfl).1
 have f11 := (HO.out 11 _ rfl).2
 go_wp2_with fail
 refine (toEd_any k.dP k.dD k.dL k.dX k.dY _).mono ?_
 rintro e w4 ⟨rfl, hEW⟩
 clear a12 a13 a14 a15 a16 o9 f9 o10 f10 o11 f11
 replace HQ := hide (Blk.ext (Blk.apart (Blk.apart (Blk.apart HQ.out _ (by omega)) _ (by omega)) _ (by omega)) hEW (World.block_lt_of_cell? _ _ ((Blk.apart (Blk.apart (Blk.apart HQ.out _ (by omega)) _ (by omega)) _ (by omega)) 0 _ rfl).1))
 replace HA := hide (Blk.ext (Blk.apart (Blk.apart (Blk.apart HA.out _ (by omega)) _ (by omega)) _ (by omega)) hEW (World.block_lt_of_cell? _ _ ((Blk.apart (Blk.apart (Blk.apart HA.out _ (by omega)) _ (by omega)) _ (by omega)) 0 _ rfl).1))
 have HO0 := HO
 replace HO : Hid (Blk w4 (w.heap.size + 1 + 1) [.int .i64 k.kind, .slice (some ⟨R, 0, none⟩) k.n k.n, .int .i64 k.e, .int .i64 k.cP, .int .i64 k.cA, .int .i64 k.cB, .int .i64 k.cN, .int .i64 k.cX, .int .i64 k.cY, .int .i64 k.q.x, .int .i64 k.q.y, .bool k.q.far, .int .i64 0, .int .i64 0, .int .i64 0, .int .i64 0, .int .i64 0, .int .i64 0, .int .i64 0]) := hide (Blk.ext (Blk.set (Blk.set (Blk.set HO.out 9 _ (by simp)) 10 _ (by simp)) 11 _ (by simp)) hEW (World.block_lt_of_cell? _ _ ((Blk.set (Blk.set (Blk.set HO.out 9 _ (by simp)) 10 _ (by simp)) 11 _ (by simp)) 0 _ rfl).1))
 replace HSg := hide (Own.of_all (Own.apart (Own.apart (Own.apart HSg.out _ HRn.out) _ HRn.out) _ HRn.out) hEW)
 replace HW := hide (Ext.trans (Below.setCell (Below.setCell (Below.setCell HW.out (p := ⟨w.heap.size + 1 + 1, 9, none⟩) (Nat.le_succ_of_le (Nat.le_succ _)) _) (p := ⟨w.heap.size + 1 + 1, 10, none⟩) (Nat.le_succ_of_le (Nat.le_succ _)) _) (p := ⟨w.heap.size + 1 + 1, 11, none⟩) (Nat.le_succ_of_le (Nat.le_succ _)) _) hEW)
 clear hEW
 have a17 := (HA.out 17 _ rfl).1
 have a18 := (HA.out 18 _ rfl).1
 have o12 := (HO.out 12 _ rfl).1
 have f12 := (HO.out 12 _ rfl).2
 have o13 := (HO.out 13 _ rfl).1
 have f13 := (HO.out 13 _ rfl).2
 have o14 := (HO.out 14 _ rfl).1
 have f14 := (HO.out 14 _ rfl).2
 have o15 := (HO.out 15 _ rfl).1
 have f15 := (HO.out 15 _ rfl).2
 have o16 := (HO.out 16 _ rfl).1
 have f16 := (HO.out 16 _ rfl).2
 go_wp2_with fail
 refine (toPair_any k.a.x k.a.y _).mono ?_
 rintro e w5 ⟨rfl, hEW⟩
 clear a17 a18 o12 f12 o13 f13 o14 f14 o15 f15 o16 f16
 replace HQ := hide (Blk.ext (Blk.apart (Blk.apart (Blk.apart (Blk.apart (Blk.apart HQ.out _ (by omega)) _ (by omega)) _ (by omega)) _ (by omega)) _ (by omega)) hEW (World.block_lt_of_cell? _ _ ((Blk.apart (Blk.apart (Blk.apart (Blk.apart (Blk.apart HQ.out _ (by omega)) _ (by omega)) _ (by omega)) _ (by omega)) _ (by omega)) 0 _ rfl).1))
 replace HA := hide (Blk.ext (Blk.apart (Blk.apart (Blk.apart (Blk.apart (Blk.apart HA.out _ (by omega)) _ (by omega)) _ (by omega)) _ (by omega)) _ (by omega)) hEW (World.block_lt_of_cell? _ _ ((Blk.apart (Blk.apart (Blk.apart (Blk.apart (Blk.apart HA.out _ (by omega)) _ (by omega)) _ (by omega)) _ (by omega)) _ (by omega)) 0 _ rfl).1))
 have HO0 := HO
 replace HO : Hid (Blk w5 (w.heap.size + 1 + 1) [.int .i64 k.kind, .slice (some ⟨R, 0, none⟩) k.n k.n, .int .i64 k.e, .int .i64 k.cP, .int .i64 k.cA, .int .i64 k.cB, .int .i64 k.cN, .int .i64 k.cX, .int .i64 k.cY, .int .i64 k.q.x, .int .i64 k.q.y, .bool k.q.far, .int .i64 k.dP, .int .i64 k.dD, .int .i64 k.dL, .int .i64 k.dX, .int .i64 k.dY, .int .i64 0, .int .i64 0]) := hide (Blk.ext (Blk.set (Blk.set (Blk.set (Blk.set (Blk.set HO.out 12 _ (by simp)) 13 _ (by simp)) 14 _ (by simp)) 15 _ (by simp)) 16 _ (by simp)) hEW (World.block_lt_of_cell? _ _ ((Blk.set (Blk.set (Blk.set (Blk.set (Blk.set HO.out 12 _ (by simp)) 13 _ (by simp)) 14 _ (by simp)) 15 _ (by simp)) 16 _ (by simp)) 0 _ rfl).1))
 replace HSg := hide (Own.of_all (Own.apart (Own.apart (Own.apart (Own.apart (Own.apart HSg.out _ HRn.out) _ HRn.out) _ HRn.out) _ HRn.out) _ HRn.out) hEW)
 replace HW := hide (Ext.trans (Below.setCell (Below.setCell (Below.setCell (Below.setCell (Below.setCell HW.out (p := ⟨w.heap.size + 1 + 1, 12, none⟩) (Nat.le_succ_of_le (Nat.le_succ _)) _) (p := ⟨w.heap.size + 1 + 1, 13, none⟩) (Nat.le_succ_of_le (Nat.le_succ _)) _) (p := ⟨w.heap.size + 1 + 1, 14, none⟩) (Nat.le_succ_of_le (Nat.le_succ _)) _) (p := ⟨w.heap.size + 1 + 1, 15, none⟩) (Nat.le_succ_of_le (Nat.le_succ _)) _) (p := ⟨w.heap.size + 1 + 1, 16, none⟩) (Nat.le_succ_of_le (Nat.le_succ _)) _) hEW)
 clear hEW
 have o17 := (HO.out 17 _ rfl).1
 have f17 := (HO.out 17 _ rfl).2
 have o18 := (HO.out 18 _ rfl).1
 have f18 := (HO.out 18 _ rfl).2
 have hO2 : Blk ((w5.setCell ⟨w.heap.size + 1 + 1, 17, none⟩ (.int .i64 k.a.x)).setCell ⟨w.heap.size + 1 + 1, 18, none⟩ (.int .i64 k.a.y)) (w.heap.size + 1 + 1) [.int .i64 k.kind, .slice (some ⟨R, 0, none⟩) k.n k.n, .int .i64 k.e, .int .i64 k.cP, .int .i64 k.cA, .int .i64 k.cB, .int .i64 k.cN, .int .i64 k.cX, .int .i64 k.cY, .int .i64 k.q.x, .int .i64 k.q.y, .bool k.q.far, .int .i64 k.dP, .int .i64 k.dD, .int .i64 k.dL, .int .i64 k.dX, .int .i64 k.dY, .int .i64 k.a.x, .int .i64 k.a.y] := (Blk.set (Blk.set HO.out 17 _ (by simp)) 18 _ (by simp))
 have hQ2 : Blk ((w5.setCell ⟨w.heap.size + 1 + 1, 17, none⟩ (.int .i64 k.a.x)).setCell ⟨w.heap.size + 1 + 1, 18, none⟩ (.int .i64 k.a.y)) (w.heap.size + 1) [.int .i64 0, .slice none 0 0, .int .i64 0, .int .i64 0, .int .i64 0, .int .i64 0, .int .i64 0, .int .i64 0, .int .i64 0, .int .i64 0, .int .i64 0, .bool false, .int .i64 0, .int .i64 0, .int .i64 0, .int .i64 0, .int .i64 0, .int .i64 0, .int .i64 0] := (Blk.apart (Blk.apart HQ.out _ (by omega)) _ (by omega))
 have hW2 : Ext w ((w5.setCell ⟨w.heap.size + 1 + 1, 17, none⟩ (.int .i64 k.a.x)).setCell ⟨w.heap.size + 1 + 1, 18, none⟩ (.int .i64 k.a.y)) := (Below.setCell (Below.setCell HW.out (p := ⟨w.heap.size + 1 + 1, 17, none⟩) (Nat.le_succ_of_le (Nat.le_succ _)) _) (p := ⟨w.heap.size + 1 + 1, 18, none⟩) (Nat.le_succ_of_le (Nat.le_succ _)) _)
 have hS2 : Own ((w5.setCell ⟨w.heap.size + 1 + 1, 17, none⟩ (.int .i64 k.a.x)).setCell ⟨w.heap.size + 1 + 1, 18, none⟩ (.int .i64 k.a.y)) (some ⟨R, 0, none⟩) R 0 k.n k.f := (Own.apart (Own.apart HSg.out _ HRn.out) _ HRn.out)
 have hld := run_loadKey [.int .i64 k.kind, .slice (some ⟨R, 0, none⟩) k.n k.n, .int .i64 k.e, .int .i64 k.cP, .int .i64 k.cA, .int .i64 k.cB, .int .i64 k.cN, .int .i64 k.cX, .int .i64 k.cY, .int .i64 k.q.x, .int .i64 k.q.y, .bool k.q.far, .int .i64 k.dP, .int .i64 k.dD, .int .i64 k.dL, .int .i64 k.dX, .int .i64 k.dY, .int .i64 k.a.x, .int .i64 k.a.y] rfl (w.heap.size + 1 + 1) ((w5.setCell ⟨w.heap.size + 1 + 1, 17, none⟩ (.int .i64 k.a.x)).setCell ⟨w.heap.size + 1 + 1, 18, none⟩ (.int .i64 k.a.y)) (fun j v h => (hO2 j v h).1)
 have hst := run_storeKey [.int .i64 k.kind, .slice (some ⟨R, 0, none⟩) k.n k.n, .int .i64 k.e, .int .i64 k.cP, .int .i64 k.cA, .int .i64 k.cB, .int .i64 k.cN, .int .i64 k.cX, .int .i64 k.cY, .int .i64 k.q.x, .int .i64 k.q.y, .bool k.q.far, .int .i64 k.dP, .int .i64 k.dD, .int .i64 k.dL, .int .i64 k.dX, .int .i64 k.dY, .int .i64 k.a.x, .int .i64 k.a.y] rfl (by simp [Value.oneCell']) (w.heap.size + 1) ((w5.setCell ⟨w.heap.size + 1 + 1, 17, none⟩ (.int .i64 k.a.x)).setCell ⟨w.heap.size + 1 + 1, 18, none⟩ (.int .i64 k.a.y)) hQ2 rfl
 have hB3 := Blk.putAll (vs := [.int .i64 k.kind, .slice (some ⟨R, 0, none⟩) k.n k.n, .int .i64 k.e, .int .i64 k.cP, .int .i64 k.cA, .int .i64 k.cB, .int .i64 k.cN, .int .i64 k.cX, .int .i64 k.cY, .int .i64 k.q.x, .int .i64 k.q.y, .bool k.q.far, .int .i64 k.dP, .int .i64 k.dD, .int .i64 k.dL, .int .i64 k.dX, .int .i64 k.dY, .int .i64 k.a.x, .int .i64 k.a.y]) hQ2 rfl
 have HW3 := hide (below_putL (Nat.le_succ _) [.int .i64 k.kind, .slice (some ⟨R, 0, none⟩) k.n k.n, .int .i64 k.e, .int .i64 k.cP, .int .i64 k.cA, .int .i64 k.cB, .int .i64 k.cN, .int .i64 k.cX, .int .i64 k.cY, .int .i64 k.q.x, .int .i64 k.q.y, .bool k.q.far, .int .i64 k.dP, .int .i64 k.dD, .int .i64 k.dL, .int .i64 k.dX, .int .i64 k.dY, .int .i64 k.a.x, .int .i64 k.a.y] 0 _ hW2)
 have HS3 := hide (Own.putAll [.int .i64 k.kind, .slice (some ⟨R, 0, none⟩) k.n k.n, .int .i64 k.e, .int .i64 k.cP, .int .i64 k.cA, .int .i64 k.cB, .int .i64 k.cN, .int .i64 k.cX, .int .i64 k.cY, .int .i64 k.q.x, .int .i64 k.q.y, .bool k.q.far, .int .i64 k.dP, .int .i64 k.dD, .int .i64 k.dL, .int .i64 k.dX, .int .i64 k.dY, .int .i64 k.a.x, .int .i64 k.a.y] hS2 HRq.out)
 have HB3 := hide hB3
 clear hQ2 hW2 hS2 hO2 hB3
 go_wp2_with (first | (refine wpList_load_on (by first | rfl | simp [Region.wanted, yielded]) 51 _ rfl _ rfl _ hld ?_) | (refine wpList_store_on (by first | rfl | simp [Region.wanted, yielded]) 51 _ _ rfl _ rfl _ rfl _ hst ?_))
 refine bodyPost_ret (v := .agg #[.int .i64 k.kind, .slice (some ⟨R, 0, none⟩) k.n k.n, .int .i64 k.e, .int .i64 k.cP, .int .i64 k.cA, .int .i64 k.cB, .int .i64 k.cN, .int .i64 k.cX, .int .i64 k.cY, .int .i64 k.q.x, .int .i64 k.q.y, .bool k.q.far, .int .i64 k.dP, .int .i64 k.dD, .int .i64 k.dL, .int .i64 k.dX, .int .i64 k.dY, .int .i64 k.a.x, .int .i64 k.a.y]) (results_cell Tryz.results27 rfl (run_loadKey [.int .i64 k.kind, .slice (some ⟨R, 0, none⟩) k.n k.n, .int .i64 k.e, .int .i64 k.cP, .int .i64 k.cA, .int .i64 k.cB, .int .i64 k.cN, .int .i64 k.cX, .int .i64 k.cY, .int .i64 k.q.x, .int .i64 k.q.y, .bool k.q.far, .int .i64 k.dP, .int .i64 k.dD, .int .i64 k.dL, .int .i64 k.dX, .int .i64 k.dY, .int .i64 k.a.x, .int .i64 k.a.y] rfl (w.heap.size + 1) _ (fun j v h => (HB3.out j v h).1))) rfl ?_
 exact ⟨R, rfl, HR.out, HS3.out, HW3.out⟩
end
end Go.Proofs.YtfhiiakoilkbkaaGreatDoor
