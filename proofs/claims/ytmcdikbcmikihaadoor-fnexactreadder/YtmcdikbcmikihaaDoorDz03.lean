/- Lists of items that own their memory: the row and all bodies lie apart, at B or behind. The law's own helpers markItemS and heldItemS over them. Walks: lists of bytes put behind each other: slices.Clone, slices.Grow, slices.Concat, appendWord. A list of items in the making by appends: its row, and bodies apart from it and from one another. Lists of items: what they tell, rows, bodies apart; an append of one list behind another. -/
import Derived.Test.YtmcdikbcmikihaaDoorDz02
import Derived.Lib.AppendZerosOnto
import Derived.Laws.OwnMore
import Derived.Test.YtmcdikbcmikihaaDoorDz01
import Derived.Maps.AppendAt
namespace Go.Proofs.YtmcdikbcmikihaaDoor

section
set_option linter.unusedVariables false
set_option linter.unusedSimpArgs false

open Go.RowKit

/-- Nothing below B has turned, and nothing has come. -/
structure Mrk (B : Nat) (w w' : World) : Prop where
  below : Below B w w'
  size : w'.heap.size = w.heap.size

theorem Mrk.refl (B : Nat) (w : World) : Mrk B w w := ⟨Below.refl _ _, rfl⟩

theorem Mrk.trans {B : Nat} {a b c : World} (h : Mrk B a b) (k : Mrk B b c) : Mrk B a c := ⟨Below.trans h.below k.below, k.size.trans h.size⟩

theorem Mrk.of_touch {B g : Nat} {w w' : World} (h : Touch g w w') (hg : B ≤ g) (hB : B ≤ w.heap.size) : Mrk B w w' :=
  ⟨⟨h.grown.os, h.grown.tape, h.grown.output, by rw [h.size]; exact Nat.le_refl _, fun k hk => h.grown.block k (by omega) (by simp; omega)⟩, h.size⟩

/-- n items whose row and bodies lie apart, at B or behind. -/
structure IOw (B : Nat) (w : World) (a : Option Addr) (S off n : Nat) (x : Nat → It) : Prop extends ISeg w a S off n x where
  fz : ∀ o, off ≤ o → o < off + n * 3 → w.frozen? ⟨S, o, none⟩ = false
  free : ∀ j, j < n → ∀ m, m < (x j).len → w.frozen? ⟨(x j).blk, (x j).off + m, none⟩ = false
  away : ∀ j, j < n → 0 < (x j).len → (x j).blk ≠ S ∧ B ≤ (x j).blk
  apart : ∀ i j, i < n → j < n → i ≠ j → 0 < (x i).len → 0 < (x j).len → (x i).blk ≠ (x j).blk
  rowB : 0 < n → B ≤ S

theorem IOw.own {B : Nat} {w : World} {a : Option Addr} {S off n : Nat} {x : Nat → It} (h : IOw B w a S off n x) {j : Nat} (hj : j < n) : BOwn w (x j).ad (x j).blk (x j).off (x j).len (x j).f := ⟨h.body j hj, h.free j hj⟩

theorem IOw.of_all {B : Nat} {w w' : World} {a : Option Addr} {S off n : Nat} {x : Nat → It} (h : IOw B w a S off n x) (e : Ext w w') : IOw B w' a S off n x :=
  ⟨h.toISeg.of_all e, fun o h1 h2 => (World.frozen?_of_block (a := ⟨S, o, none⟩) (Below.block e S (h.toISeg.lt (by omega)))).trans (h.fz o h1 h2), fun j hj => (BOwn.of_all (h.own hj) e).free, h.away, h.apart, h.rowB⟩

/-- The row turned, the bodies stay. -/
theorem IOw.row {B : Nat} {w w' : World} {a : Option Addr} {S off n : Nat} {x y : Nat → It} (h : IOw B w a S off n x) (t : Touch S w w')
    (hy : ∀ i, i < n → (y i).ad = (x i).ad ∧ (y i).blk = (x i).blk ∧ (y i).off = (x i).off ∧ (y i).len = (x i).len ∧ (y i).cap = (x i).cap ∧ (y i).f = (x i).f)
    (d0 : ∀ i, i < n → w'.cell? ⟨S, off + i * 3, none⟩ = some (.int .i64 (y i).tag))
    (d1 : ∀ i, i < n → w'.cell? ⟨S, off + i * 3 + 1, none⟩ = some (.slice (x i).ad (x i).len (x i).cap))
    (d2 : ∀ i, i < n → w'.cell? ⟨S, off + i * 3 + 2, none⟩ = some (.int .i64 (y i).kid))
    (fz : ∀ o, off ≤ o → o < off + n * 3 → w'.frozen? ⟨S, o, none⟩ = false) : IOw B w' a S off n y := by
  refine ⟨⟨h.at', d0, fun i hi => ?_, d2, fun i hi => ?_, fun i hi => ?_⟩, fz, fun i hi => ?_, fun i hi => ?_, fun i j hi hj hij => ?_, h.rowB⟩
  · obtain ⟨e1, e2, e3, e4, e5, e6⟩ := hy i hi; rw [e1, e4, e5]; exact d1 i hi
  · obtain ⟨e1, e2, e3, e4, e5, e6⟩ := hy i hi; rw [e1, e2, e3, e4, e6]; exact ((h.own hi).touch t (fun h0 => (h.away i hi h0).1)).toBSeg
  · obtain ⟨e1, e2, e3, e4, e5, e6⟩ := hy i hi; rw [e4]; exact h.small i hi
  · obtain ⟨e1, e2, e3, e4, e5, e6⟩ := hy i hi; rw [e2, e3, e4]; exact ((h.own hi).touch t (fun h0 => (h.away i hi h0).1)).free
  · obtain ⟨e1, e2, e3, e4, e5, e6⟩ := hy i hi; rw [e2, e4]; exact h.away i hi
  · obtain ⟨-, e2, -, e4, -, -⟩ := hy i hi
    obtain ⟨-, f2, -, f4, -, -⟩ := hy j hj
    rw [e2, e4, f2, f4]; exact h.apart i j hi hj hij

def updI (x : Nat → It) (j : Nat) (t : It) : Nat → It := fun i => if i = j then t else x i

theorem updI_same (x : Nat → It) (j : Nat) (t : It) : updI x j t j = t := if_pos rfl

theorem updI_other (x : Nat → It) {i j : Nat} (t : It) (h : i ≠ j) : updI x j t i = x i := if_neg h

theorem IOw.tag {B : Nat} {w : World} {a : Option Addr} {S off n : Nat} {x : Nat → It} (h : IOw B w a S off n x) {j : Nat} (hj : j < n) (t : Int) :
    IOw B (w.setCell ⟨S, off + j * 3, none⟩ (.int .i64 t)) a S off n (updI x j { x j with tag := t }) := by
  refine h.row ((Touch.refl S w).set _ _) (fun i hi => ?_) (fun i hi => ?_) (fun i hi => ?_) (fun i hi => ?_) (fun o h1 h2 => by rw [World.frozen?_setCell]; exact h.fz o h1 h2)
  · by_cases e : i = j
    · subst e; rw [updI_same]; exact ⟨rfl, rfl, rfl, rfl, rfl, rfl⟩
    · rw [updI_other _ _ e]; exact ⟨rfl, rfl, rfl, rfl, rfl, rfl⟩
  · by_cases e : i = j
    · subst e; rw [updI_same]; exact World.cell?_setCell_same _ _ _ (h.c0 i hi)
    · rw [updI_other _ _ e, cell_off _ (by omega)]; exact h.c0 i hi
  · rw [cell_off _ (by omega)]; exact h.c1 i hi
  · rw [cell_off _ (by omega)]
    by_cases e : i = j
    · subst e; rw [updI_same]; exact h.c2 i hi
    · rw [updI_other _ _ e]; exact h.c2 i hi

theorem IOw.kid {B : Nat} {w : World} {a : Option Addr} {S off n : Nat} {x : Nat → It} (h : IOw B w a S off n x) {j : Nat} (hj : j < n) (t : Int) :
    IOw B (w.setCell ⟨S, off + j * 3 + 2, none⟩ (.int .i64 t)) a S off n (updI x j { x j with kid := t }) := by
  refine h.row ((Touch.refl S w).set _ _) (fun i hi => ?_) (fun i hi => ?_) (fun i hi => ?_) (fun i hi => ?_) (fun o h1 h2 => by rw [World.frozen?_setCell]; exact h.fz o h1 h2)
  · by_cases e : i = j
    · subst e; rw [updI_same]; exact ⟨rfl, rfl, rfl, rfl, rfl, rfl⟩
    · rw [updI_other _ _ e]; exact ⟨rfl, rfl, rfl, rfl, rfl, rfl⟩
  · rw [cell_off _ (by omega)]
    by_cases e : i = j
    · subst e; rw [updI_same]; exact h.c0 i hi
    · rw [updI_other _ _ e]; exact h.c0 i hi
  · rw [cell_off _ (by omega)]; exact h.c1 i hi
  · by_cases e : i = j
    · subst e; rw [updI_same]; exact World.cell?_setCell_same _ _ _ (h.c2 i hi)
    · rw [updI_other _ _ e, cell_off _ (by omega)]; exact h.c2 i hi

/-- The body at j turned. -/
theorem IOw.bod {B : Nat} {w w' : World} {a : Option Addr} {S off n : Nat} {x : Nat → It} (h : IOw B w a S off n x) {j : Nat} (hj : j < n) {g : Nat} (t : Touch g w w') (hg : 0 < (x j).len → g = (x j).blk) (hg0 : (x j).len = 0 → g = w.heap.size)
    {f : Nat → Int} (hb : BOwn w' (x j).ad (x j).blk (x j).off (x j).len f) : IOw B w' a S off n (updI x j { x j with f := f }) := by
  have hS : S < w.heap.size := h.toISeg.lt (by omega)
  have hgS : S ≠ g := by
    by_cases c : 0 < (x j).len
    · rw [hg c]; exact fun e => (h.away j hj c).1 e.symm
    · rw [hg0 (by omega)]; omega
  have blk : w'.heap[S]? = w.heap[S]? := t.grown.block S hS (by simp; exact hgS)
  have hc : ∀ o, w'.cell? ⟨S, o, none⟩ = w.cell? ⟨S, o, none⟩ := fun o => World.cell?_of_block (a := ⟨S, o, none⟩) blk
  have hbod : ∀ i, i < n → i ≠ j → BOwn w' (x i).ad (x i).blk (x i).off (x i).len (x i).f := fun i hi e => (h.own hi).touch t (fun h0 => by
    by_cases c : 0 < (x j).len
    · rw [hg c]; exact h.apart i j hi hj e h0 c
    · rw [hg0 (by omega)]; have := (h.own hi).lt h0; omega)
  refine ⟨⟨h.at', fun i hi => ?_, fun i hi => ?_, fun i hi => ?_, fun i hi => ?_, fun i hi => ?_⟩, fun o h1 h2 => by rw [World.frozen?_of_block (a := ⟨S, o, none⟩) blk]; exact h.fz o h1 h2, fun i hi => ?_, fun i hi => ?_, fun i k hi hk hik => ?_, h.rowB⟩
  · rw [hc]; by_cases e : i = j
    · subst e; rw [updI_same]; exact h.c0 i hi
    · rw [updI_other _ _ e]; exact h.c0 i hi
  · rw [hc]; by_cases e : i = j
    · subst e; rw [updI_same]; exact h.c1 i hi
    · rw [updI_other _ _ e]; exact h.c1 i hi
  · rw [hc]; by_cases e : i = j
    · subst e; rw [updI_same]; exact h.c2 i hi
    · rw [updI_other _ _ e]; exact h.c2 i hi
  · by_cases e : i = j
    · subst e; rw [updI_same]; exact hb.toBSeg
    · rw [updI_other _ _ e]; exact (hbod i hi e).toBSeg
  · by_cases e : i = j
    · subst e; rw [updI_same]; exact h.small i hi
    · rw [updI_other _ _ e]; exact h.small i hi
  · by_cases e : i = j
    · subst e; rw [updI_same]; exact hb.free
    · rw [updI_other _ _ e]; exact (hbod i hi e).free
  · by_cases e : i = j
    · subst e; rw [updI_same]; exact h.away i hi
    · rw [updI_other _ _ e]; exact h.away i hi
  · by_cases e : i = j
    · have e2 : k ≠ j := fun e3 => hik (e.trans e3.symm)
      rw [updI_other _ _ e2]
      subst e; rw [updI_same]; exact h.apart i k hi hk hik
    · rw [updI_other _ _ e]
      by_cases e2 : k = j
      · subst e2; rw [updI_same]; exact h.apart i k hi hk hik
      · rw [updI_other _ _ e2]; exact h.apart i k hi hk hik

/-- What markItemS lays, counting from 1. -/
def kqI (x : Nat → It) (i : Nat) : Int := 1 + 2 * (i : Int) + (sumL x i : Nat)

def mkIt (x : Nat → It) (i : Nat) : It := { x i with tag := kqI x i, kid := kqI x i + 1 + (x i).len, f := fun m => (kqI x i + 1 + m) % 256 }

def mkd (x : Nat → It) (j : Nat) : Nat → It := fun i => if i < j then mkIt x i else x i

theorem mkd_zero (x : Nat → It) : mkd x 0 = x := by funext i; unfold mkd; rw [if_neg (by omega)]

theorem mkd_at (x : Nat → It) (j : Nat) : mkd x j j = x j := by unfold mkd; rw [if_neg (by omega)]

theorem mkd_next (x : Nat → It) (j : Nat) : updI (mkd x j) j (mkIt x j) = mkd x (j + 1) := by
  funext i
  unfold updI mkd
  by_cases e : i = j
  · subst e; rw [if_pos rfl, if_pos (by omega)]
  · rw [if_neg e]
    by_cases c : i < j
    · rw [if_pos c, if_pos (by omega)]
    · rw [if_neg c, if_neg (by omega)]

theorem updI_updI (x : Nat → It) (j : Nat) (s t : It) : updI (updI x j s) j t = updI x j t := by
  funext i
  unfold updI
  by_cases e : i = j
  · rw [if_pos e, if_pos e]
  · rw [if_neg e, if_neg e, if_neg e]

set_option maxHeartbeats 1600000 in
set_option maxRecDepth 100000 in
theorem markItemS_own (B : Nat) (a : Option Addr) (S off n cap : Nat) (x : Nat → It) (w : World) (h : IOw B w a S off n x) (hB : B ≤ w.heap.size) (hn : n ≤ 1048576) (hl : sumL x n ≤ 1048576) :
    Calls Tryd.prog 12 #[.slice a n cap, .int .i64 1] w fun e w' => e = .returned (.int .i64 (kqI x n)) ∧ IOw B w' a S off n (mkd x n) ∧ Mrk B w w' := by
  have H := hide h
  clear h
  go_enter Tryd.func12, Tryd.ntmps12
  go_wp2
  go_loopw [1, 5] (fun k i wr => ∃ j : Nat, j ≤ n ∧ i = .int .i64 (j : Int) ∧ k = .int .i64 (kqI x j) ∧ IOw B wr a S off n (mkd x j) ∧ Mrk B w wr) (fun _ i _ => n - (intOf i).toNat)
  case atStart => exact ⟨0, Nat.zero_le _, rfl, rfl, by rw [mkd_zero]; exact H.out, Mrk.refl _ _⟩
  case round =>
    clear H
    obtain ⟨j, hj, rfl, rfl, hC, hM⟩ := hrel
    have hsj := sumL_mono x hj
    have hq0 : 1 ≤ kqI x j ∧ kqI x j ≤ 5000000 := by unfold kqI; omega
    by_cases hlt : j < n
    · have hjn : (j : Int) < (n : Int) := by omega
      obtain rfl := hC.at' (by omega)
      have hsj1 := sumL_mono x (show j + 1 ≤ n by omega)
      have HS : Hid (sumL x (j + 1) = sumL x j + (x j).len) := rfl
      have hlen : (x j).len ≤ 1048576 := by rw [HS.out] at hsj1; omega
      have hBS := hC.rowB (by omega)
      have hwr : B ≤ wr.heap.size := by rw [hM.size]; exact hB
      have hC1 := hC.tag hlt (kqI x j)
      rw [mkd_at] at hC1
      have c0 := hC.c0 j hlt
      rw [mkd_at] at c0
      have f0 := hC.fz (off + j * 3) (by omega) (by omega)
      have c1 := hC1.c1 j hlt
      rw [updI_same] at c1
      have hM1 := hM.trans (Mrk.of_touch ((Touch.refl S wr).set (off + j * 3) (.int .i64 (kqI x j))) hBS hwr)
      have HB := hC1.own hlt
      rw [updI_same] at HB
      have HKn : Hid (kqI x (j + 1) = kqI x j + 1 + (x j).len + 1) := by
        show _ = _
        unfold kqI
        rw [HS.out]
        push_cast
        omega
      have HX : Hid (updI (updI (updI (mkd x j) j { x j with tag := kqI x j }) j { x j with tag := kqI x j, f := fun m => (kqI x j + 1 + m) % 256 }) j (mkIt x j) = mkd x (j + 1)) := by
        show _ = _
        rw [updI_updI, updI_updI, mkd_next]
      have HXe : Hid (mkIt x j = { x j with tag := kqI x j, kid := kqI x j + 1 + (x j).len, f := fun m => (kqI x j + 1 + m) % 256 }) := rfl
      generalize kqI x j = k at *
      generalize hW1 : wr.setCell ⟨S, off + j * 3, none⟩ (.int .i64 k) = W1 at *
      obtain ⟨g, hg1, hg2⟩ : ∃ g, (0 < (x j).len → g = (x j).blk) ∧ ((x j).len = 0 → g = W1.heap.size) := by
        by_cases c : 0 < (x j).len
        · exact ⟨_, fun _ => rfl, fun h => by omega⟩
        · exact ⟨W1.heap.size, fun h => absurd h c, fun _ => rfl⟩
      have hbg : BOwn W1 (x j).ad g (x j).off (x j).len (x j).f := by
        by_cases c : 0 < (x j).len
        · rw [hg1 c]; exact HB
        · rw [show (x j).len = 0 by omega]; exact BOwn.nil _ _ _ _ _
      have hgB : B ≤ g := by
        by_cases c : 0 < (x j).len
        · rw [hg1 c]; have := (hC.away j hlt (by rw [mkd_at]; exact c)).2; rw [mkd_at] at this; exact this
        · rw [hg2 (by omega), ← hW1]; simpa [World.setCell] using hwr
      have HMk := hide (markByteS_any (x j).ad g (x j).off (x j).len (x j).cap (x j).f (k + 1) W1 hbg hlen (by omega) (by omega))
      have HC1 := hide hC1
      have HM1 := hide hM1
      have HBl := hide HB
      have Hg1 := hide hg1
      have Hg2 := hide hg2
      have HgB := hide hgB
      have HW1 := hide hW1
      have w1 : wrap64 (k + 1) = k + 1 := by unfold wrap64; omega
      have w2 : wrap64 (k + 1 + ((x j).len : Int)) = k + 1 + (x j).len := by unfold wrap64; omega
      have w3 : wrap64 (k + 1 + ((x j).len : Int) + 1) = k + 1 + (x j).len + 1 := by unfold wrap64; omega
      clear hC hM hC1 hM1 HB hg1 hg2 hgB hbg hsj hsj1 HS
      rw [← hW1] at c1
      clear hW1
      go_wp2_with fail
      rw [HW1.out]
      refine HMk.out.mono ?_
      rintro e W2 ⟨rfl, hb2, hT⟩
      have hb3 : BOwn W2 (x j).ad (x j).blk (x j).off (x j).len (fun m => (k + 1 + m) % 256) := by
        by_cases c : 0 < (x j).len
        · rw [← Hg1.out c]; exact hb2
        · rw [show (x j).len = 0 by omega]; exact BOwn.nil _ _ _ _ _
      have hC2 := HC1.out.bod hlt hT (by rw [updI_same]; exact Hg1.out) (by rw [updI_same]; exact Hg2.out) (f := fun m => (k + 1 + m) % 256) (by rw [updI_same]; exact hb3)
      rw [updI_same] at hC2
      have c2 := hC2.c2 j hlt
      have f2 := hC2.fz (off + j * 3 + 2) (by omega) (by omega)
      have hC3 := hC2.kid hlt (k + 1 + ((x j).len : Int))
      rw [updI_same] at hC3 c2
      have HC3 : Hid (IOw B (W2.setCell ⟨S, off + j * 3 + 2, none⟩ (.int .i64 (k + 1 + ((x j).len : Int)))) (some ⟨S, off, none⟩) S off n (mkd x (j + 1))) := by
        rw [← HX.out, HXe.out]
        exact hC3
      have hM2 := HM1.out.trans (Mrk.of_touch hT HgB.out (by rw [HM1.out.size]; exact hB))
      have HM3 := hide (hM2.trans (Mrk.of_touch ((Touch.refl S W2).set (off + j * 3 + 2) (.int .i64 (k + 1 + ((x j).len : Int)))) hBS (by rw [hM2.size]; exact hB)))
      clear hb2 hT hb3 hC2 hC3 hM2 HC1 HM1 HMk HBl Hg1 Hg2 HgB c0 c1 f0 HX HXe
      go_wp2
      go_roundw
      case rel => exact ⟨j + 1, by omega, by go_num, by rw [HKn.out], HC3.out, HM3.out⟩
      case measure => simp [intOf]; omega
    · obtain rfl : j = n := by omega
      have HC := hide hC
      have HM := hide hM
      clear hC hM
      go_wp2
      go_ret
      exact ⟨rfl, HC.out, HM.out⟩

set_option maxHeartbeats 1600000 in
set_option maxRecDepth 100000 in
theorem heldItemS_own (a : Option Addr) (S off n cap : Nat) (x : Nat → It) (w : World) (h : ISeg w a S off n (mkd x n)) (hn : n ≤ 1048576) (hl : sumL x n ≤ 1048576) :
    Calls Tryd.prog 13 #[.slice a n cap, .int .i64 1] w fun e w' => e = .returned (.int .i64 (kqI x n)) ∧ w' = w := by
  have H := hide h
  clear h
  go_enter Tryd.func13, Tryd.ntmps13
  go_wp2
  go_loop [1, 5] (fun k i => ∃ j : Nat, j ≤ n ∧ i = .int .i64 (j : Int) ∧ k = .int .i64 (kqI x j)) (fun _ i => n - (intOf i).toNat)
  case atStart => exact ⟨0, Nat.zero_le _, rfl, rfl⟩
  case round =>
    obtain ⟨j, hj, rfl, rfl⟩ := hrel
    have hsj := sumL_mono x hj
    have hq0 : 1 ≤ kqI x j ∧ kqI x j ≤ 5000000 := by unfold kqI; omega
    by_cases hlt : j < n
    · have hjn : (j : Int) < (n : Int) := by omega
      obtain rfl := H.out.at' (by omega)
      have hsj1 := sumL_mono x (show j + 1 ≤ n by omega)
      have HS : Hid (sumL x (j + 1) = sumL x j + (x j).len) := rfl
      have hlen : (x j).len ≤ 1048576 := by rw [HS.out] at hsj1; omega
      have hmk : mkd x n j = mkIt x j := by unfold mkd; rw [if_pos hlt]
      have c0 : w.cell? ⟨S, off + j * 3, none⟩ = some (.int .i64 (kqI x j)) := by have := H.out.c0 j hlt; rw [hmk] at this; exact this
      have c1 : w.cell? ⟨S, off + j * 3 + 1, none⟩ = some (.slice (x j).ad (x j).len (x j).cap) := by have := H.out.c1 j hlt; rw [hmk] at this; exact this
      have c2 : w.cell? ⟨S, off + j * 3 + 2, none⟩ = some (.int .i64 (kqI x j + 1 + (x j).len)) := by have := H.out.c2 j hlt; rw [hmk] at this; exact this
      have hb : BSeg w (x j).ad (x j).blk (x j).off (x j).len (fun m => (kqI x j + 1 + m) % 256) := by have := H.out.body j hlt; rw [hmk] at this; exact this
      have HKn : Hid (kqI x (j + 1) = kqI x j + 1 + (x j).len + 1) := by
        show _ = _
        unfold kqI
        rw [HS.out]
        push_cast
        omega
      clear hmk
      generalize kqI x j = k at *
      have HHd := hide (heldByteS_any (x j).ad (x j).blk (x j).off (x j).len (x j).cap (k + 1) w hb hlen (by omega) (by omega))
      have w1 : wrap64 (k + 1) = k + 1 := by unfold wrap64; omega
      have w2 : wrap64 (k + 1 + ((x j).len : Int)) = k + 1 + (x j).len := by unfold wrap64; omega
      have w3 : wrap64 (k + 1 + ((x j).len : Int) + 1) = k + 1 + (x j).len + 1 := by unfold wrap64; omega
      have n0 : ¬ k + 1 + ((x j).len : Int) < 0 := by omega
      clear hb hsj hsj1 HS
      go_wp2_with (go_at_call 26; refine HHd.out.mono ?_; rintro e w2 ⟨rfl, hw⟩; obtain rfl := hw.symm)
      go_round
      case rel => exact ⟨j + 1, by omega, by go_num, by rw [HKn.out]⟩
      case measure => simp [intOf]; omega
    · obtain rfl : j = n := by omega
      go_wp2
      go_ret
      exact ⟨rfl, rfl⟩
end

section
set_option linter.unusedVariables false
set_option linter.unusedSimpArgs false

open Go.RowKit

theorem byts_one (f : Nat → Int) (n : Nat) : ∀ u ∈ byts f n, u.oneCell' = true := by
  intro u hu
  obtain ⟨i, -, rfl⟩ := List.mem_map.1 hu
  rfl

theorem byts_congr {f g : Nat → Int} {n : Nat} (h : ∀ i, i < n → f i = g i) : byts f n = byts g n := by
  unfold byts
  refine List.map_congr_left (fun i hi => ?_)
  rw [h i (List.mem_range.1 hi)]

/-- One list behind the other. -/
def catF (f : Nat → Int) (n : Nat) (g : Nat → Int) (i : Nat) : Int := if i < n then f i else g (i - n)

theorem byts_append (f : Nat → Int) (n : Nat) (g : Nat → Int) (m : Nat) : byts f n ++ byts g m = byts (catF f n g) (n + m) := by
  induction m with
  | zero => rw [Nat.add_zero, show byts g 0 = [] from rfl, List.append_nil]; exact byts_congr (fun i hi => by rw [catF, if_pos hi])
  | succ m ih =>
    rw [byts_succ, ← List.append_assoc, ih, ← Nat.add_assoc, byts_succ]
    congr 3
    rw [catF, if_neg (by omega)]
    congr 1
    omega

theorem run_append_nothing {P : Program} {w : World} (base : Nat) (t ty e : TypeId) (i : TypeInfo) (size : Nat) (ht : P.underlying t = some (.slice e)) (hi : P.info? e = some i)
    (v : Value) (n c : Nat) (xs : List Value) (hown : w.ownsRow base e size v n xs) :
    (Builtin.append_ #[t, t] ty #[v, .slice none 0 c]).run P w = .ok v w := by
  rcases hown.2 with ⟨rfl, rfl⟩ | ⟨g, cap, cur, rfl, _, _, hnc, _⟩
  · simp [Builtin.append_, run_underlying ht, sizeOf, typeInfo, hi, Builtin.lenOf, Builtin.firstCells]
  · simp [Builtin.append_, run_underlying ht, sizeOf, typeInfo, hi, Builtin.lenOf, Builtin.firstCells, hnc, storeCells]

/-- An append of bytes, whatever slice they are. -/
theorem wp_append_bs {o : Oper} {a0 : Act} {K : Act → World → Prop} {Q : Exit → Act → World → Prop} {w : World} (s x : Operand)
    (ho : o.op = .call { callee := .builtin .append, args := #[s, x], argTypes := #[22, 22] })
    (base : Nat) (v : Value) (n : Nat) (xs : List Value) (hs : a0.eval s = v) (hown : w.ownsRow base 5 1 v n xs)
    (a : Option Addr) (b off m c : Nat) (f : Nat → Int) (hx : a0.eval x = .slice a m c) (hB : BSeg w a b off m f) (hlen : n + m ≤ 1099511627776) (hbase : base ≤ w.heap.size)
    (h : ∀ v' w', w'.ownsRow base 5 1 v' (n + m) (xs ++ byts f m) → Below base w w' → K (a0.put o.dst v') w') : o.wp Tryd.prog a0 w K Q := by
  obtain ⟨i0, hi, hz0, hz1, hz2⟩ := info_parts Tryd.info5
  have hml : n + m ≤ maxLen := by unfold maxLen; omega
  cases a with
  | none =>
    have hm : m = 0 := by
      cases m with
      | zero => rfl
      | succ m => have := hB.at' (Nat.succ_pos _); cases this
    subst hm
    have hr := run_append_nothing (P := Tryd.prog) base 22 o.type 5 i0 1 Tryd.underlying22 hi v n c xs hown
    unfold Oper.wp
    simp [execOp, ho, resolve, invoke, builtin, hs, hx, hr, Result.andThen]
    exact h v w (by rw [show byts f 0 = [] from rfl, List.append_nil]; exact hown) (Below.refl _ _)
  | some ad =>
    refine wp_append_own w s x 22 ho base 5 i0 (.int .u8 0) 1 1 Tryd.underlying22 hi hz0 hz1 hz2 rfl (by decide) v n xs hs hown ad m c (byts f m) hx (by rw [byts_length, Nat.mul_one]) ?_ (byts_one f m) hml (by omega) hbase ?_
    · intro j u hj
      have hjm : j < m := by have := (List.getElem?_eq_some_iff.1 hj).1; rwa [byts_length] at this
      have := hB.at' (by omega)
      obtain rfl := Option.some.inj this
      rw [show (byts f m)[j]? = some (.int .u8 (f j)) by simp [byts, hjm]] at hj
      obtain rfl := Option.some.inj hj
      have e : Addr.add ⟨b, off, none⟩ j = ⟨b, off + j, none⟩ := by
        by_cases h0 : j = 0
        · subst h0; simp [Addr.add]
        · simp [Addr.add, h0]
      rw [e]
      exact hB.cell j hjm
    · intro v' w' h1 h2 h3
      exact h v' w' h1 ((Below.refl base w).grown h2 hbase (fun k hk => (hown.lt k hk).1))

theorem wpList_append_bs {ops : Array Oper} {rest : List Oper} {o : Oper} {a0 : Act} {Q : Exit → Act → World → Prop} {w : World} (hgd : o.guard = none) (s x : Operand)
    (ho : o.op = .call { callee := .builtin .append, args := #[s, x], argTypes := #[22, 22] })
    (base : Nat) (v : Value) (n : Nat) (xs : List Value) (hs : a0.eval s = v) (hown : w.ownsRow base 5 1 v n xs)
    (a : Option Addr) (b off m c : Nat) (f : Nat → Int) (hx : a0.eval x = .slice a m c) (hB : BSeg w a b off m f) (hlen : n + m ≤ 1099511627776) (hbase : base ≤ w.heap.size)
    (h : ∀ v' w', w'.ownsRow base 5 1 v' (n + m) (xs ++ byts f m) → Below base w w' → wpList Tryd.prog ops Q rest (a0.put o.dst v') w') : wpList Tryd.prog ops Q (o :: rest) a0 w :=
  wpList_plain hgd fun K hK => wp_append_bs s x ho base v n xs hs hown a b off m c f hx hB hlen hbase fun v' w' h1 h2 => hK _ _ (h v' w' h1 h2)

/-- A new list of n bytes, with what lies behind it the call's own. -/
def GivesR (w : World) (n : Nat) (f : Nat → Int) (e : Ending) (w' : World) : Prop :=
  ∃ v, e = .returned v ∧ w'.ownsRow w.heap.size 5 1 v n (byts f n) ∧ Ext w w'

theorem owns_congr {w : World} {base : Nat} {v : Value} {n : Nat} {f g : Nat → Int} (h : w.ownsRow base 5 1 v n (byts f n)) (e : ∀ i, i < n → f i = g i) : w.ownsRow base 5 1 v n (byts g n) := by
  rwa [byts_congr e] at h

/-- Its value is a slice, read as the bytes. -/
theorem owns_seg {w : World} {base : Nat} {v : Value} {n : Nat} {f : Nat → Int} (h : w.ownsRow base 5 1 v n (byts f n)) : ∃ a g cap, v = .slice a n cap ∧ base ≤ g ∧ n ≤ cap ∧ cap ≤ 9223372036854775807 ∧ BOwn w a g 0 n f := by
  have h' := h
  rcases h.2 with ⟨rfl, rfl⟩ | ⟨g, cap, cur, rfl, hg, hb, hn, hm, hs, ht⟩
  · exact ⟨none, base, 0, rfl, Nat.le_refl _, Nat.le_refl _, by omega, BOwn.nil _ _ _ _ _⟩
  · obtain ⟨a, g', cap', hv', hg', hO⟩ := bown_of_owns h'
    simp only [Value.slice.injEq] at hv'
    obtain ⟨rfl, -, rfl⟩ := hv'
    refine ⟨_, g', cap, rfl, hg', hn, by unfold maxLen at hm; omega, hO⟩

set_option maxHeartbeats 800000 in
set_option maxRecDepth 100000 in
theorem clone_any (a : Option Addr) (b off n cap : Nat) (f : Nat → Int) (w : World) (hB : BSeg w a b off n f) (hn : n ≤ 1099511627776) : Calls Tryd.prog 36 #[.slice a n cap] w fun e w' => GivesR w n f e w' := by
  cases a with
  | none =>
    have hm : n = 0 := by
      cases n with
      | zero => rfl
      | succ m => have := hB.at' (Nat.succ_pos _); cases this
    subst hm
    have hq : ∀ w : World, (binOp .eql 22 (.slice none 0 cap) (.slice none 0 0)).run Tryd.prog w = .ok (.bool true) w := fun w => by kernel_rfl
    go_enter Tryd.func36, Tryd.ntmps36
    go_wp2
    go_ret
    exact ⟨_, rfl, World.ownsRow_nil _ _ _ _, Ext.refl _⟩
  | some ad =>
    have hown := World.ownsRow_made (base := w.heap.size) (e := 5) (size := 1) w #[] 0 (Nat.le_refl _) (by simp) rfl
    have hB1 := hB.of_all (Ext.alloc w (.cells #[] 5))
    have Hb := hide hB1
    have Ho := hide hown
    clear hB hB1 hown
    have hq : ∀ w : World, (binOp .eql 22 (.slice (some ad) n cap) (.slice none 0 0)).run Tryd.prog w = .ok (.bool false) w := fun w => by kernel_rfl
    go_enter Tryd.func36, Tryd.ntmps36
    go_wp2_with (at_builtin; refine wpList_append_bs rfl _ _ rfl w.heap.size _ 0 [] rfl Ho.out _ b off n cap f rfl Hb.out (by omega) (by simp) ?_)
    intro v' w1 h1 h2
    have HO := hide h1
    clear h1 Ho Hb
    have HE : Hid (Ext w w1) := hide (((Below.refl _ _).alloc (Nat.le_refl _) _).trans h2)
    clear h2
    go_wp2
    go_ret
    exact ⟨_, rfl, HO.out, HE.out⟩
end

section
set_option linter.unusedVariables false
set_option linter.unusedSimpArgs false

open Go.RowKit

def itW (t : It) : List Value := [.int .i64 t.tag, .slice t.ad t.len t.cap, .int .i64 t.kid]

def itsW (y : Nat → It) : Nat → List Value
  | 0 => []
  | m + 1 => itsW y m ++ itW (y m)

theorem itW_len (t : It) : (itW t).length = 3 := rfl

theorem itsW_len (y : Nat → It) : ∀ m, (itsW y m).length = m * 3
  | 0 => rfl
  | m + 1 => by rw [itsW, List.length_append, itsW_len y m, itW_len]; omega

theorem itsW_at (y : Nat → It) : ∀ m i r, i < m → r < 3 → (itsW y m)[i * 3 + r]? = (itW (y i))[r]?
  | 0, i, r, h, _ => absurd h (Nat.not_lt_zero _)
  | m + 1, i, r, h, hr => by
    rw [itsW]
    by_cases c : i < m
    · rw [List.getElem?_append_left (by rw [itsW_len]; omega)]
      exact itsW_at y m i r c hr
    · obtain rfl : i = m := by omega
      rw [List.getElem?_append_right (by rw [itsW_len]; omega), itsW_len]
      congr 1
      omega

theorem itsW_congr {y z : Nat → It} : ∀ {m : Nat}, (∀ i, i < m → y i = z i) → itsW y m = itsW z m
  | 0, _ => rfl
  | m + 1, h => by rw [itsW, itsW, itsW_congr (fun i hi => h i (by omega)), h m (by omega)]

theorem itW_one (t : It) : ∀ u ∈ itW t, u.oneCell' = true := by
  intro u hu
  simp only [itW, List.mem_cons, List.not_mem_nil, or_false] at hu
  rcases hu with rfl | rfl | rfl <;> rfl

theorem ownsRow_ext {W W' : World} {B e s n : Nat} {v : Value} {xs : List Value} (h : W.ownsRow B e s v n xs) (x : Ext W W') : W'.ownsRow B e s v n xs := by
  refine ⟨h.1, ?_⟩
  rcases h.2 with h0 | ⟨g, cap, cur, rfl, hb, hg, rest⟩
  · exact .inl h0
  · refine .inr ⟨g, cap, cur, rfl, hb, ?_, rest⟩
    have hl : g < W.heap.size := by
      by_cases c : g < W.heap.size
      · exact c
      · rw [Array.getElem?_eq_none (by omega)] at hg; exact absurd hg (by simp)
    exact (Below.block x g hl).trans hg

/-- m items made so far: v is the list. -/
structure IAcc (B : Nat) (W : World) (v : Value) (m : Nat) (y : Nat → It) : Prop where
  row : W.ownsRow B 55 3 v m (itsW y m)
  body : ∀ i, i < m → BOwn W (y i).ad (y i).blk (y i).off (y i).len (y i).f
  away : ∀ i, i < m → 0 < (y i).len → v.ownBlock ≠ some (y i).blk ∧ B ≤ (y i).blk
  apart : ∀ i j, i < m → j < m → i ≠ j → 0 < (y i).len → 0 < (y j).len → (y i).blk ≠ (y j).blk

theorem IAcc.of_all {B : Nat} {W W' : World} {v : Value} {m : Nat} {y : Nat → It} (h : IAcc B W v m y) (e : Ext W W') : IAcc B W' v m y :=
  ⟨ownsRow_ext h.row e, fun i hi => BOwn.of_all (h.body i hi) e, h.away, h.apart⟩

theorem IAcc.congr {B : Nat} {W : World} {v : Value} {m : Nat} {y z : Nat → It} (h : IAcc B W v m y) (e : ∀ i, i < m → y i = z i) : IAcc B W v m z :=
  ⟨by rw [← itsW_congr e]; exact h.row, fun i hi => by rw [← e i hi]; exact h.body i hi, fun i hi => by rw [← e i hi]; exact h.away i hi, fun i j hi hj => by rw [← e i hi, ← e j hj]; exact h.apart i j hi hj⟩

theorem IAcc.iow {B : Nat} {W : World} {v : Value} {m : Nat} {y : Nat → It} (h : IAcc B W v m y) (hs : ∀ i, i < m → (y i).len ≤ 9223372036854775807) : ∃ a S cap, v = .slice a m cap ∧ IOw B W a S 0 m y := by
  have hr := h.row
  rcases h.row.2 with ⟨rfl, rfl⟩ | ⟨g, cap, cur, rfl, hb, hg, hn, hm, hz, ht⟩
  · exact ⟨none, B, 0, rfl, ⟨⟨fun h => absurd h (by omega), fun i hi => absurd hi (by omega), fun i hi => absurd hi (by omega), fun i hi => absurd hi (by omega), fun i hi => absurd hi (by omega), fun i hi => absurd hi (by omega)⟩, fun o h1 h2 => absurd h2 (by omega), fun i hi => absurd hi (by omega), fun i hi => absurd hi (by omega), fun i j hi => absurd hi (by omega), fun _ => Nat.le_refl _⟩⟩
  · have hc : ∀ i r, i < m → r < 3 → W.cell? ⟨g, 0 + i * 3 + r, none⟩ = (itW (y i))[r]? := fun i r hi hr3 => by
      rw [World.ownsRow.cellAt hr (0 + i * 3 + r) (by omega), ← itsW_at y m i r hi hr3]
      congr 1
      omega
    exact ⟨_, g, cap, rfl, ⟨⟨fun _ => rfl, fun i hi => hc i 0 hi (by omega), fun i hi => hc i 1 hi (by omega), fun i hi => hc i 2 hi (by omega), fun i hi => (h.body i hi).toBSeg, hs⟩, fun o _ _ => World.ownsRow.frozenAt hr o, fun i hi => (h.body i hi).free, fun i hi h0 => ⟨fun e => (h.away i hi h0).1 (by rw [e]; rfl), (h.away i hi h0).2⟩, h.apart, fun _ => hb⟩⟩

/-- One item more: its body is new, and apart. -/
theorem IAcc.step {B : Nat} {W W2 w1 : World} {v v' : Value} {m : Nat} {y : Nat → It} {t : It} (h : IAcc B W v m y) (e : Ext W W2)
    (hb : BOwn W2 t.ad t.blk t.off t.len t.f) (hB : 0 < t.len → B ≤ t.blk) (hv : 0 < t.len → v.ownBlock ≠ some t.blk) (ha : ∀ i, i < m → 0 < (y i).len → 0 < t.len → (y i).blk ≠ t.blk)
    (hown : w1.ownsRow B 55 3 v' (m + 1) (itsW y m ++ itW t)) (hg : W2.grownBy w1 v.ownBlock) (hat : v'.ownBlock = v.ownBlock ∨ v'.ownBlock = some W2.heap.size) :
    IAcc B w1 v' (m + 1) (updI y m t) := by
  have hk : ∀ {a : Option Addr} {b o n : Nat} {f : Nat → Int}, BOwn W2 a b o n f → (0 < n → v.ownBlock ≠ some b) → BOwn w1 a b o n f ∧ (0 < n → v'.ownBlock ≠ some b) := fun {a b o n f} hO hne => by
    refine ⟨?_, fun h0 hh => ?_⟩
    · by_cases c : 0 < n
      · have hbl : w1.heap[b]? = W2.heap[b]? := hg.block b (hO.lt c) (fun hh => hne c hh.symm)
        exact ⟨⟨hO.at', fun i hi => (World.cell?_of_block (a := ⟨b, o + i, none⟩) hbl).trans (hO.cell i hi)⟩, fun i hi => (World.frozen?_of_block (a := ⟨b, o + i, none⟩) hbl).trans (hO.free i hi)⟩
      · rw [show n = 0 by omega]; exact BOwn.nil _ _ _ _ _
    · rcases hat with h1 | h1
      · exact hne h0 (by rw [← h1]; exact hh)
      · rw [h1] at hh
        simp only [Option.some.injEq] at hh
        have := hO.lt h0
        omega
  have hy : ∀ i, i < m → updI y m t i = y i := fun i hi => updI_other _ _ (by omega)
  have hO := fun i (hi : i < m) => hk (BOwn.of_all (h.body i hi) e) (fun h0 => (h.away i hi h0).1)
  have hT := hk hb hv
  refine ⟨?_, fun i hi => ?_, fun i hi => ?_, fun i j hi hj hij => ?_⟩
  · rw [itsW, updI_same, itsW_congr hy]; exact hown
  · by_cases c : i = m
    · subst c; rw [updI_same]; exact hT.1
    · rw [updI_other _ _ c]; exact (hO i (by omega)).1
  · by_cases c : i = m
    · subst c; rw [updI_same]; exact fun h0 => ⟨hT.2 h0, hB h0⟩
    · rw [updI_other _ _ c]; exact fun h0 => ⟨(hO i (by omega)).2 h0, (h.away i (by omega) h0).2⟩
  · by_cases c : i = m
    · have c2 : j ≠ m := fun e2 => hij (c.trans e2.symm)
      rw [updI_other _ _ c2, c, updI_same]
      exact fun h1 h2 hh => ha j (by omega) h2 h1 hh.symm
    · rw [updI_other _ _ c]
      by_cases c2 : j = m
      · rw [c2, updI_same]; exact fun h1 h2 => ha i (by omega) h1 h2
      · rw [updI_other _ _ c2]; exact h.apart i j (by omega) (by omega) hij
end

section
set_option linter.unusedVariables false
set_option linter.unusedSimpArgs false

open Go.RowKit

/-- What an item tells. -/
structure Ic where
  tag : Int
  kid : Int
  bd : List Int

/-- What it tells. -/
def ct (t : It) : Ic := ⟨t.tag, t.kid, (List.range t.len).map t.f⟩

/-- Its bytes behind the last are 0: then all of it is told by ct. -/
def Nf (t : It) : Prop := t.f = fun i => ((List.range t.len).map t.f).getD i 0

theorem getD_map {n : Nat} {f : Nat → Int} {i : Nat} (h : i < n) : ((List.range n).map f).getD i 0 = f i := by simp [h]

def nfF (n : Nat) (f : Nat → Int) : Nat → Int := fun i => ((List.range n).map f).getD i 0

theorem nfF_map (n : Nat) (f : Nat → Int) : (List.range n).map (nfF n f) = (List.range n).map f := by
  apply List.map_congr_left
  intro i hi
  exact getD_map (List.mem_range.1 hi)

theorem ct_same {s t : It} (hs : Nf s) (ht : Nf t) (h : ct s = ct t) : s.tag = t.tag ∧ s.kid = t.kid ∧ s.len = t.len ∧ s.f = t.f := by
  unfold ct at h
  simp only [Ic.mk.injEq] at h
  obtain ⟨h1, h2, h3⟩ := h
  refine ⟨h1, h2, by simpa using congrArg List.length h3, ?_⟩
  rw [hs, ht, h3]

def rowL (L : List It) : List Value := L.flatMap itW

theorem rowL_cons (t : It) (L : List It) : rowL (t :: L) = itW t ++ rowL L := by simp [rowL]

theorem rowL_append (L M : List It) : rowL (L ++ M) = rowL L ++ rowL M := by simp [rowL]

theorem rowL_len : ∀ L : List It, (rowL L).length = L.length * 3
  | [] => rfl
  | t :: L => by rw [rowL_cons, List.length_append, itW_len, rowL_len L, List.length_cons]; omega

theorem rowL_one (L : List It) : ∀ u ∈ rowL L, u.oneCell' = true := by
  intro u hu
  unfold rowL at hu
  rw [List.mem_flatMap] at hu
  obtain ⟨t, -, h⟩ := hu
  exact itW_one t u h

def dI : It := ⟨0, 0, none, 0, 0, 0, 0, fun _ => 0⟩

theorem itsW_rowL : ∀ L : List It, itsW (fun i => L.getD i dI) L.length = rowL L := by
  intro L
  have key : ∀ (n : Nat), n ≤ L.length → itsW (fun i => L.getD i dI) n = rowL (L.take n) := by
    intro n
    induction n with
    | zero => intro _; rfl
    | succ n ih =>
      intro h
      rw [itsW, ih (by omega), List.take_add_one, rowL_append]
      congr 1
      have : L[n]? = some (L.getD n dI) := by rw [List.getD_eq_getElem?_getD, List.getElem?_eq_getElem (by omega)]; rfl
      rw [this]
      simp [rowL]
  rw [key L.length (Nat.le_refl _), List.take_length]

/-- Bodies of one's own, apart from one another, at B or behind. -/
structure Bods (B : Nat) (W : World) (L : List It) : Prop where
  own : ∀ t ∈ L, BOwn W t.ad t.blk t.off t.len t.f
  up : ∀ t ∈ L, 0 < t.len → B ≤ t.blk
  nf : ∀ t ∈ L, Nf t
  apart : L.Pairwise (fun s t => 0 < s.len → 0 < t.len → s.blk ≠ t.blk)

theorem Bods.nil (B : Nat) (W : World) : Bods B W [] := ⟨fun _ h => by simp at h, fun _ h => by simp at h, fun _ h => by simp at h, List.Pairwise.nil⟩

theorem Bods.ext {B : Nat} {W W' : World} {L : List It} (h : Bods B W L) (e : Ext W W') : Bods B W' L := ⟨fun t ht => (h.own t ht).of_all e, h.up, h.nf, h.apart⟩

theorem Bods.low {B B' : Nat} {W : World} {L : List It} (h : Bods B W L) (e : B' ≤ B) : Bods B' W L := ⟨h.own, fun t ht h0 => Nat.le_trans e (h.up t ht h0), h.nf, h.apart⟩

theorem Bods.of_blk {B : Nat} {W W' : World} {L : List It} (h : Bods B W L) (e : ∀ t ∈ L, 0 < t.len → W'.heap[t.blk]? = W.heap[t.blk]?) : Bods B W' L :=
  ⟨fun t ht => ⟨⟨(h.own t ht).at', fun i hi => (World.cell?_of_block (a := ⟨t.blk, t.off + i, none⟩) (e t ht (by omega))).trans ((h.own t ht).cell i hi)⟩, fun i hi => (World.frozen?_of_block (a := ⟨t.blk, t.off + i, none⟩) (e t ht (by omega))).trans ((h.own t ht).free i hi)⟩, h.up, h.nf, h.apart⟩

theorem Bods.lt {B : Nat} {W : World} {L : List It} (h : Bods B W L) {t : It} (ht : t ∈ L) (h0 : 0 < t.len) : t.blk < W.heap.size := (h.own t ht).toBSeg.lt h0

theorem Bods.append {B B1 B2 : Nat} {W W2 : World} {L M : List It} (h : Bods B1 W L) (e : Ext W W2) (k : Bods B2 W2 M) (h1 : B ≤ B1) (h2 : B ≤ B2) (hs : W.heap.size ≤ B2) : Bods B W2 (L ++ M) := by
  refine ⟨fun t ht => ?_, fun t ht => ?_, fun t ht => ?_, ?_⟩
  · rcases List.mem_append.1 ht with ht | ht
    · exact (h.own t ht).of_all e
    · exact k.own t ht
  · rcases List.mem_append.1 ht with ht | ht
    · exact fun h0 => Nat.le_trans h1 (h.up t ht h0)
    · exact fun h0 => Nat.le_trans h2 (k.up t ht h0)
  · rcases List.mem_append.1 ht with ht | ht
    · exact h.nf t ht
    · exact k.nf t ht
  · rw [List.pairwise_append]
    refine ⟨h.apart, k.apart, fun s hs1 t ht h0 h3 => ?_⟩
    have a := h.lt hs1 h0
    have b := k.up t ht h3
    omega

/-- One that has no body. -/
def bare (tag kid : Int) : It := ⟨tag, kid, none, 0, 0, 0, 0, fun i => ([] : List Int).getD i 0⟩

theorem Bods.bare {B : Nat} {W : World} {L : List It} (h : Bods B W L) (tag kid : Int) : Bods B W (Proofs.YtmcdikbcmikihaaDoor.bare tag kid :: L) := by
  refine ⟨fun t ht => ?_, fun t ht => ?_, fun t ht => ?_, ?_⟩
  · rcases List.mem_cons.1 ht with rfl | ht
    · exact BOwn.nil _ _ _ _ _
    · exact h.own t ht
  · rcases List.mem_cons.1 ht with rfl | ht
    · exact fun h0 => absurd h0 (Nat.lt_irrefl _)
    · exact h.up t ht
  · rcases List.mem_cons.1 ht with rfl | ht
    · rfl
    · exact h.nf t ht
  · exact List.pairwise_cons.2 ⟨fun t _ h0 => absurd h0 (Nat.lt_irrefl _), h.apart⟩

/-- One body. -/
theorem Bods.one {B : Nat} {W : World} {a : Option Addr} {g off n cap : Nat} {f : Nat → Int} (tag : Int) (h : BOwn W a g off n f) (hg : B ≤ g) : Bods B W [⟨tag, 0, a, g, off, n, cap, nfF n f⟩] :=
  ⟨fun t ht => by rw [List.mem_singleton] at ht; subst ht; exact h.congr (fun i hi => (getD_map hi).symm), fun t ht _ => by rw [List.mem_singleton] at ht; subst ht; exact hg, fun t ht => by
    rw [List.mem_singleton] at ht
    subst ht
    show nfF n f = fun i => ((List.range n).map (nfF n f)).getD i 0
    rw [nfF_map]
    rfl, List.pairwise_singleton _ _⟩

theorem ct_one (tag : Int) (a : Option Addr) (g off n cap : Nat) (f : Nat → Int) : ct ⟨tag, 0, a, g, off, n, cap, nfF n f⟩ = ⟨tag, 0, (List.range n).map f⟩ := by
  show Ic.mk tag 0 _ = _
  rw [nfF_map]

/-- A list of items: the row is one's own, and so are the bodies. -/
structure LAcc (B : Nat) (W : World) (v : Value) (L : List It) : Prop where
  row : W.ownsRow B 55 3 v L.length (rowL L)
  bods : Bods B W L
  away : ∀ t ∈ L, 0 < t.len → v.ownBlock ≠ some t.blk

theorem LAcc.ext {B : Nat} {W W' : World} {v : Value} {L : List It} (h : LAcc B W v L) (e : Ext W W') : LAcc B W' v L := ⟨ownsRow_ext h.row e, h.bods.ext e, h.away⟩

theorem ownsRow_low {W : World} {B B' e s n : Nat} {v : Value} {xs : List Value} (h : W.ownsRow B e s v n xs) (hB : B' ≤ B) : W.ownsRow B' e s v n xs := by
  refine ⟨h.1, ?_⟩
  rcases h.2 with h0 | ⟨g, cap, cur, rfl, hb, rest⟩
  · exact .inl h0
  · exact .inr ⟨g, cap, cur, rfl, Nat.le_trans hB hb, rest⟩

theorem LAcc.low {B B' : Nat} {W : World} {v : Value} {L : List It} (h : LAcc B W v L) (e : B' ≤ B) : LAcc B' W v L := ⟨ownsRow_low h.row e, h.bods.low e, h.away⟩

theorem ownsRow_slc {W : World} {B e s m : Nat} {v : Value} {xs : List Value} (h : W.ownsRow B e s v m xs) : ∃ a cap, v = .slice a m cap := by
  rcases h.2 with ⟨rfl, rfl⟩ | ⟨g, cap, cur, rfl, _⟩
  · exact ⟨_, _, rfl⟩
  · exact ⟨_, _, rfl⟩

theorem Tryd.infoItm : (Tryd.prog.info? 55).map (fun i => (i.zero, i.size, i.bytes)) = some (some (.agg #[.int .i64 0, .slice none 0 0, .int .i64 0]), 3, 40) := by kernel_rfl

/-- The row of another list is read. -/
theorem row_cells {W : World} {B g n cap : Nat} {L : List It} (h : W.ownsRow B 55 3 (.slice (some ⟨g, 0, none⟩) n cap) n (rowL L)) : ∀ j u, (rowL L)[j]? = some u → W.cell? ((⟨g, 0, none⟩ : Addr).add j) = some u := by
  intro j u hj
  have hl : j < n * 3 := by
    have := (List.getElem?_eq_some_iff.1 hj).1
    rw [h.1] at this
    exact this
  have := World.ownsRow.cellAt h j hl
  rw [hj] at this
  have ha : (⟨g, 0, none⟩ : Addr).add j = ⟨g, j, none⟩ := by
    by_cases h0 : j = 0
    · subst h0; simp [Addr.add]
    · simp [Addr.add, h0]
  rw [ha]
  simpa using this

/-- What is made later lies apart. -/
theorem LAcc.later {B : Nat} {W W2 : World} {v : Value} {L M : List It} (hA : LAcc B W v L) (e : Ext W W2) (hb : Bods W.heap.size W2 M) (hB : B ≤ W.heap.size) : Bods B W2 (L ++ M) ∧ ∀ t ∈ M, 0 < t.len → v.ownBlock ≠ some t.blk :=
  ⟨hA.bods.append e hb (Nat.le_refl _) hB (Nat.le_refl _), fun t ht h0 hh => by
    have := (hA.row.lt _ hh).2
    have := hb.up t ht h0
    omega⟩

/-- The walk stands at an append. -/
theorem stop_app {P : Program} {ops : Array Oper} {rest : List Oper} {o : Oper} {a0 : Act} {Q : Exit → Act → World → Prop} {W : World} {s x : Operand} {ts : Array TypeId}
    (ho : o.op = .call { callee := .builtin .append, args := #[s, x], argTypes := ts }) (h : Hid (wpList P ops Q (o :: rest) a0 W)) : wpList P ops Q (o :: rest) a0 W := h.out

/-- A row of one item that is built. -/
theorem ownsRow_it (w : World) (t : It) : (w.alloc (.cells #[.int .i64 t.tag, .slice t.ad t.len t.cap, .int .i64 t.kid] 55)).ownsRow w.heap.size 55 3 (.slice (some ⟨w.heap.size, 0, none⟩) 1 1) [t].length (rowL [t]) :=
  ⟨rfl, .inr ⟨w.heap.size, 1, #[.int .i64 t.tag, .slice t.ad t.len t.cap, .int .i64 t.kid], rfl, Nat.le_refl _, heap_alloc_new w _, Nat.le_refl _, by decide, by simp, by simp [rowL, itW]⟩⟩

theorem LAcc.it (w : World) (t : It) (B : Nat) (h : Bods B w [t]) (hB : B ≤ w.heap.size) : LAcc B (w.alloc (.cells #[.int .i64 t.tag, .slice t.ad t.len t.cap, .int .i64 t.kid] 55)) (.slice (some ⟨w.heap.size, 0, none⟩) 1 1) [t] :=
  ⟨ownsRow_low (ownsRow_it w t) hB, h.ext (Ext.alloc _ _), fun s hs h0 hh => by
    have := h.lt hs h0
    simp only [Value.ownBlock, Option.some.injEq] at hh
    omega⟩

theorem LAcc.nil (w : World) (B : Nat) (hB : B ≤ w.heap.size) : LAcc B (w.alloc (.cells #[] 55)) (.slice (some ⟨w.heap.size, 0, none⟩) 0 0) [] :=
  ⟨ownsRow_low (World.ownsRow_made (base := w.heap.size) (e := 55) (size := 3) w #[] 0 (Nat.le_refl _) (by simp) rfl) hB, Bods.nil _ _, fun _ h => by simp at h⟩
end

end Go.Proofs.YtmcdikbcmikihaaDoor
