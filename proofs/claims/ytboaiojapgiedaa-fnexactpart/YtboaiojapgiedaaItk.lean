/- Walks: lists of items copied (the laws' own helpers). -/
import Derived.Test.YtboaiojapgiedaaItm
namespace Go.Proofs.Ytboaiojapgiedaa
set_option linter.unusedVariables false
set_option linter.unusedSimpArgs false
open Go.RowKit

/-- The item with its bytes in block B. -/
def It.at (x : It) (B : Nat) : It := { x with ad := some ⟨B, 0, none⟩, blk := B, off := 0, cap := x.len }

set_option maxHeartbeats 1600000 in
theorem toItem_any (x : It) (w : World) (hx : BSeg w x.ad x.blk x.off x.len x.f) (hn : x.len ≤ 1048576) :
    Calls Try.prog 28 #[itV x] w fun e w' => e = .returned (itV (x.at (w.heap.size + 3))) ∧ w'.heap.size = w.heap.size + 4 ∧ w'.rowIs (w.heap.size + 3) 5 x.len (fun j => .int .u8 (x.f j)) ∧ Ext w w' := by
  show Calls Try.prog 28 #[.agg #[.int .i64 x.tag, .slice x.ad x.len x.cap, .int .i64 x.kid]] w _
  obtain ⟨V, hV⟩ : ∃ V, ((w.alloc (.cells #[.int .i64 x.tag, .slice x.ad x.len x.cap, .int .i64 x.kid] 45)).alloc (.cells #[.int .i64 0, .slice none 0 0, .int .i64 0] 49)).alloc (.cells #[.int .i64 x.tag, .slice none 0 0, .int .i64 0] 49) = V := ⟨_, rfl⟩
  obtain ⟨B1, B2, B3, hE, -⟩ := box3 w [.int .i64 x.tag, .slice x.ad x.len x.cap, .int .i64 x.kid] [.int .i64 0, .slice none 0 0, .int .i64 0] [.int .i64 x.tag, .slice none 0 0, .int .i64 0] 45 49 49 (w1 := V) (by rw [← hV]; exact Ext.refl _)
  have sV : V.heap.size = w.heap.size + 3 := by rw [← hV]; simp
  have HC := hide (toByteS_any x.ad x.blk x.off x.len x.cap x.f V (hx.of_all hE) hn)
  have HB := hide (And.intro B1 (And.intro B2 B3))
  have HE := hide hE
  have HV := hide hV
  clear hx B1 B2 B3 hE hV
  go_enter Try.func28, Try.ntmps28
  go_wp2_with fail
  rw [HV.out]
  refine HC.out.mono ?_
  rintro e W ⟨rfl, sW, hR, hb⟩
  rw [sV] at sW hR ⊢
  have B1 := HB.out.1.ext hb (by omega)
  have B2 := HB.out.2.1.ext hb (by omega)
  have B3 := HB.out.2.2.ext hb (by omega)
  have a2 := (B1 2 _ rfl).1
  obtain ⟨r0, q0⟩ := B2 0 _ rfl
  obtain ⟨r1, q1⟩ := B2 1 _ rfl
  obtain ⟨r2, q2⟩ := B2 2 _ rfl
  obtain ⟨o0, p0⟩ := B3 0 _ rfl
  obtain ⟨o1, p1⟩ := B3 1 _ rfl
  obtain ⟨o2, p2⟩ := B3 2 _ rfl
  have HE1 := hide (HE.out.trans hb)
  have HR := hide hR
  clear B1 B2 B3 hR hb HB
  go_wp2
  refine bodyPost_ret (v := itV (x.at (w.heap.size + 3))) (by simp [results, Try.results28, go_sem, r0, r1, r2, itV, It.at]) rfl ⟨rfl, ?_, ?_, ?_⟩
  · simp [World.setCell, sW]
  · exact ((((HR.out.setOther (by simp) _).setOther (by simp) _).setOther (by simp) _).setOther (by simp) _).setOther (by simp) _
  · exact ((((Below.setCell HE1.out (by simp <;> omega) _).setCell (by simp <;> omega) _).setCell (by simp <;> omega) _).setCell (by simp <;> omega) _).setCell (by simp <;> omega) _


/-- The cells of an item, of an empty one. -/
def itC (x : It) : Nat → Value
  | 0 => .int .i64 x.tag
  | 1 => .slice x.ad x.len x.cap
  | _ => .int .i64 x.kid
def zeC : Nat → Value
  | 0 => .int .i64 0
  | 1 => .slice none 0 0
  | _ => .int .i64 0

/-- The row of a list of items of which the first k are there. -/
def rowC (y : Nat → It) (k j : Nat) : Value := if j / 3 < k then itC (y (j / 3)) (j % 3) else zeC (j % 3)

theorem made_row (w : World) (y : Nat → It) (n : Nat) (t : TypeId) : (w.alloc (.cells (madeCells #[.int .i64 0, .slice none 0 0, .int .i64 0] (n * 3)) t)).rowIs w.heap.size t (n * 3) (rowC y 0) := by
  have := World.rowIs_alloc w (madeCells #[.int .i64 0, .slice none 0 0, .int .i64 0] (n * 3)) t (rowC y 0) (fun i hi => by
    rw [size_madeCells] at hi
    have h3 : i % 3 = 0 ∨ i % 3 = 1 ∨ i % 3 = 2 := by omega
    rcases h3 with h | h | h <;> simp [madeCells, rowC, h, hi, zeC])
  rwa [size_madeCells] at this

theorem rowC_at {y : Nat → It} {k i : Nat} (h : i < k) (r : Nat) (hr : r < 3) : rowC y k (i * 3 + r) = itC (y i) r := by
  unfold rowC
  rw [show (i * 3 + r) / 3 = i by omega, show (i * 3 + r) % 3 = r by omega, if_pos h]

theorem rowC_off {y : Nat → It} {k i : Nat} (h : ¬ i < k) (r : Nat) (hr : r < 3) : rowC y k (i * 3 + r) = zeC r := by
  unfold rowC
  rw [show (i * 3 + r) / 3 = i by omega, show (i * 3 + r) % 3 = r by omega, if_neg h]

theorem row_put {w : World} {S n : Nat} {t : TypeId} {y : Nat → It} {k : Nat} (h : w.rowIs S t (n * 3) (rowC y k)) :
    (((w.setCell ⟨S, k * 3, none⟩ (itC (y k) 0)).setCell ⟨S, k * 3 + 1, none⟩ (itC (y k) 1)).setCell ⟨S, k * 3 + 2, none⟩ (itC (y k) 2)).rowIs S t (n * 3) (rowC y (k + 1)) := by
  refine (((h.set (k * 3) _).set (k * 3 + 1) _).set (k * 3 + 2) _).congr (fun j hj => ?_)
  by_cases e2 : j = k * 3 + 2
  · rw [if_pos e2, e2, rowC_at (by omega) 2 (by omega)]
  · rw [if_neg e2]
    by_cases e1 : j = k * 3 + 1
    · rw [if_pos e1, e1, rowC_at (by omega) 1 (by omega)]
    · rw [if_neg e1]
      by_cases e0 : j = k * 3
      · rw [if_pos e0, e0]; exact (rowC_at (y := y) (k := k + 1) (i := k) (by omega) 0 (by omega)).symm
      · rw [if_neg e0]
        unfold rowC
        by_cases hlt : j / 3 < k
        · rw [if_pos hlt, if_pos (by omega)]
        · rw [if_neg hlt, if_neg (by omega)]

/-- Items with their bytes in blocks laid one behind the other. -/
def laidI (x : Nat → It) (S : Nat) (i : Nat) : It := (x i).at (S + 4 + 4 * i)

structure ICopying (w wr : World) (n k : Nat) (x : Nat → It) : Prop where
  below : Below w.heap.size w wr
  size : wr.heap.size = w.heap.size + 1 + 4 * k
  row : wr.rowIs w.heap.size 49 (n * 3) (rowC (laidI x w.heap.size) k)
  body : ∀ i, i < k → wr.rowIs (w.heap.size + 4 + 4 * i) 5 (x i).len (fun j => .int .u8 ((x i).f j))

theorem run_make_its (n : Nat) (hn : n ≤ 1048576) (w : World) : (Instr.makeSlice 24 (.int .i64 (n : Int)) (.int .i64 (n : Int))).run Try.prog w = .ok (.slice (some ⟨w.heap.size, 0, none⟩) n n) (w.alloc (.cells (madeCells #[.int .i64 0, .slice none 0 0, .int .i64 0] (n * 3)) 49)) := by
  have hinfo : (Try.prog.info? 49).map (fun i => (i.zero, i.size, i.bytes)) = some (some (.agg #[.int .i64 0, .slice none 0 0, .int .i64 0]), 3, 40) := by kernel_rfl
  obtain ⟨i, hi, hzz⟩ := Option.map_eq_some_iff.1 hinfo
  simp only [Prod.mk.injEq] at hzz
  obtain ⟨hz, hs, hb⟩ := hzz
  have hr := run_make (P := Try.prog) w 24 49 i _ Try.underlying24 hi hz .i64 .i64 n n (by omega) (Int.le_refl _) (by rw [hb]; omega) (by omega)
  simp only [Int.toNat_natCast, hs] at hr
  exact hr

set_option maxHeartbeats 1600000 in
theorem toItemS_any (a : Option Addr) (b off n cap : Nat) (x : Nat → It) (w : World) (hs : ISeg w a b off n x) (hn : n ≤ 1048576) (hl : ∀ i, i < n → (x i).len ≤ 1048576) :
    Calls Try.prog 8 #[.slice a n cap] w fun e w' => e = .returned (.slice (some ⟨w.heap.size, 0, none⟩) n n) ∧ ICopying w w' n n x := by
  have hmk := run_make_its n hn
  have hmr : ∀ w : World, (w.alloc (.cells (madeCells #[.int .i64 0, .slice none 0 0, .int .i64 0] (n * 3)) 49)).rowIs w.heap.size 49 (n * 3) (rowC (laidI x w.heap.size) 0) := fun w => made_row w _ n _
  have HM := hide hmr
  clear hmr
  go_enter Try.func8, Try.ntmps8
  go_wp2
  clear hmk
  go_loopw [4] (fun i wr => ∃ k : Nat, k ≤ n ∧ i = .int .i64 k ∧ ICopying w wr n k x) (fun i _ => n - (intOf i).toNat)
  case atStart => exact ⟨0, Nat.zero_le _, rfl, (Below.refl _ _).alloc (Nat.le_refl _) _, by simp, HM.out w, fun i hi => absurd hi (Nat.not_lt_zero _)⟩
  case round =>
    obtain ⟨k, hk, rfl, hI⟩ := hrel
    by_cases hlt : k < n
    · obtain rfl := hs.at' (by omega)
      have hs' := hs.of_all hI.below
      have c0 := hs'.c0 k hlt
      have c1 := hs'.c1 k hlt
      have c2 := hs'.c2 k hlt
      have HC := hide (toItem_any (x k) wr (hs'.body k hlt) (hl k hlt))
      have hkn : (k : Int) < (n : Int) := by omega
      have HI := hide hI
      have HS := hide hs
      have HL := hide hl
      clear hI hs hs' hl
      go_wp2_with fail
      refine HC.out.mono ?_
      rintro e W ⟨rfl, sW, hR, hE⟩
      have hlw : w.heap.size < wr.heap.size := HI.out.row.lt
      have hrow := rowIs_below HI.out.row hE hlw
      have r0 : W.cell? ⟨w.heap.size, k * 3, none⟩ = some (.int .i64 0) := (hrow.cell (i := k * 3) (by omega)).trans (congrArg some (rowC_off (by omega) 0 (by omega)))
      have r1 : W.cell? ⟨w.heap.size, k * 3 + 1, none⟩ = some (.slice none 0 0) := (hrow.cell (by omega)).trans (congrArg some (rowC_off (by omega) 1 (by omega)))
      have r2 : W.cell? ⟨w.heap.size, k * 3 + 2, none⟩ = some (.int .i64 0) := (hrow.cell (by omega)).trans (congrArg some (rowC_off (by omega) 2 (by omega)))
      have f0 := hrow.frozen (k * 3)
      have f1 := hrow.frozen (k * 3 + 1)
      have f2 := hrow.frozen (k * 3 + 2)
      have hput := row_put hrow
      have HJ : Hid (ICopying w (((W.setCell ⟨w.heap.size, k * 3, none⟩ (.int .i64 (x k).tag)).setCell ⟨w.heap.size, k * 3 + 1, none⟩ (.slice (some ⟨wr.heap.size + 3, 0, none⟩) (x k).len (x k).len)).setCell ⟨w.heap.size, k * 3 + 2, none⟩ (.int .i64 (x k).kid)) n (k + 1) x) := by
        have hz := HI.out.size
        refine ⟨(((Below.trans HI.out.below (hE.mono (by omega))).setCell (Nat.le_refl _) _).setCell (Nat.le_refl _) _).setCell (Nat.le_refl _) _, by simp [World.setCell, sW, hz]; omega, ?_, fun i hi => ?_⟩
        · have e1 : itC (laidI x w.heap.size k) 1 = .slice (some ⟨wr.heap.size + 3, 0, none⟩) (x k).len (x k).len := by
            rw [show wr.heap.size + 3 = w.heap.size + 4 + 4 * k by omega]; rfl
          rw [← e1]
          exact hput
        · refine ((World.rowIs.setOther ?_ (by simp; omega) _).setOther (by simp; omega) _).setOther (by simp; omega) _
          by_cases e : i = k
          · subst e
            rw [show w.heap.size + 4 + 4 * i = wr.heap.size + 3 by omega]
            exact hR
          · exact rowIs_below (HI.out.body i (by omega)) hE (HI.out.body i (by omega)).lt
      clear hput hrow hR hE HI HC
      show _
      simp only [itV, It.at]
      go_wp2
      go_roundw
      case rel => exact ⟨k + 1, by omega, by go_num, HJ.out⟩
      case measure => simp [intOf]; omega
    · obtain rfl : k = n := by omega
      go_wp2
      go_ret
      exact ⟨rfl, hI⟩


/-- What has been copied is a list of items. -/
theorem ICopying.seg {w w' : World} {n : Nat} {x : Nat → It} (h : ICopying w w' n n x) (hl : ∀ i, i < n → (x i).len ≤ 9223372036854775807) : ISeg w' (some ⟨w.heap.size, 0, none⟩) w.heap.size 0 n (laidI x w.heap.size) := by
  refine ⟨fun _ => rfl, fun i hi => ?_, fun i hi => ?_, fun i hi => ?_, fun i hi => ?_, fun i hi => hl i hi⟩
  · rw [Nat.zero_add]; exact (h.row.cell (i := i * 3) (by omega)).trans (congrArg some (rowC_at (r := 0) hi (by omega)))
  · rw [Nat.zero_add]; exact (h.row.cell (by omega)).trans (congrArg some (rowC_at hi 1 (by omega)))
  · rw [Nat.zero_add]; exact (h.row.cell (by omega)).trans (congrArg some (rowC_at hi 2 (by omega)))
  · exact BSeg.of_row (h.body i hi) (Nat.le_refl _)

theorem itEq_laid (x : Nat → It) (S T n : Nat) : itsEq (laidI x S) (laidI x T) n = true := itsEq_yes (fun i _ => by
  show (_ == _ && (_ == _ && _) && _ == _) = true
  simp [laidI, It.at, (alike_iff _ _ _).2 (fun _ _ => rfl)])

end Go.Proofs.Ytboaiojapgiedaa
