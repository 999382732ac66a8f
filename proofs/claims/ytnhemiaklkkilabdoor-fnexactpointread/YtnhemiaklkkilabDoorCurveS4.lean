/- Walks: PointRead of the model. -/
import Derived.Test.YtnhemiaklkkilabDoorCurveS3
namespace Go.Proofs.YtnhemiaklkkilabDoor
set_option linter.unusedVariables false
set_option linter.unusedSimpArgs false
open Go.RowKit Go.Sort

theorem l3Point_any (P A B N gx gy : Int) (a : Option Addr) (b off n cap : Nat) (f : Nat → Int) (w : World) (hc : CvOk P A B N gx gy) (hs : BSeg w a b off n f) (hr : ∀ i, i < n → 0 ≤ f i ∧ f i ≤ 255) (hcap : n ≤ cap) :
    Calls Tryd.prog 32 #[.agg #[.int .i64 P, .int .i64 A, .int .i64 B, .int .i64 N, .int .i64 gx, .int .i64 gy], .slice a n cap] w fun r w' => GivesRd P A B N gx gy n f r ∧ Below w.heap.size w w' := by
  by_cases c1 : n = 1 ∧ f 0 = 0
  · exact l3Point_far P A B N gx gy a b off n cap f w hc hs c1.1 c1.2
  by_cases c7 : n = 7 ∧ f 0 = 4
  · exact l3Point_long P A B N gx gy a b off n cap f w hc hs hr hcap c7.1 c7.2
  by_cases c4 : n = 4 ∧ f 0 = 2
  · exact l3Point_two P A B N gx gy a b off n cap f w hc hs hr hcap c4.1 c4.2
  by_cases c5 : n = 4 ∧ f 0 = 3
  · exact l3Point_three P A B N gx gy a b off n cap f w hc hs hr hcap c5.1 c5.2
  exact l3Point_none P A B N gx gy a b off n cap f w hs (fun h k => c1 ⟨h, k⟩) (fun h k => c7 ⟨h, k⟩) (fun h => ⟨fun k => c4 ⟨h, k⟩, fun k => c5 ⟨h, k⟩⟩)

/-- A call's boxes: a curve and the answer's block. -/
structure Fr1 (w wr : World) (P A B N gx gy : Int) (z : Pt) : Prop where
  cv : CvAt wr w.heap.size P A B N gx gy
  rs : PtAt wr (w.heap.size + 1) z
  below : Below w.heap.size w wr
  big : w.heap.size + 2 ≤ wr.heap.size

theorem Fr1.box (w : World) (P A B N gx gy : Int) (z : Pt) (t1 t2 : TypeId) :
    Fr1 w ((w.alloc (.cells #[.int .i64 P, .int .i64 A, .int .i64 B, .int .i64 N, .int .i64 gx, .int .i64 gy] t1)).alloc (.cells #[.int .i64 z.x, .int .i64 z.y, .bool z.far] t2)) P A B N gx gy z := by
  refine ⟨⟨?_, ?_, ?_, ?_, ?_, ?_⟩, ⟨?_, ?_, ?_, ?_, ?_, ?_⟩, ?_, ?_⟩
  all_goals first | (simp [go_sem]; done) | skip
  repeat (first | exact Below.refl _ _ | refine Below.alloc ?_ (by simp <;> omega) _)

theorem Fr1.call {w wr w1 : World} {P A B N gx gy : Int} {z : Pt} (h : Fr1 w wr P A B N gx gy z) (hb : Below wr.heap.size wr w1) : Fr1 w w1 P A B N gx gy z :=
  ⟨h.cv.below hb (by have := h.big; omega), h.rs.below hb (by have := h.big; omega), h.below.trans (hb.mono (by have := h.big; omega)), Nat.le_trans h.big hb.size⟩

set_option maxHeartbeats 800000 in
set_option maxRecDepth 100000 in
theorem specPointRead_any (P A B N gx gy : Int) (a : Option Addr) (b off n cap : Nat) (f : Nat → Int) (w : World) (hP1 : P ≤ 9223372036854775807) (hN1 : N ≤ 9223372036854775807) (hs : BSeg w a b off n f) (hr : ∀ i, i < n → 0 ≤ f i ∧ f i ≤ 255) (hcap : n ≤ cap) :
    Calls Tryd.prog 16 #[.agg #[.int .i64 P, .int .i64 A, .int .i64 B, .int .i64 N, .int .i64 gx, .int .i64 gy], .slice a n cap] w fun r w' => GivesRd P A B N gx gy n f r ∧ Below w.heap.size w w' := by
  have F0 : Fr1 w ((w.alloc (.cells #[.int .i64 P, .int .i64 A, .int .i64 B, .int .i64 N, .int .i64 gx, .int .i64 gy] 29)).alloc (.cells #[.int .i64 0, .int .i64 0, .bool false] 26)) P A B N gx gy zeroP := Fr1.box w P A B N gx gy zeroP 29 26
  have HF := hide F0
  obtain ⟨⟨k0, k1, k2, k3, k4, k5⟩, -, -, -⟩ := F0
  go_enter Tryd.func16, Tryd.ntmps16
  go_wp2_with fail
  refine (specCurveOk_any P A B N gx gy _ hP1 hN1).mono ?_
  rintro r w1 ⟨⟨ok, rfl, h1⟩, hw1⟩
  have F1 := HF.out.call hw1
  have HF1 := hide F1
  clear k0 k1 k2 k3 k4 k5 HF hw1
  obtain ⟨⟨k0, k1, k2, k3, k4, k5⟩, ⟨a0, a1, a2, b0, b1, b2⟩, -, -⟩ := F1
  simp only [zeroP] at a0 a1 a2
  cases ok
  · have Hn : Hid (GivesRd P A B N gx gy n f (.returned (.tuple #[.agg #[.int .i64 0, .int .i64 0, .bool false], .bool false]))) := givesRd_no (fun c v h => by simpa using h1.2 v)
    clear h1
    go_wp2
    refine bodyPost_ret (v := .tuple #[.agg #[.int .i64 0, .int .i64 0, .bool false], .bool false]) (by simp [results, Tryd.results16, go_sem, a0, a1, a2]) rfl ⟨Hn.out, ?_⟩
    first | exact below_put HF1.out.below (C := w.heap.size + 1) (by omega) zeroP | exact HF1.out.below
  have Hc := hide (h1.1 rfl)
  clear h1
  go_wp2_with fail
  refine (l3Point_any P A B N gx gy a b off n cap f _ Hc.out (hs.of_all HF1.out.below) hr hcap).mono ?_
  rintro r w2 ⟨⟨c, ok, rfl, h2⟩, hw2⟩
  have HG : Hid (GivesRd P A B N gx gy n f (.returned (.tuple #[.agg #[.int .i64 c.x, .int .i64 c.y, .bool c.far], .bool ok]))) := ⟨c, ok, rfl, h2⟩
  have F2 := HF1.out.call hw2
  have HF2 := hide F2
  clear k0 k1 k2 k3 k4 k5 a0 a1 a2 b0 b1 b2 HF1 hw2 h2
  obtain ⟨-, ⟨a0, a1, a2, b0, b1, b2⟩, -, -⟩ := F2
  simp only [zeroP] at a0 a1 a2
  go_wp2
  refine bodyPost_ret (v := .tuple #[.agg #[.int .i64 c.x, .int .i64 c.y, .bool c.far], .bool ok]) (by simp [results, Tryd.results16, go_sem, a0, a1, a2]) rfl ⟨HG.out, ?_⟩
  exact below_put HF2.out.below (C := w.heap.size + 1) (by omega) c

end Go.Proofs.YtnhemiaklkkilabDoor
