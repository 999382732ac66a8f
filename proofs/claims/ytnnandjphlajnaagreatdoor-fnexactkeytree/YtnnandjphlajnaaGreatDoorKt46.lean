/- Walks: a copy of a key, whose numbers are one's own; markKey. -/
import Derived.Test.YtnnandjphlajnaaGreatDoorKt37
import Derived.Test.YtnnandjphlajnaaGreatDoorKt45
namespace Go.Proofs.YtnnandjphlajnaaGreatDoor

section
set_option linter.unusedVariables false
set_option linter.unusedSimpArgs false

open Go.RowKit

theorem Own.putAll {w : World} {a : Option Addr} {g o n D : Nat} {f : Nat → Int} (vs : List Value) (h : Own w a g o n f) (hn : g ≠ D) : Own (putL D 0 vs w) a g o n f :=
  ⟨h.toSeg.putAll vs hn, fun j hj => by rw [frozen_putL]; exact h.free j hj⟩

theorem Own.apart {w : World} {a : Option Addr} {g o n D i : Nat} {f : Nat → Int} (h : Own w a g o n f) (v : Value) (hn : g ≠ D) : Own (w.setCell ⟨D, i, none⟩ v) a g o n f :=
  ⟨h.toSeg.apart v hn, fun j hj => by rw [World.frozen?_setCell]; exact h.free j hj⟩

def GivesKyO (w : World) (k : Ky) (e : Ending) (w' : World) : Prop := ∃ R, e = .returned (.agg #[.int .i64 k.kind, .slice (some ⟨R, 0, none⟩) k.n k.n, .int .i64 k.e, .int .i64 k.cP, .int .i64 k.cA, .int .i64 k.cB, .int .i64 k.cN, .int .i64 k.cX, .int .i64 k.cY, .int .i64 k.q.x, .int .i64 k.q.y, .bool k.q.far, .int .i64 k.dP, .int .i64 k.dD, .int .i64 k.dL, .int .i64 k.dX, .int .i64 k.dY, .int .i64 k.a.x, .int .i64 k.a.y]) ∧ w.heap.size ≤ R ∧ Own w' (some ⟨R, 0, none⟩) R 0 k.n k.f ∧ Ext w w'

set_option maxHeartbeats 6400000 in
set_option maxRecDepth 100000 in
theorem toKeyO_any (k : Ky) (ad : Option Addr) (b off cap : Nat) (w : World) (hs : Seg w ad b off k.n k.f) (hn : k.n ≤ 1048576) :
    Calls Tryz.prog 11 #[.agg #[.int .i64 k.kind, .slice ad k.n cap, .int .i64 k.e, .int .i64 k.cP, .int .i64 k.cA, .int .i64 k.cB, .int .i64 k.cN, .int .i64 k.cX, .int .i64 k.cY, .int .i64 k.q.x, .int .i64 k.q.y, .bool k.q.far, .int .i64 k.dP, .int .i64 k.dD, .int .i64 k.dL, .int .i64 k.dX, .int .i64 k.dY, .int .i64 k.a.x, .int .i64 k.a.y]] w fun e w' => GivesKyO w k e w' := by
  obtain ⟨V, hV⟩ : ∃ V, ((w.alloc (.cells #[.int .i64 k.kind, .slice ad k.n cap, .int .i64 k.e, .int .i64 k.cP, .int .i64 k.cA, .int .i64 k.cB, .int .i64 k.cN, .int .i64 k.cX, .int .i64 k.cY, .int .i64 k.q.x, .int .i64 k.q.y, .bool k.q.far, .int .i64 k.dP, .int .i64 k.dD, .int .i64 k.dL, .int .i64 k.dX, .int .i64 k.dY, .int .i64 k.a.x, .int .i64 k.a.y] 32)).alloc (.cells #[.int .i64 0, .slice none 0 0, .int .i64 0, .int .i64 0, .int .i64 0, .int .i64 0, .int .i64 0, .int .i64 0, .int .i64 0, .int .i64 0, .int .i64 0, .bool false, .int .i64 0, .int .i64 0, .int .i64 0, .int .i64 0, .int .i64 0, .int .i64 0, .int .i64 0] 42)).alloc (.cells #[.int .i64 0, .slice none 0 0, .int .i64 0, .int .i64 0, .int .i64 0, .int .i64 0, .int .i64 0, .int .i64 0, .int .i64 0, .int .i64 0, .int .i64 0, .bool false, .int .i64 0, .int .i64 0, .int .i64 0, .int .i64 0, .int .i64 0, .int .i64 0, .int .i64 0] 42) = V := ⟨_, rfl⟩
  obtain ⟨B0, B2, B1, hE, -⟩ := box3 w [.int .i64 k.kind, .slice ad k.n cap, .int .i64 k.e, .int .i64 k.cP, .int .i64 k.cA, .int .i64 k.cB, .int .i64 k.cN, .int .i64 k.cX, .int .i64 k.cY, .int .i64 k.q.x, .int .i64 k.q.y, .bool k.q.far, .int .i64 k.dP, .int .i64 k.dD, .int .i64 k.dL, .int .i64 k.dX, .int .i64 k.dY, .int .i64 k.a.x, .int .i64 k.a.y] [.int .i64 0, .slice none 0 0, .int .i64 0, .int .i64 0, .int .i64 0, .int .i64 0, .int .i64 0, .int .i64 0, .int .i64 0, .int .i64 0, .int .i64 0, .bool false, .int .i64 0, .int .i64 0, .int .i64 0, .int .i64 0, .int .i64 0, .int .i64 0, .int .i64 0] [.int .i64 0, .slice none 0 0, .int .i64 0, .int .i64 0, .int .i64 0, .int .i64 0, .int .i64 0, .int .i64 0, .int .i64 0, .int .i64 0, .int .i64 0, .bool false, .int .i64 0, .int .i64 0, .int .i64 0, .int .i64 0, .int .i64 0, .int .i64 0, .int .i64 0] 32 42 42 (w1 := V) (by rw [← hV]; exact Ext.refl _)
  have HA := hide B0
  have HO := hide B1
  have HQ := hide B2
  have HW := hide hE
  have HInt : Hid (∀ W, Ext w W → Calls Tryz.prog 39 #[.slice ad k.n cap] W fun e w' => ∃ R, e = .returned (.slice (some ⟨R, 0, none⟩) k.n k.n) ∧ W.heap.size ≤ R ∧ Own w' (some ⟨R, 0, none⟩) R 0 k.n k.f ∧ Ext W w') := fun W h => (toIntS_any ad b off k.n cap k.f W (hs.of_all h) hn).mono fun e w' ⟨h1, h2, h3, h4⟩ => ⟨_, h1, Nat.le_refl _, Own.of_row h3 (Nat.le_refl _), h4⟩
  clear B0 B1 B2 hE hs
  have a0 := (HA.out 0 _ rfl).1
  have a1 := (HA.out 1 _ rfl).1
  have o0 := (HO.out 0 _ rfl).1
  have f0 := (HO.out 0 _ rfl).2
  go_enter Tryz.func11, Tryz.ntmps11
  go_wp2_with fail
  refine (HInt.out _ (Below.setCell HW.out (p := ⟨w.heap.size + 1 + 1, 0, none⟩) (Nat.le_succ_of_le (Nat.le_succ _)) _)).mono ?_
  rintro e w1 ⟨R, rfl, hR, hSg, hEW⟩
  clear a0 a1 o0 f0
  replace HQ := hide (Blk.ext (Blk.apart HQ.out _ (by omega)) hEW (World.block_lt_of_cell? _ _ ((Blk.apart HQ.out _ (by omega)) 0 _ rfl).1))
  replace HA := hide (Blk.ext (Blk.apart HA.out _ (by omega)) hEW (World.block_lt_of_cell? _ _ ((Blk.apart HA.out _ (by omega)) 0 _ rfl).1))
  have HO0 := HO
  replace HO : Hid (Blk w1 (w.heap.size + 1 + 1) [.int .i64 k.kind, .slice none 0 0, .int .i64 0, .int .i64 0, .int .i64 0, .int .i64 0, .int .i64 0, .int .i64 0, .int .i64 0, .int .i64 0, .int .i64 0, .bool false, .int .i64 0, .int .i64 0, .int .i64 0, .int .i64 0, .int .i64 0, .int .i64 0, .int .i64 0]) := hide (Blk.ext (Blk.set HO.out 0 _ (by simp)) hEW (World.block_lt_of_cell? _ _ ((Blk.set HO.out 0 _ (by simp)) 0 _ rfl).1))
  have HRn : Hid (R ≠ w.heap.size + 1 + 1) := by
    show _ ≠ _
    have h1 := World.block_lt_of_cell? _ _ ((Blk.set HO0.out 0 (.int .i64 k.kind) (by simp)) 0 _ rfl).1
    have h2 : w.heap.size + 1 + 1 < (V.setCell ⟨w.heap.size + 1 + 1, 0, none⟩ (.int .i64 k.kind)).heap.size := h1
    omega
  have HRq : Hid (R ≠ w.heap.size + 1) := by
    show _ ≠ _
    have h1 := World.block_lt_of_cell? _ _ ((Blk.set HO0.out 0 (.int .i64 k.kind) (by simp)) 0 _ rfl).1
    have h2 : w.heap.size + 1 + 1 < (V.setCell ⟨w.heap.size + 1 + 1, 0, none⟩ (.int .i64 k.kind)).heap.size := h1
    omega
  have HR : Hid (w.heap.size ≤ R) := by
    show _ ≤ _
    have h1 := Below.size HW.out
    have h2 : (V.setCell ⟨w.heap.size + 1 + 1, 0, none⟩ (.int .i64 k.kind)).heap.size = V.heap.size := by simp [World.setCell]
    omega
  have HSg := hide hSg
  clear hSg hR
  replace HW := hide (Ext.trans (Below.setCell HW.out (p := ⟨w.heap.size + 1 + 1, 0, none⟩) (Nat.le_succ_of_le (Nat.le_succ _)) _) hEW)
  clear hEW
  have a2 := (HA.out 2 _ rfl).1
  have a3 := (HA.out 3 _ rfl).1
  have a4 := (HA.out 4 _ rfl).1
  have a5 := (HA.out 5 _ rfl).1
  have a6 := (HA.out 6 _ rfl).1
  have a7 := (HA.out 7 _ rfl).1
  have a8 := (HA.out 8 _ rfl).1
  have o1 := (HO.out 1 _ rfl).1
  have f1 := (HO.out 1 _ rfl).2
  have o2 := (HO.out 2 _ rfl).1
  have f2 := (HO.out 2 _ rfl).2
  go_wp2_with fail
  refine (toCurve_any k.cP k.cA k.cB k.cN k.cX k.cY _).mono ?_
  rintro e w2 ⟨rfl, hEW⟩
  clear a2 a3 a4 a5 a6 a7 a8 o1 f1 o2 f2
  replace HQ := hide (Blk.ext (Blk.apart (Blk.apart HQ.out _ (by omega)) _ (by omega)) hEW (World.block_lt_of_cell? _ _ ((Blk.apart (Blk.apart HQ.out _ (by omega)) _ (by omega)) 0 _ rfl).1))
  replace HA := hide (Blk.ext (Blk.apart (Blk.apart HA.out _ (by omega)) _ (by omega)) hEW (World.block_lt_of_cell? _ _ ((Blk.apart (Blk.apart HA.out _ (by omega)) _ (by omega)) 0 _ rfl).1))
  have HO0 := HO
  replace HO : Hid (Blk w2 (w.heap.size + 1 + 1) [.int .i64 k.kind, .slice (some ⟨R, 0, none⟩) k.n k.n, .int .i64 k.e, .int .i64 0, .int .i64 0, .int .i64 0, .int .i64 0, .int .i64 0, .int .i64 0, .int .i64 0, .int .i64 0, .bool false, .int .i64 0, .int .i64 0, .int .i64 0, .int .i64 0, .int .i64 0, .int .i64 0, .int .i64 0]) := hide (Blk.ext (Blk.set (Blk.set HO.out 1 _ (by simp)) 2 _ (by simp)) hEW (World.block_lt_of_cell? _ _ ((Blk.set (Blk.set HO.out 1 _ (by simp)) 2 _ (by simp)) 0 _ rfl).1))
  replace HSg := hide (Own.of_all (Own.apart (Own.apart HSg.out _ HRn.out) _ HRn.out) hEW)
  replace HW := hide (Ext.trans (Below.setCell (Below.setCell HW.out (p := ⟨w.heap.size + 1 + 1, 1, none⟩) (Nat.le_succ_of_le (Nat.le_succ _)) _) (p := ⟨w.heap.size + 1 + 1, 2, none⟩) (Nat.le_succ_of_le (Nat.le_succ _)) _) hEW)
  clear hEW
  have a9 := (HA.out 9 _ rfl).1
  have a10 := (HA.out 10 _ rfl).1
  have a11 := (HA.out 11 _ rfl).1
  have o3 := (HO.out 3 _ rfl).1
  have f3 := (HO.out 3 _ rfl).2
  have o4 := (HO.out 4 _ rfl).1
  have f4 := (HO.out 4 _ rfl).2
  have o5 := (HO.out 5 _ rfl).1
  have f5 := (HO.out 5 _ rfl).2
  have o6 := (HO.out 6 _ rfl).1
  have f6 := (HO.out 6 _ rfl).2
  have o7 := (HO.out 7 _ rfl).1
  have f7 := (HO.out 7 _ rfl).2
  have o8 := (HO.out 8 _ rfl).1
  have f8 := (HO.out 8 _ rfl).2
  go_wp2_with fail
  refine (toPoint_any k.q.x k.q.y k.q.far _).mono ?_
  rintro e w3 ⟨rfl, hEW⟩
  clear a9 a10 a11 o3 f3 o4 f4 o5 f5 o6 f6 o7 f7 o8 f8
  replace HQ := hide (Blk.ext (Blk.apart (Blk.apart (Blk.apart (Blk.apart (Blk.apart (Blk.apart HQ.out _ (by omega)) _ (by omega)) _ (by omega)) _ (by omega)) _ (by omega)) _ (by omega)) hEW (World.block_lt_of_cell? _ _ ((Blk.apart (Blk.apart (Blk.apart (Blk.apart (Blk.apart (Blk.apart HQ.out _ (by omega)) _ (by omega)) _ (by omega)) _ (by omega)) _ (by omega)) _ (by omega)) 0 _ rfl).1))
  replace HA := hide (Blk.ext (Blk.apart (Blk.apart (Blk.apart (Blk.apart (Blk.apart (Blk.apart HA.out _ (by omega)) _ (by omega)) _ (by omega)) _ (by omega)) _ (by omega)) _ (by omega)) hEW (World.block_lt_of_cell? _ _ ((Blk.apart (Blk.apart (Blk.apart (Blk.apart (Blk.apart (Blk.apart HA.out _ (by omega)) _ (by omega)) _ (by omega)) _ (by omega)) _ (by omega)) _ (by omega)) 0 _ rfl).1))
  have HO0 := HO
  replace HO : Hid (Blk w3 (w.heap.size + 1 + 1) [.int .i64 k.kind, .slice (some ⟨R, 0, none⟩) k.n k.n, .int .i64 k.e, .int .i64 k.cP, .int .i64 k.cA, .int .i64 k.cB, .int .i64 k.cN, .int .i64 k.cX, .int .i64 k.cY, .int .i64 0, .int .i64 0, .bool false, .int .i64 0, .int .i64 0, .int .i64 0, .int .i64 0, .int .i64 0, .int .i64 0, .int .i64 0]) := hide (Blk.ext (Blk.set (Blk.set (Blk.set (Blk.set (Blk.set (Blk.set HO.out 3 _ (by simp)) 4 _ (by simp)) 5 _ (by simp)) 6 _ (by simp)) 7 _ (by simp)) 8 _ (by simp)) hEW (World.block_lt_of_cell? _ _ ((Blk.set (Blk.set (Blk.set (Blk.set (Blk.set (Blk.set HO.out 3 _ (by simp)) 4 _ (by simp)) 5 _ (by simp)) 6 _ (by simp)) 7 _ (by simp)) 8 _ (by simp)) 0 _ rfl).1))
  replace HSg := hide (Own.of_all (Own.apart (Own.apart (Own.apart (Own.apart (Own.apart (Own.apart HSg.out _ HRn.out) _ HRn.out) _ HRn.out) _ HRn.out) _ HRn.out) _ HRn.out) hEW)
  replace HW := hide (Ext.trans (Below.setCell (Below.setCell (Below.setCell (Below.setCell (Below.setCell (Below.setCell HW.out (p := ⟨w.heap.size + 1 + 1, 3, none⟩) (Nat.le_succ_of_le (Nat.le_succ _)) _) (p := ⟨w.heap.size + 1 + 1, 4, none⟩) (Nat.le_succ_of_le (Nat.le_succ _)) _) (p := ⟨w.heap.size + 1 + 1, 5, none⟩) (Nat.le_succ_of_le (Nat.le_succ _)) _) (p := ⟨w.heap.size + 1 + 1, 6, none⟩) (Nat.le_succ_of_le (Nat.le_succ _)) _) (p := ⟨w.heap.size + 1 + 1, 7, none⟩) (Nat.le_succ_of_le (Nat.le_succ _)) _) (p := ⟨w.heap.size + 1 + 1, 8, none⟩) (Nat.le_succ_of_le (Nat.le_succ _)) _) hEW)
  clear hEW
  have a12 := (HA.out 12 _ rfl).1
  have a13 := (HA.out 13 _ rfl).1
  have a14 := (HA.out 14 _ rfl).1
  have a15 := (HA.out 15 _ rfl).1
  have a16 := (HA.out 16 _ rfl).1
  have o9 := (HO.out 9 _ rfl).1
  have f9 := (HO.out 9 _ rfl).2
  have o10 := (HO.out 10 _ rfl).1
  have f10 := (HO.out 10 _ rfl).2
  have o11 := (HO.out 11 _ rfl).1
  have f11 := (HO.out 11 _ rfl).2
  go_wp2_with fail
  refine (toEd_any k.dP k.dD k.dL k.dX k.dY _).mono ?_
  rintro e w4 ⟨rfl, hEW⟩
  clear a12 a13 a14 a15 a16 o9 f9 o10 f10 o11 f11
  replace HQ := hide (Blk.ext (Blk.apart (Blk.apart (Blk.apart HQ.out _ (by omega)) _ (by omega)) _ (by omega)) hEW (World.block_lt_of_cell? _ _ ((Blk.apart (Blk.apart (Blk.apart HQ.out _ (by omega)) _ (by omega)) _ (by omega)) 0 _ rfl).1))
  replace HA := hide (Blk.ext (Blk.apart (Blk.apart (Blk.apart HA.out _ (by omega)) _ (by omega)) _ (by omega)) hEW (World.block_lt_of_cell? _ _ ((Blk.apart (Blk.apart (Blk.apart HA.out _ (by omega)) _ (by omega)) _ (by omega)) 0 _ rfl).1))
  have HO0 := HO
  replace HO : Hid (Blk w4 (w.heap.size + 1 + 1) [.int .i64 k.kind, .slice (some ⟨R, 0, none⟩) k.n k.n, .int .i64 k.e, .int .i64 k.cP, .int .i64 k.cA, .int .i64 k.cB, .int .i64 k.cN, .int .i64 k.cX, .int .i64 k.cY, .int .i64 k.q.x, .int .i64 k.q.y, .bool k.q.far, .int .i64 0, .int .i64 0, .int .i64 0, .int .i64 0, .int .i64 0, .int .i64 0, .int .i64 0]) := hide (Blk.ext (Blk.set (Blk.set (Blk.set HO.out 9 _ (by simp)) 10 _ (by simp)) 11 _ (by simp)) hEW (World.block_lt_of_cell? _ _ ((Blk.set (Blk.set (Blk.set HO.out 9 _ (by simp)) 10 _ (by simp)) 11 _ (by simp)) 0 _ rfl).1))
  replace HSg := hide (Own.of_all (Own.apart (Own.apart (Own.apart HSg.out _ HRn.out) _ HRn.out) _ HRn.out) hEW)
  replace HW := hide (Ext.trans (Below.setCell (Below.setCell (Below.setCell HW.out (p := ⟨w.heap.size + 1 + 1, 9, none⟩) (Nat.le_succ_of_le (Nat.le_succ _)) _) (p := ⟨w.heap.size + 1 + 1, 10, none⟩) (Nat.le_succ_of_le (Nat.le_succ _)) _) (p := ⟨w.heap.size + 1 + 1, 11, none⟩) (Nat.le_succ_of_le (Nat.le_succ _)) _) hEW)
  clear hEW
  have a17 := (HA.out 17 _ rfl).1
  have a18 := (HA.out 18 _ rfl).1
  have o12 := (HO.out 12 _ rfl).1
  have f12 := (HO.out 12 _ rfl).2
  have o13 := (HO.out 13 _ rfl).1
  have f13 := (HO.out 13 _ rfl).2
  have o14 := (HO.out 14 _ rfl).1
  have f14 := (HO.out 14 _ rfl).2
  have o15 := (HO.out 15 _ rfl).1
  have f15 := (HO.out 15 _ rfl).2
  have o16 := (HO.out 16 _ rfl).1
  have f16 := (HO.out 16 _ rfl).2
  go_wp2_with fail
  refine (toPair_any k.a.x k.a.y _).mono ?_
  rintro e w5 ⟨rfl, hEW⟩
  clear a17 a18 o12 f12 o13 f13 o14 f14 o15 f15 o16 f16
  replace HQ := hide (Blk.ext (Blk.apart (Blk.apart (Blk.apart (Blk.apart (Blk.apart HQ.out _ (by omega)) _ (by omega)) _ (by omega)) _ (by omega)) _ (by omega)) hEW (World.block_lt_of_cell? _ _ ((Blk.apart (Blk.apart (Blk.apart (Blk.apart (Blk.apart HQ.out _ (by omega)) _ (by omega)) _ (by omega)) _ (by omega)) _ (by omega)) 0 _ rfl).1))
  replace HA := hide (Blk.ext (Blk.apart (Blk.apart (Blk.apart (Blk.apart (Blk.apart HA.out _ (by omega)) _ (by omega)) _ (by omega)) _ (by omega)) _ (by omega)) hEW (World.block_lt_of_cell? _ _ ((Blk.apart (Blk.apart (Blk.apart (Blk.apart (Blk.apart HA.out _ (by omega)) _ (by omega)) _ (by omega)) _ (by omega)) _ (by omega)) 0 _ rfl).1))
  have HO0 := HO
  replace HO : Hid (Blk w5 (w.heap.size + 1 + 1) [.int .i64 k.kind, .slice (some ⟨R, 0, none⟩) k.n k.n, .int .i64 k.e, .int .i64 k.cP, .int .i64 k.cA, .int .i64 k.cB, .int .i64 k.cN, .int .i64 k.cX, .int .i64 k.cY, .int .i64 k.q.x, .int .i64 k.q.y, .bool k.q.far, .int .i64 k.dP, .int .i64 k.dD, .int .i64 k.dL, .int .i64 k.dX, .int .i64 k.dY, .int .i64 0, .int .i64 0]) := hide (Blk.ext (Blk.set (Blk.set (Blk.set (Blk.set (Blk.set HO.out 12 _ (by simp)) 13 _ (by simp)) 14 _ (by simp)) 15 _ (by simp)) 16 _ (by simp)) hEW (World.block_lt_of_cell? _ _ ((Blk.set (Blk.set (Blk.set (Blk.set (Blk.set HO.out 12 _ (by simp)) 13 _ (by simp)) 14 _ (by simp)) 15 _ (by simp)) 16 _ (by simp)) 0 _ rfl).1))
  replace HSg := hide (Own.of_all (Own.apart (Own.apart (Own.apart (Own.apart (Own.apart HSg.out _ HRn.out) _ HRn.out) _ HRn.out) _ HRn.out) _ HRn.out) hEW)
  replace HW := hide (Ext.trans (Below.setCell (Below.setCell (Below.setCell (Below.setCell (Below.setCell HW.out (p := ⟨w.heap.size + 1 + 1, 12, none⟩) (Nat.le_succ_of_le (Nat.le_succ _)) _) (p := ⟨w.heap.size + 1 + 1, 13, none⟩) (Nat.le_succ_of_le (Nat.le_succ _)) _) (p := ⟨w.heap.size + 1 + 1, 14, none⟩) (Nat.le_succ_of_le (Nat.le_succ _)) _) (p := ⟨w.heap.size + 1 + 1, 15, none⟩) (Nat.le_succ_of_le (Nat.le_succ _)) _) (p := ⟨w.heap.size + 1 + 1, 16, none⟩) (Nat.le_succ_of_le (Nat.le_succ _)) _) hEW)
  clear hEW
  have o17 := (HO.out 17 _ rfl).1
  have f17 := (HO.out 17 _ rfl).2
  have o18 := (HO.out 18 _ rfl).1
  have f18 := (HO.out 18 _ rfl).2
  have hO2 : Blk ((w5.setCell ⟨w.heap.size + 1 + 1, 17, none⟩ (.int .i64 k.a.x)).setCell ⟨w.heap.size + 1 + 1, 18, none⟩ (.int .i64 k.a.y)) (w.heap.size + 1 + 1) [.int .i64 k.kind, .slice (some ⟨R, 0, none⟩) k.n k.n, .int .i64 k.e, .int .i64 k.cP, .int .i64 k.cA, .int .i64 k.cB, .int .i64 k.cN, .int .i64 k.cX, .int .i64 k.cY, .int .i64 k.q.x, .int .i64 k.q.y, .bool k.q.far, .int .i64 k.dP, .int .i64 k.dD, .int .i64 k.dL, .int .i64 k.dX, .int .i64 k.dY, .int .i64 k.a.x, .int .i64 k.a.y] := (Blk.set (Blk.set HO.out 17 _ (by simp)) 18 _ (by simp))
  have hQ2 : Blk ((w5.setCell ⟨w.heap.size + 1 + 1, 17, none⟩ (.int .i64 k.a.x)).setCell ⟨w.heap.size + 1 + 1, 18, none⟩ (.int .i64 k.a.y)) (w.heap.size + 1) [.int .i64 0, .slice none 0 0, .int .i64 0, .int .i64 0, .int .i64 0, .int .i64 0, .int .i64 0, .int .i64 0, .int .i64 0, .int .i64 0, .int .i64 0, .bool false, .int .i64 0, .int .i64 0, .int .i64 0, .int .i64 0, .int .i64 0, .int .i64 0, .int .i64 0] := (Blk.apart (Blk.apart HQ.out _ (by omega)) _ (by omega))
  have hW2 : Ext w ((w5.setCell ⟨w.heap.size + 1 + 1, 17, none⟩ (.int .i64 k.a.x)).setCell ⟨w.heap.size + 1 + 1, 18, none⟩ (.int .i64 k.a.y)) := (Below.setCell (Below.setCell HW.out (p := ⟨w.heap.size + 1 + 1, 17, none⟩) (Nat.le_succ_of_le (Nat.le_succ _)) _) (p := ⟨w.heap.size + 1 + 1, 18, none⟩) (Nat.le_succ_of_le (Nat.le_succ _)) _)
  have hS2 : Own ((w5.setCell ⟨w.heap.size + 1 + 1, 17, none⟩ (.int .i64 k.a.x)).setCell ⟨w.heap.size + 1 + 1, 18, none⟩ (.int .i64 k.a.y)) (some ⟨R, 0, none⟩) R 0 k.n k.f := (Own.apart (Own.apart HSg.out _ HRn.out) _ HRn.out)
  have hld := run_loadKey [.int .i64 k.kind, .slice (some ⟨R, 0, none⟩) k.n k.n, .int .i64 k.e, .int .i64 k.cP, .int .i64 k.cA, .int .i64 k.cB, .int .i64 k.cN, .int .i64 k.cX, .int .i64 k.cY, .int .i64 k.q.x, .int .i64 k.q.y, .bool k.q.far, .int .i64 k.dP, .int .i64 k.dD, .int .i64 k.dL, .int .i64 k.dX, .int .i64 k.dY, .int .i64 k.a.x, .int .i64 k.a.y] rfl (w.heap.size + 1 + 1) ((w5.setCell ⟨w.heap.size + 1 + 1, 17, none⟩ (.int .i64 k.a.x)).setCell ⟨w.heap.size + 1 + 1, 18, none⟩ (.int .i64 k.a.y)) (fun j v h => (hO2 j v h).1)
  have hst := run_storeKey [.int .i64 k.kind, .slice (some ⟨R, 0, none⟩) k.n k.n, .int .i64 k.e, .int .i64 k.cP, .int .i64 k.cA, .int .i64 k.cB, .int .i64 k.cN, .int .i64 k.cX, .int .i64 k.cY, .int .i64 k.q.x, .int .i64 k.q.y, .bool k.q.far, .int .i64 k.dP, .int .i64 k.dD, .int .i64 k.dL, .int .i64 k.dX, .int .i64 k.dY, .int .i64 k.a.x, .int .i64 k.a.y] rfl (by simp [Value.oneCell']) (w.heap.size + 1) ((w5.setCell ⟨w.heap.size + 1 + 1, 17, none⟩ (.int .i64 k.a.x)).setCell ⟨w.heap.size + 1 + 1, 18, none⟩ (.int .i64 k.a.y)) hQ2 rfl
  have hB3 := Blk.putAll (vs := [.int .i64 k.kind, .slice (some ⟨R, 0, none⟩) k.n k.n, .int .i64 k.e, .int .i64 k.cP, .int .i64 k.cA, .int .i64 k.cB, .int .i64 k.cN, .int .i64 k.cX, .int .i64 k.cY, .int .i64 k.q.x, .int .i64 k.q.y, .bool k.q.far, .int .i64 k.dP, .int .i64 k.dD, .int .i64 k.dL, .int .i64 k.dX, .int .i64 k.dY, .int .i64 k.a.x, .int .i64 k.a.y]) hQ2 rfl
  have HW3 := hide (below_putL (Nat.le_succ _) [.int .i64 k.kind, .slice (some ⟨R, 0, none⟩) k.n k.n, .int .i64 k.e, .int .i64 k.cP, .int .i64 k.cA, .int .i64 k.cB, .int .i64 k.cN, .int .i64 k.cX, .int .i64 k.cY, .int .i64 k.q.x, .int .i64 k.q.y, .bool k.q.far, .int .i64 k.dP, .int .i64 k.dD, .int .i64 k.dL, .int .i64 k.dX, .int .i64 k.dY, .int .i64 k.a.x, .int .i64 k.a.y] 0 _ hW2)
  have HS3 := hide (Own.putAll [.int .i64 k.kind, .slice (some ⟨R, 0, none⟩) k.n k.n, .int .i64 k.e, .int .i64 k.cP, .int .i64 k.cA, .int .i64 k.cB, .int .i64 k.cN, .int .i64 k.cX, .int .i64 k.cY, .int .i64 k.q.x, .int .i64 k.q.y, .bool k.q.far, .int .i64 k.dP, .int .i64 k.dD, .int .i64 k.dL, .int .i64 k.dX, .int .i64 k.dY, .int .i64 k.a.x, .int .i64 k.a.y] hS2 HRq.out)
  have HB3 := hide hB3
  clear hQ2 hW2 hS2 hO2 hB3
  go_wp2_with (first | (refine wpList_load_on (by first | rfl | simp [Region.wanted, yielded]) 42 _ rfl _ rfl _ hld ?_) | (refine wpList_store_on (by first | rfl | simp [Region.wanted, yielded]) 42 _ _ rfl _ rfl _ rfl _ hst ?_))
  refine bodyPost_ret (v := .agg #[.int .i64 k.kind, .slice (some ⟨R, 0, none⟩) k.n k.n, .int .i64 k.e, .int .i64 k.cP, .int .i64 k.cA, .int .i64 k.cB, .int .i64 k.cN, .int .i64 k.cX, .int .i64 k.cY, .int .i64 k.q.x, .int .i64 k.q.y, .bool k.q.far, .int .i64 k.dP, .int .i64 k.dD, .int .i64 k.dL, .int .i64 k.dX, .int .i64 k.dY, .int .i64 k.a.x, .int .i64 k.a.y]) (results_cell Tryz.results11 rfl (run_loadKey [.int .i64 k.kind, .slice (some ⟨R, 0, none⟩) k.n k.n, .int .i64 k.e, .int .i64 k.cP, .int .i64 k.cA, .int .i64 k.cB, .int .i64 k.cN, .int .i64 k.cX, .int .i64 k.cY, .int .i64 k.q.x, .int .i64 k.q.y, .bool k.q.far, .int .i64 k.dP, .int .i64 k.dD, .int .i64 k.dL, .int .i64 k.dX, .int .i64 k.dY, .int .i64 k.a.x, .int .i64 k.a.y] rfl (w.heap.size + 1) _ (fun j v h => (HB3.out j v h).1))) rfl ?_
  exact ⟨R, rfl, HR.out, HS3.out, HW3.out⟩

set_option maxHeartbeats 1600000 in
theorem markKey_any (k : Ky) (R : Nat) (w : World) (hs : Own w (some ⟨R, 0, none⟩) R 0 k.n k.f) (hn : k.n ≤ 1048576) :
    Calls Tryz.prog 15 #[.agg #[.int .i64 k.kind, .slice (some ⟨R, 0, none⟩) k.n k.n, .int .i64 k.e, .int .i64 k.cP, .int .i64 k.cA, .int .i64 k.cB, .int .i64 k.cN, .int .i64 k.cX, .int .i64 k.cY, .int .i64 k.q.x, .int .i64 k.q.y, .bool k.q.far, .int .i64 k.dP, .int .i64 k.dD, .int .i64 k.dL, .int .i64 k.dX, .int .i64 k.dY, .int .i64 k.a.x, .int .i64 k.a.y], .int .i64 1] w fun e w' => ∃ z : Int, e = .returned (.int .i64 z) ∧ 0 ≤ z ∧ (∀ q, q < w.heap.size → (0 < k.n → q ≠ R) → w'.heap[q]? = w.heap[q]?) ∧ w'.os = w.os ∧ w'.tape = w.tape ∧ w'.output = w.output ∧ w.heap.size ≤ w'.heap.size := by
  obtain ⟨V, hV⟩ : ∃ V, w.alloc (.cells #[.int .i64 k.kind, .slice (some ⟨R, 0, none⟩) k.n k.n, .int .i64 k.e, .int .i64 k.cP, .int .i64 k.cA, .int .i64 k.cB, .int .i64 k.cN, .int .i64 k.cX, .int .i64 k.cY, .int .i64 k.q.x, .int .i64 k.q.y, .bool k.q.far, .int .i64 k.dP, .int .i64 k.dD, .int .i64 k.dL, .int .i64 k.dX, .int .i64 k.dY, .int .i64 k.a.x, .int .i64 k.a.y] 42) = V := ⟨_, rfl⟩
  obtain ⟨B0, hE, hsz⟩ := box1 w [.int .i64 k.kind, .slice (some ⟨R, 0, none⟩) k.n k.n, .int .i64 k.e, .int .i64 k.cP, .int .i64 k.cA, .int .i64 k.cB, .int .i64 k.cN, .int .i64 k.cX, .int .i64 k.cY, .int .i64 k.q.x, .int .i64 k.q.y, .bool k.q.far, .int .i64 k.dP, .int .i64 k.dD, .int .i64 k.dL, .int .i64 k.dX, .int .i64 k.dY, .int .i64 k.a.x, .int .i64 k.a.y] 42 (w1 := V) (by rw [hV]; exact Ext.refl _)
  have c1 := (B0 1 _ rfl).1
  obtain ⟨G, hG, hOG⟩ : ∃ G, (∀ q, q < w.heap.size → (0 < k.n → q ≠ R) → q ≠ G) ∧ Own w (some ⟨R, 0, none⟩) G 0 k.n k.f := by
    by_cases c : 0 < k.n
    · exact ⟨R, fun q _ h => h c, hs⟩
    · exact ⟨w.heap.size, fun q h _ => by omega, ⟨⟨fun h => absurd h c, fun i hi => absurd hi (by omega)⟩, fun i hi => absurd hi (by omega)⟩⟩
  have HM := hide (markIntS_any (some ⟨R, 0, none⟩) G 0 k.n k.n k.f 1 V (hOG.of_all hE) hn (by omega) (by omega))
  have HE := hide hE
  have HG : Hid (∀ (z : Int) w', Ext w V → Touch G V w' → 0 ≤ z → ((∃ z : Int, Ending.returned (.int .i64 z) = .returned (.int .i64 z) ∧ 0 ≤ z) ∧ (∀ q, q < w.heap.size → (0 < k.n → q ≠ R) → w'.heap[q]? = w.heap[q]?) ∧ w'.os = w.os ∧ w'.tape = w.tape ∧ w'.output = w.output ∧ w.heap.size ≤ w'.heap.size)) := fun z w' e t hz => by
    have := Below.size e
    refine ⟨⟨z, rfl, hz⟩, fun q h1 h2 => (t.grown.block q (by omega) (by simp; exact hG q h1 h2)).trans (Below.block e q h1), t.grown.os.trans e.os, t.grown.tape.trans e.tape, t.grown.output.trans e.output, by rw [t.size]; exact this⟩
  clear B0 hE hs hOG hG
  go_enter Tryz.func15, Tryz.ntmps15
  go_wp2_with fail
  refine HM.out.mono ?_
  rintro e w1 ⟨rfl, -, hT⟩
  have HT := hide hT
  clear hT
  go_wp2
  go_ret
  have h := HG.out (1 + (k.n : Int)) w1 HE.out HT.out (by omega)
  exact ⟨_, rfl, by omega, h.2⟩
end

end Go.Proofs.YtnnandjphlajnaaGreatDoor
