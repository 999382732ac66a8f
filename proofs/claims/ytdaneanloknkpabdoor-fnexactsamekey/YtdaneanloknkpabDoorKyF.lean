/- Keys: SameKey of both; the walk of the law FnExactSameKey (written by mkkey.py). -/
import Derived.Test.YtdaneanloknkpabDoorKyOL
namespace Go.Proofs.YtdaneanloknkpabDoor
set_option linter.unusedVariables false
set_option linter.unusedSimpArgs false
open Go.RowKit

theorem canon0 (f : Nat → Int) : Canon 0 f := natOk_canon ((natOk_iff 0 f).2 ⟨fun i hi => absurd hi (Nat.not_lt_zero _), by omega, .inl rfl⟩)
theorem KeyP.canon {k : Ky} (h : KeyP k) : Canon k.n k.f := by
  have z : nrB k = true → Canon k.n k.f := fun h => by
    unfold nrB at h
    simp only [Bool.and_eq_true, beq_iff_eq] at h
    rw [h.1]
    exact canon0 _
  rcases h with h | h | h
  · have h4 := h.2.2.2
    unfold rsB at h4
    simp only [Bool.and_eq_true, decide_eq_true_eq] at h4
    exact natOk_canon (bitsQ_pos h4.1).1
  · exact z h.2.1
  · exact z h.2.1
theorem cmp_ns {k l : Ky} (hk : Canon k.n k.f) (hl : Canon l.n l.f) : (cmpV (val k.f k.n) (val l.f l.n) == 0) = nsB k l := by
  refine Bool.eq_iff_iff.2 ?_
  unfold nsB
  simp only [Bool.and_eq_true, beq_iff_eq]
  rw [alike_iff]
  constructor
  · intro h
    have : val k.f k.n = val l.f l.n := by
      unfold cmpV at h
      split at h
      · omega
      · split at h
        · omega
        · omega
    exact canon_unique hk hl this
  · rintro ⟨h1, h2⟩
    refine cmpV_eq ?_
    rw [← h1]
    exact val_congr h2

set_option maxHeartbeats 6400000 in
set_option maxRecDepth 100000 in
theorem implSame_at (k l : Ky) (ad : Option Addr) (b off cap : Nat) (ad2 : Option Addr) (b2 off2 cap2 : Nat) (o1 o2 o3 : Bool) (w : World)
    (H1 : Hid (∀ W, Ext w W → Calls Tryd.prog 11 #[.agg #[.int .i64 k.kind, .slice ad k.n cap, .int .i64 k.e, .int .i64 k.cP, .int .i64 k.cA, .int .i64 k.cB, .int .i64 k.cN, .int .i64 k.cX, .int .i64 k.cY, .int .i64 k.q.x, .int .i64 k.q.y, .bool k.q.far, .int .i64 k.dP, .int .i64 k.dD, .int .i64 k.dL, .int .i64 k.dX, .int .i64 k.dY, .int .i64 k.a.x, .int .i64 k.a.y]] W fun e w' => e = .returned (.bool o1) ∧ Ext W w'))
    (H2 : Hid (∀ W, Ext w W → Calls Tryd.prog 11 #[.agg #[.int .i64 l.kind, .slice ad2 l.n cap2, .int .i64 l.e, .int .i64 l.cP, .int .i64 l.cA, .int .i64 l.cB, .int .i64 l.cN, .int .i64 l.cX, .int .i64 l.cY, .int .i64 l.q.x, .int .i64 l.q.y, .bool l.q.far, .int .i64 l.dP, .int .i64 l.dD, .int .i64 l.dL, .int .i64 l.dX, .int .i64 l.dY, .int .i64 l.a.x, .int .i64 l.a.y]] W fun e w' => e = .returned (.bool o2) ∧ Ext W w'))
    (H3 : Hid (∀ W, Ext w W → Calls Tryd.prog 47 #[.agg #[.int .i64 k.kind, .slice ad k.n cap, .int .i64 k.e, .int .i64 k.cP, .int .i64 k.cA, .int .i64 k.cB, .int .i64 k.cN, .int .i64 k.cX, .int .i64 k.cY, .int .i64 k.q.x, .int .i64 k.q.y, .bool k.q.far, .int .i64 k.dP, .int .i64 k.dD, .int .i64 k.dL, .int .i64 k.dX, .int .i64 k.dY, .int .i64 k.a.x, .int .i64 k.a.y], .agg #[.int .i64 l.kind, .slice ad2 l.n cap2, .int .i64 l.e, .int .i64 l.cP, .int .i64 l.cA, .int .i64 l.cB, .int .i64 l.cN, .int .i64 l.cX, .int .i64 l.cY, .int .i64 l.q.x, .int .i64 l.q.y, .bool l.q.far, .int .i64 l.dP, .int .i64 l.dD, .int .i64 l.dL, .int .i64 l.dX, .int .i64 l.dY, .int .i64 l.a.x, .int .i64 l.a.y]] W fun e w' => e = .returned (.bool o3) ∧ Ext W w')) :
    Calls Tryd.prog 14 #[.agg #[.int .i64 k.kind, .slice ad k.n cap, .int .i64 k.e, .int .i64 k.cP, .int .i64 k.cA, .int .i64 k.cB, .int .i64 k.cN, .int .i64 k.cX, .int .i64 k.cY, .int .i64 k.q.x, .int .i64 k.q.y, .bool k.q.far, .int .i64 k.dP, .int .i64 k.dD, .int .i64 k.dL, .int .i64 k.dX, .int .i64 k.dY, .int .i64 k.a.x, .int .i64 k.a.y], .agg #[.int .i64 l.kind, .slice ad2 l.n cap2, .int .i64 l.e, .int .i64 l.cP, .int .i64 l.cA, .int .i64 l.cB, .int .i64 l.cN, .int .i64 l.cX, .int .i64 l.cY, .int .i64 l.q.x, .int .i64 l.q.y, .bool l.q.far, .int .i64 l.dP, .int .i64 l.dD, .int .i64 l.dL, .int .i64 l.dX, .int .i64 l.dY, .int .i64 l.a.x, .int .i64 l.a.y]] w fun e w' => e = .returned (.bool (o1 && (o2 && o3))) ∧ Ext w w' := by
  obtain ⟨V, hV⟩ : ∃ V, (w.alloc (.cells #[.int .i64 k.kind, .slice ad k.n cap, .int .i64 k.e, .int .i64 k.cP, .int .i64 k.cA, .int .i64 k.cB, .int .i64 k.cN, .int .i64 k.cX, .int .i64 k.cY, .int .i64 k.q.x, .int .i64 k.q.y, .bool k.q.far, .int .i64 k.dP, .int .i64 k.dD, .int .i64 k.dL, .int .i64 k.dX, .int .i64 k.dY, .int .i64 k.a.x, .int .i64 k.a.y] 40)).alloc (.cells #[.int .i64 l.kind, .slice ad2 l.n cap2, .int .i64 l.e, .int .i64 l.cP, .int .i64 l.cA, .int .i64 l.cB, .int .i64 l.cN, .int .i64 l.cX, .int .i64 l.cY, .int .i64 l.q.x, .int .i64 l.q.y, .bool l.q.far, .int .i64 l.dP, .int .i64 l.dD, .int .i64 l.dL, .int .i64 l.dX, .int .i64 l.dY, .int .i64 l.a.x, .int .i64 l.a.y] 40) = V := ⟨_, rfl⟩
  obtain ⟨B0, B1, hE, -⟩ := box2 w [.int .i64 k.kind, .slice ad k.n cap, .int .i64 k.e, .int .i64 k.cP, .int .i64 k.cA, .int .i64 k.cB, .int .i64 k.cN, .int .i64 k.cX, .int .i64 k.cY, .int .i64 k.q.x, .int .i64 k.q.y, .bool k.q.far, .int .i64 k.dP, .int .i64 k.dD, .int .i64 k.dL, .int .i64 k.dX, .int .i64 k.dY, .int .i64 k.a.x, .int .i64 k.a.y] [.int .i64 l.kind, .slice ad2 l.n cap2, .int .i64 l.e, .int .i64 l.cP, .int .i64 l.cA, .int .i64 l.cB, .int .i64 l.cN, .int .i64 l.cX, .int .i64 l.cY, .int .i64 l.q.x, .int .i64 l.q.y, .bool l.q.far, .int .i64 l.dP, .int .i64 l.dD, .int .i64 l.dL, .int .i64 l.dX, .int .i64 l.dY, .int .i64 l.a.x, .int .i64 l.a.y] 40 40 (w1 := V) (by rw [← hV]; exact Ext.refl _)
  have HA := hide B0
  have HB := hide B1
  have HE := hide hE
  clear B0 B1 hE
  have hldA := run_loadKey [.int .i64 k.kind, .slice ad k.n cap, .int .i64 k.e, .int .i64 k.cP, .int .i64 k.cA, .int .i64 k.cB, .int .i64 k.cN, .int .i64 k.cX, .int .i64 k.cY, .int .i64 k.q.x, .int .i64 k.q.y, .bool k.q.far, .int .i64 k.dP, .int .i64 k.dD, .int .i64 k.dL, .int .i64 k.dX, .int .i64 k.dY, .int .i64 k.a.x, .int .i64 k.a.y] rfl w.heap.size _ (fun j v h => (HA.out j v h).1)
  have hldB := run_loadKey [.int .i64 l.kind, .slice ad2 l.n cap2, .int .i64 l.e, .int .i64 l.cP, .int .i64 l.cA, .int .i64 l.cB, .int .i64 l.cN, .int .i64 l.cX, .int .i64 l.cY, .int .i64 l.q.x, .int .i64 l.q.y, .bool l.q.far, .int .i64 l.dP, .int .i64 l.dD, .int .i64 l.dL, .int .i64 l.dX, .int .i64 l.dY, .int .i64 l.a.x, .int .i64 l.a.y] rfl (w.heap.size + 1) _ (fun j v h => (HB.out j v h).1)
  go_enter Tryd.func14, Tryd.ntmps14
  go_wp2_with (first | (refine wpList_load_on (by first | rfl | simp [Region.wanted, yielded]) 40 _ rfl ⟨w.heap.size, 0, none⟩ rfl _ hldA ?_) | (refine wpList_load_on (by first | rfl | simp [Region.wanted, yielded]) 40 _ rfl ⟨w.heap.size + 1, 0, none⟩ rfl _ hldB ?_))
  refine (H1.out _ HE.out).mono ?_
  rintro e W1 ⟨rfl, HEW⟩
  replace HA := hide (Blk.ext HA.out HEW (World.block_lt_of_cell? _ _ (HA.out 0 _ rfl).1))
  replace HB := hide (Blk.ext HB.out HEW (World.block_lt_of_cell? _ _ (HB.out 0 _ rfl).1))
  replace HE := hide (Ext.trans HE.out HEW)
  clear HEW
  clear hldA hldB
  cases o1
  · go_wp2
    go_ret
    exact ⟨rfl, HE.out⟩
  · have hldA := run_loadKey [.int .i64 k.kind, .slice ad k.n cap, .int .i64 k.e, .int .i64 k.cP, .int .i64 k.cA, .int .i64 k.cB, .int .i64 k.cN, .int .i64 k.cX, .int .i64 k.cY, .int .i64 k.q.x, .int .i64 k.q.y, .bool k.q.far, .int .i64 k.dP, .int .i64 k.dD, .int .i64 k.dL, .int .i64 k.dX, .int .i64 k.dY, .int .i64 k.a.x, .int .i64 k.a.y] rfl w.heap.size _ (fun j v h => (HA.out j v h).1)
    have hldB := run_loadKey [.int .i64 l.kind, .slice ad2 l.n cap2, .int .i64 l.e, .int .i64 l.cP, .int .i64 l.cA, .int .i64 l.cB, .int .i64 l.cN, .int .i64 l.cX, .int .i64 l.cY, .int .i64 l.q.x, .int .i64 l.q.y, .bool l.q.far, .int .i64 l.dP, .int .i64 l.dD, .int .i64 l.dL, .int .i64 l.dX, .int .i64 l.dY, .int .i64 l.a.x, .int .i64 l.a.y] rfl (w.heap.size + 1) _ (fun j v h => (HB.out j v h).1)
    go_wp2_with (first | (refine wpList_load_on (by first | rfl | simp [Region.wanted, yielded]) 40 _ rfl ⟨w.heap.size, 0, none⟩ rfl _ hldA ?_) | (refine wpList_load_on (by first | rfl | simp [Region.wanted, yielded]) 40 _ rfl ⟨w.heap.size + 1, 0, none⟩ rfl _ hldB ?_))
    refine (H2.out _ HE.out).mono ?_
    rintro e W2 ⟨rfl, HEW⟩
    replace HA := hide (Blk.ext HA.out HEW (World.block_lt_of_cell? _ _ (HA.out 0 _ rfl).1))
    replace HB := hide (Blk.ext HB.out HEW (World.block_lt_of_cell? _ _ (HB.out 0 _ rfl).1))
    replace HE := hide (Ext.trans HE.out HEW)
    clear HEW
    clear hldA hldB
    cases o2
    · go_wp2
      go_ret
      exact ⟨rfl, HE.out⟩
    · have hldA := run_loadKey [.int .i64 k.kind, .slice ad k.n cap, .int .i64 k.e, .int .i64 k.cP, .int .i64 k.cA, .int .i64 k.cB, .int .i64 k.cN, .int .i64 k.cX, .int .i64 k.cY, .int .i64 k.q.x, .int .i64 k.q.y, .bool k.q.far, .int .i64 k.dP, .int .i64 k.dD, .int .i64 k.dL, .int .i64 k.dX, .int .i64 k.dY, .int .i64 k.a.x, .int .i64 k.a.y] rfl w.heap.size _ (fun j v h => (HA.out j v h).1)
      have hldB := run_loadKey [.int .i64 l.kind, .slice ad2 l.n cap2, .int .i64 l.e, .int .i64 l.cP, .int .i64 l.cA, .int .i64 l.cB, .int .i64 l.cN, .int .i64 l.cX, .int .i64 l.cY, .int .i64 l.q.x, .int .i64 l.q.y, .bool l.q.far, .int .i64 l.dP, .int .i64 l.dD, .int .i64 l.dL, .int .i64 l.dX, .int .i64 l.dY, .int .i64 l.a.x, .int .i64 l.a.y] rfl (w.heap.size + 1) _ (fun j v h => (HB.out j v h).1)
      go_wp2_with (first | (refine wpList_load_on (by first | rfl | simp [Region.wanted, yielded]) 40 _ rfl ⟨w.heap.size, 0, none⟩ rfl _ hldA ?_) | (refine wpList_load_on (by first | rfl | simp [Region.wanted, yielded]) 40 _ rfl ⟨w.heap.size + 1, 0, none⟩ rfl _ hldB ?_))
      refine (H3.out _ HE.out).mono ?_
      rintro e W3 ⟨rfl, HEW⟩
      replace HA := hide (Blk.ext HA.out HEW (World.block_lt_of_cell? _ _ (HA.out 0 _ rfl).1))
      replace HB := hide (Blk.ext HB.out HEW (World.block_lt_of_cell? _ _ (HB.out 0 _ rfl).1))
      replace HE := hide (Ext.trans HE.out HEW)
      clear HEW
      clear hldA hldB
      go_wp2
      go_ret
      exact ⟨rfl, HE.out⟩

set_option maxHeartbeats 6400000 in
set_option maxRecDepth 100000 in
theorem specSame_at (k l : Ky) (ad : Option Addr) (b off cap : Nat) (ad2 : Option Addr) (b2 off2 cap2 : Nat) (o1 o2 R : Bool) (cq : Int) (w : World)
    (H1 : Hid (∀ W, Ext w W → Calls Tryd.prog 9 #[.agg #[.int .i64 k.kind, .slice ad k.n cap, .int .i64 k.e, .int .i64 k.cP, .int .i64 k.cA, .int .i64 k.cB, .int .i64 k.cN, .int .i64 k.cX, .int .i64 k.cY, .int .i64 k.q.x, .int .i64 k.q.y, .bool k.q.far, .int .i64 k.dP, .int .i64 k.dD, .int .i64 k.dL, .int .i64 k.dX, .int .i64 k.dY, .int .i64 k.a.x, .int .i64 k.a.y]] W fun e w' => e = .returned (.bool o1) ∧ Ext W w'))
    (H2 : Hid (∀ W, Ext w W → Calls Tryd.prog 9 #[.agg #[.int .i64 l.kind, .slice ad2 l.n cap2, .int .i64 l.e, .int .i64 l.cP, .int .i64 l.cA, .int .i64 l.cB, .int .i64 l.cN, .int .i64 l.cX, .int .i64 l.cY, .int .i64 l.q.x, .int .i64 l.q.y, .bool l.q.far, .int .i64 l.dP, .int .i64 l.dD, .int .i64 l.dL, .int .i64 l.dX, .int .i64 l.dY, .int .i64 l.a.x, .int .i64 l.a.y]] W fun e w' => e = .returned (.bool o2) ∧ Ext W w'))
    (H3 : Hid (o1 = true → o2 = true → ∀ W, Ext w W → Calls Tryd.prog 55 #[.slice ad k.n cap, .slice ad2 l.n cap2] W fun e w' => e = .returned (.int .i64 cq) ∧ Ext W w'))
    (Hq : Hid (o1 = true → o2 = true → (cq == 0) = nsB k l)) (HO : Hid (R = (o1 && (o2 && alkB k l)))) :
    Calls Tryd.prog 13 #[.agg #[.int .i64 k.kind, .slice ad k.n cap, .int .i64 k.e, .int .i64 k.cP, .int .i64 k.cA, .int .i64 k.cB, .int .i64 k.cN, .int .i64 k.cX, .int .i64 k.cY, .int .i64 k.q.x, .int .i64 k.q.y, .bool k.q.far, .int .i64 k.dP, .int .i64 k.dD, .int .i64 k.dL, .int .i64 k.dX, .int .i64 k.dY, .int .i64 k.a.x, .int .i64 k.a.y], .agg #[.int .i64 l.kind, .slice ad2 l.n cap2, .int .i64 l.e, .int .i64 l.cP, .int .i64 l.cA, .int .i64 l.cB, .int .i64 l.cN, .int .i64 l.cX, .int .i64 l.cY, .int .i64 l.q.x, .int .i64 l.q.y, .bool l.q.far, .int .i64 l.dP, .int .i64 l.dD, .int .i64 l.dL, .int .i64 l.dX, .int .i64 l.dY, .int .i64 l.a.x, .int .i64 l.a.y]] w fun e w' => e = .returned (.bool R) ∧ Ext w w' := by
  obtain ⟨V, hV⟩ : ∃ V, (w.alloc (.cells #[.int .i64 k.kind, .slice ad k.n cap, .int .i64 k.e, .int .i64 k.cP, .int .i64 k.cA, .int .i64 k.cB, .int .i64 k.cN, .int .i64 k.cX, .int .i64 k.cY, .int .i64 k.q.x, .int .i64 k.q.y, .bool k.q.far, .int .i64 k.dP, .int .i64 k.dD, .int .i64 k.dL, .int .i64 k.dX, .int .i64 k.dY, .int .i64 k.a.x, .int .i64 k.a.y] 40)).alloc (.cells #[.int .i64 l.kind, .slice ad2 l.n cap2, .int .i64 l.e, .int .i64 l.cP, .int .i64 l.cA, .int .i64 l.cB, .int .i64 l.cN, .int .i64 l.cX, .int .i64 l.cY, .int .i64 l.q.x, .int .i64 l.q.y, .bool l.q.far, .int .i64 l.dP, .int .i64 l.dD, .int .i64 l.dL, .int .i64 l.dX, .int .i64 l.dY, .int .i64 l.a.x, .int .i64 l.a.y] 40) = V := ⟨_, rfl⟩
  obtain ⟨B0, B1, hE, -⟩ := box2 w [.int .i64 k.kind, .slice ad k.n cap, .int .i64 k.e, .int .i64 k.cP, .int .i64 k.cA, .int .i64 k.cB, .int .i64 k.cN, .int .i64 k.cX, .int .i64 k.cY, .int .i64 k.q.x, .int .i64 k.q.y, .bool k.q.far, .int .i64 k.dP, .int .i64 k.dD, .int .i64 k.dL, .int .i64 k.dX, .int .i64 k.dY, .int .i64 k.a.x, .int .i64 k.a.y] [.int .i64 l.kind, .slice ad2 l.n cap2, .int .i64 l.e, .int .i64 l.cP, .int .i64 l.cA, .int .i64 l.cB, .int .i64 l.cN, .int .i64 l.cX, .int .i64 l.cY, .int .i64 l.q.x, .int .i64 l.q.y, .bool l.q.far, .int .i64 l.dP, .int .i64 l.dD, .int .i64 l.dL, .int .i64 l.dX, .int .i64 l.dY, .int .i64 l.a.x, .int .i64 l.a.y] 40 40 (w1 := V) (by rw [← hV]; exact Ext.refl _)
  have HA := hide B0
  have HB := hide B1
  have HE := hide hE
  clear B0 B1 hE
  have hldA := run_loadKey [.int .i64 k.kind, .slice ad k.n cap, .int .i64 k.e, .int .i64 k.cP, .int .i64 k.cA, .int .i64 k.cB, .int .i64 k.cN, .int .i64 k.cX, .int .i64 k.cY, .int .i64 k.q.x, .int .i64 k.q.y, .bool k.q.far, .int .i64 k.dP, .int .i64 k.dD, .int .i64 k.dL, .int .i64 k.dX, .int .i64 k.dY, .int .i64 k.a.x, .int .i64 k.a.y] rfl w.heap.size _ (fun j v h => (HA.out j v h).1)
  have hldB := run_loadKey [.int .i64 l.kind, .slice ad2 l.n cap2, .int .i64 l.e, .int .i64 l.cP, .int .i64 l.cA, .int .i64 l.cB, .int .i64 l.cN, .int .i64 l.cX, .int .i64 l.cY, .int .i64 l.q.x, .int .i64 l.q.y, .bool l.q.far, .int .i64 l.dP, .int .i64 l.dD, .int .i64 l.dL, .int .i64 l.dX, .int .i64 l.dY, .int .i64 l.a.x, .int .i64 l.a.y] rfl (w.heap.size + 1) _ (fun j v h => (HB.out j v h).1)
  have h4 : ∀ w, (binOp .eql 35 (.agg #[.int .i64 k.cP, .int .i64 k.cA, .int .i64 k.cB, .int .i64 k.cN, .int .i64 k.cX, .int .i64 k.cY]) (.agg #[.int .i64 l.cP, .int .i64 l.cA, .int .i64 l.cB, .int .i64 l.cN, .int .i64 l.cX, .int .i64 l.cY])).run Tryd.prog w = .ok (.bool (cvB k l)) w := fun w => run_eqCv _ _ _ _ _ _ _ _ _ _ _ _ w
  have h5 : ∀ w, (binOp .eql 36 (.agg #[.int .i64 k.q.x, .int .i64 k.q.y, .bool k.q.far]) (.agg #[.int .i64 l.q.x, .int .i64 l.q.y, .bool l.q.far])).run Tryd.prog w = .ok (.bool (ptB k l)) w := fun w => run_eqPt _ _ _ _ _ _ w
  have h6 : ∀ w, (binOp .eql 37 (.agg #[.int .i64 k.dP, .int .i64 k.dD, .int .i64 k.dL, .int .i64 k.dX, .int .i64 k.dY]) (.agg #[.int .i64 l.dP, .int .i64 l.dD, .int .i64 l.dL, .int .i64 l.dX, .int .i64 l.dY])).run Tryd.prog w = .ok (.bool (edB k l)) w := fun w => run_eqEd _ _ _ _ _ _ _ _ _ _ w
  have h7 : ∀ w, (binOp .eql 38 (.agg #[.int .i64 k.a.x, .int .i64 k.a.y]) (.agg #[.int .i64 l.a.x, .int .i64 l.a.y])).run Tryd.prog w = .ok (.bool (prB k l)) w := fun w => run_eqPr _ _ _ _ w
  have HV : Hid (alkB k l = (k.kind == l.kind && (nsB k l && (k.e == l.e && (cvB k l && (ptB k l && (edB k l && prB k l))))))) := rfl
  rw [HV.out] at HO
  clear HV
  generalize cvB k l = q4 at *
  generalize ptB k l = q5 at *
  generalize edB k l = q6 at *
  generalize prB k l = q7 at *
  generalize nsB k l = q2 at *
  obtain ⟨q1, h1⟩ : ∃ q1, (k.kind == l.kind) = q1 := ⟨_, rfl⟩
  obtain ⟨q3, h3⟩ : ∃ q3, (k.e == l.e) = q3 := ⟨_, rfl⟩
  rw [h1, h3] at HO
  go_enter Tryd.func13, Tryd.ntmps13
  go_wp2_with (first | (refine wpList_load_on (by first | rfl | simp [Region.wanted, yielded]) 40 _ rfl ⟨w.heap.size, 0, none⟩ rfl _ hldA ?_) | (refine wpList_load_on (by first | rfl | simp [Region.wanted, yielded]) 40 _ rfl ⟨w.heap.size + 1, 0, none⟩ rfl _ hldB ?_))
  refine (H1.out _ HE.out).mono ?_
  rintro e W1 ⟨rfl, HEW⟩
  replace HA := hide (Blk.ext HA.out HEW (World.block_lt_of_cell? _ _ (HA.out 0 _ rfl).1))
  replace HB := hide (Blk.ext HB.out HEW (World.block_lt_of_cell? _ _ (HB.out 0 _ rfl).1))
  replace HE := hide (Ext.trans HE.out HEW)
  clear HEW
  clear hldA hldB
  cases o1
  · go_wp2
    go_ret
    exact ⟨ret_bool (by rw [HO.out]; rfl), HE.out⟩
  · have hldA := run_loadKey [.int .i64 k.kind, .slice ad k.n cap, .int .i64 k.e, .int .i64 k.cP, .int .i64 k.cA, .int .i64 k.cB, .int .i64 k.cN, .int .i64 k.cX, .int .i64 k.cY, .int .i64 k.q.x, .int .i64 k.q.y, .bool k.q.far, .int .i64 k.dP, .int .i64 k.dD, .int .i64 k.dL, .int .i64 k.dX, .int .i64 k.dY, .int .i64 k.a.x, .int .i64 k.a.y] rfl w.heap.size _ (fun j v h => (HA.out j v h).1)
    have hldB := run_loadKey [.int .i64 l.kind, .slice ad2 l.n cap2, .int .i64 l.e, .int .i64 l.cP, .int .i64 l.cA, .int .i64 l.cB, .int .i64 l.cN, .int .i64 l.cX, .int .i64 l.cY, .int .i64 l.q.x, .int .i64 l.q.y, .bool l.q.far, .int .i64 l.dP, .int .i64 l.dD, .int .i64 l.dL, .int .i64 l.dX, .int .i64 l.dY, .int .i64 l.a.x, .int .i64 l.a.y] rfl (w.heap.size + 1) _ (fun j v h => (HB.out j v h).1)
    go_wp2_with (first | (refine wpList_load_on (by first | rfl | simp [Region.wanted, yielded]) 40 _ rfl ⟨w.heap.size, 0, none⟩ rfl _ hldA ?_) | (refine wpList_load_on (by first | rfl | simp [Region.wanted, yielded]) 40 _ rfl ⟨w.heap.size + 1, 0, none⟩ rfl _ hldB ?_))
    refine (H2.out _ HE.out).mono ?_
    rintro e W2 ⟨rfl, HEW⟩
    replace HA := hide (Blk.ext HA.out HEW (World.block_lt_of_cell? _ _ (HA.out 0 _ rfl).1))
    replace HB := hide (Blk.ext HB.out HEW (World.block_lt_of_cell? _ _ (HB.out 0 _ rfl).1))
    replace HE := hide (Ext.trans HE.out HEW)
    clear HEW
    clear hldA hldB
    cases o2
    · go_wp2
      go_ret
      exact ⟨ret_bool (by rw [HO.out]; rfl), HE.out⟩
    · have c0 := (HA.out 0 _ rfl).1
      have d0 := (HB.out 0 _ rfl).1
      have c1 := (HA.out 1 _ rfl).1
      have d1 := (HB.out 1 _ rfl).1
      cases q1
      · go_wp2
        go_ret
        exact ⟨ret_bool (by rw [HO.out]; rfl), HE.out⟩
      · have hC := H3.out (by simp) (by simp)
        have HC := hide hC
        have hcq := Hq.out (by simp) (by simp)
        clear hC
        go_wp2_with fail
        refine (HC.out _ HE.out).mono ?_
        rintro e W3 ⟨rfl, HEW⟩
        replace HA := hide (Blk.ext HA.out HEW (World.block_lt_of_cell? _ _ (HA.out 0 _ rfl).1))
        replace HB := hide (Blk.ext HB.out HEW (World.block_lt_of_cell? _ _ (HB.out 0 _ rfl).1))
        replace HE := hide (Ext.trans HE.out HEW)
        clear HEW
        clear c0 c1 d0 d1 HC H1 H2 H3 Hq
        have c2 := (HA.out 2 _ rfl).1
        have d2 := (HB.out 2 _ rfl).1
        have c3 := (HA.out 3 _ rfl).1
        have d3 := (HB.out 3 _ rfl).1
        have c4 := (HA.out 4 _ rfl).1
        have d4 := (HB.out 4 _ rfl).1
        have c5 := (HA.out 5 _ rfl).1
        have d5 := (HB.out 5 _ rfl).1
        have c6 := (HA.out 6 _ rfl).1
        have d6 := (HB.out 6 _ rfl).1
        have c7 := (HA.out 7 _ rfl).1
        have d7 := (HB.out 7 _ rfl).1
        have c8 := (HA.out 8 _ rfl).1
        have d8 := (HB.out 8 _ rfl).1
        have c9 := (HA.out 9 _ rfl).1
        have d9 := (HB.out 9 _ rfl).1
        have c10 := (HA.out 10 _ rfl).1
        have d10 := (HB.out 10 _ rfl).1
        have c11 := (HA.out 11 _ rfl).1
        have d11 := (HB.out 11 _ rfl).1
        have c12 := (HA.out 12 _ rfl).1
        have d12 := (HB.out 12 _ rfl).1
        have c13 := (HA.out 13 _ rfl).1
        have d13 := (HB.out 13 _ rfl).1
        have c14 := (HA.out 14 _ rfl).1
        have d14 := (HB.out 14 _ rfl).1
        have c15 := (HA.out 15 _ rfl).1
        have d15 := (HB.out 15 _ rfl).1
        have c16 := (HA.out 16 _ rfl).1
        have d16 := (HB.out 16 _ rfl).1
        have c17 := (HA.out 17 _ rfl).1
        have d17 := (HB.out 17 _ rfl).1
        have c18 := (HA.out 18 _ rfl).1
        have d18 := (HB.out 18 _ rfl).1
        cases q2
        · go_wp2
          go_ret
          exact ⟨ret_bool (by rw [HO.out]; rfl), HE.out⟩
        · skip
          cases q3
          · go_wp2
            go_ret
            exact ⟨ret_bool (by rw [HO.out]; rfl), HE.out⟩
          · skip
            cases q4
            · go_wp2
              go_ret
              exact ⟨ret_bool (by rw [HO.out]; rfl), HE.out⟩
            · skip
              cases q5
              · go_wp2
                go_ret
                exact ⟨ret_bool (by rw [HO.out]; rfl), HE.out⟩
              · skip
                cases q6
                · go_wp2
                  go_ret
                  exact ⟨ret_bool (by rw [HO.out]; rfl), HE.out⟩
                · skip
                  cases q7
                  · go_wp2
                    go_ret
                    exact ⟨ret_bool (by rw [HO.out]; rfl), HE.out⟩
                  · skip
                    go_wp2
                    go_ret
                    exact ⟨ret_bool (by rw [HO.out]; rfl), HE.out⟩

end Go.Proofs.YtdaneanloknkpabDoor
