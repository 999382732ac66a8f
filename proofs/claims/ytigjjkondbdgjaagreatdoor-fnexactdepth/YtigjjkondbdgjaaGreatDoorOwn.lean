/- Walks: who is its own issuer: program and model; OwnIssuer of both. -/
import Derived.Test.YtigjjkondbdgjaaGreatDoorCtK
import Derived.Test.YtigjjkondbdgjaaGreatDoorMgS
namespace Go.Proofs.YtigjjkondbdgjaaGreatDoor
set_option linter.unusedVariables false
set_option linter.unusedSimpArgs false
set_option maxRecDepth 100000
open Go.RowKit

theorem nameB_turn (n m : Nat) (f g : Nat → ByteArray) : nameB n m f g = nameB m n g f := by
  unfold nameB samN
  by_cases h : n = m
  · subst h
    congr 1
    by_cases k : ∀ i, i < n → plainS (f i) = plainS (g i)
    · rw [decide_eq_true k, decide_eq_true (fun i hi => (k i hi).symm)]
    · rw [decide_eq_false k, decide_eq_false (fun k2 => k (fun i hi => (k2 i hi).symm))]
  · rw [decide_eq_false h, Bool.false_and, decide_eq_false (show ¬ m = n from fun e => h e.symm), Bool.false_and]

/-- Whether c is the one that d names as its issuer. -/
def namB (c d : Ct) : Bool := nameB c.ns d.ni c.fs d.fi

set_option maxHeartbeats 3200000 in
theorem isNamedBy_at (c d : Ct) (m m2 : CtPl) (w : World) (hI : CtIn w c m) (hJ : CtIn w d m2) (hS : CtSm c 1048576) (hT : CtSm d 1048576) :
    Calls Tryz.prog 85 #[.agg (ctL c m).toArray, .agg (ctL d m2).toArray] w fun e w' => e = .returned (.bool (namB c d)) ∧ Ext w w' := by
  obtain ⟨V, hV⟩ : ∃ V, (w.alloc (.cells (ctL c m).toArray 50)).alloc (.cells (ctL d m2).toArray 50) = V := ⟨_, rfl⟩
  obtain ⟨B0, B1, hE, -⟩ := box2 w (ctL c m) (ctL d m2) 50 50 (w1 := V) (by rw [← hV]; exact Ext.refl _)
  have c2 := (B0 2 _ rfl).1
  have d1 := (B1 1 _ rfl).1
  have HE := hide hE
  have HX := hide (implNameSame_any m.s.ad m.s.b m.s.off c.ns m.s.cap c.fs m2.i.ad m2.i.b m2.i.off d.ni m2.i.cap d.fi V (hI.s.of_all hE) (hJ.i.of_all hE) hS.s hT.i hS.ss hT.is)
  have HV : Hid (namB c d = nameB c.ns d.ni c.fs d.fi) := rfl
  rw [HV.out]
  generalize nameB c.ns d.ni c.fs d.fi = R at *
  clear HV B0 B1 hE hI hJ hS hT
  go_enter Tryz.func85, Tryz.ntmps85
  go_wp2_with fail
  refine HX.out.mono ?_
  rintro e w1 ⟨rfl, hE1⟩
  have HE1 := hide hE1
  clear hE1
  go_wp2
  go_ret
  exact ⟨rfl, Ext.trans HE.out HE1.out⟩

set_option maxHeartbeats 3200000 in
theorem isOwn_at (c : Ct) (m : CtPl) (w : World) (hI : CtIn w c m) (hS : CtSm c 1048576) :
    Calls Tryz.prog 41 #[.agg (ctL c m).toArray] w fun e w' => e = .returned (.bool (namB c c)) ∧ Ext w w' := by
  obtain ⟨V, hV⟩ : ∃ V, w.alloc (.cells (ctL c m).toArray 50) = V := ⟨_, rfl⟩
  obtain ⟨B0, hE, -⟩ := box1 w (ctL c m) 50 (w1 := V) (by rw [← hV]; exact Ext.refl _)
  have HE := hide hE
  have hld := run_ld (P := Tryz.prog) 50 (ctL c m) V (by kernel_rfl) (by kernel_rfl) w.heap.size 0 (Blk.ld B0 0 _ (fun j v h => by rw [Nat.zero_add]; exact h))
  have HX := hide (isNamedBy_at c c m m V (hI.ext hE) (hI.ext hE) hS hS)
  generalize namB c c = R at *
  generalize ctL c m = L at *
  clear B0 hE hI hS
  go_enter Tryz.func41, Tryz.ntmps41
  go_wp2_with (refine wpList_ld (by first | rfl | simp [Region.wanted, yielded]) 50 _ rfl _ rfl _ hld ?_)
  refine HX.out.mono ?_
  rintro e w1 ⟨rfl, hE1⟩
  have HE1 := hide hE1
  clear hE1
  go_wp2
  go_ret
  exact ⟨rfl, Ext.trans HE.out HE1.out⟩

set_option maxHeartbeats 3200000 in
theorem l11Own_at (c : Ct) (m : CtPl) (w : World) (hI : CtIn w c m) (hS : CtSm c 1048576) :
    Calls Tryz.prog 40 #[.agg (ctL c m).toArray] w fun e w' => e = .returned (.bool (namB c c)) ∧ Ext w w' := by
  obtain ⟨V, hV⟩ : ∃ V, w.alloc (.cells (ctL c m).toArray 50) = V := ⟨_, rfl⟩
  obtain ⟨B0, hE, -⟩ := box1 w (ctL c m) 50 (w1 := V) (by rw [← hV]; exact Ext.refl _)
  have c1 := (B0 1 _ rfl).1
  have c2 := (B0 2 _ rfl).1
  have HE := hide hE
  have HX := hide (specNameSame_any m.i.ad m.i.b m.i.off c.ni m.i.cap c.fi m.s.ad m.s.b m.s.off c.ns m.s.cap c.fs V (hI.i.of_all hE) (hI.s.of_all hE) hS.i hS.s hS.is hS.ss)
  have HV : Hid (namB c c = nameB c.ni c.ns c.fi c.fs) := hide (nameB_turn _ _ _ _)
  rw [HV.out]
  generalize nameB c.ni c.ns c.fi c.fs = R at *
  clear HV B0 hE hI hS
  go_enter Tryz.func40, Tryz.ntmps40
  go_wp2_with fail
  refine HX.out.mono ?_
  rintro e w1 ⟨rfl, hE1⟩
  have HE1 := hide hE1
  clear hE1
  go_wp2
  go_ret
  exact ⟨rfl, Ext.trans HE.out HE1.out⟩

def owB (c : Ct) (ok : Bool) : Bool := ctB c ok && namB c c

set_option maxHeartbeats 3200000 in
theorem implOwnIssuer_at (c : Ct) (m : CtPl) (ok : Bool) (hk : ok = true ↔ KeyP c.k) (w : World) (hI : CtIn w c m) (hS : CtSm c 1048576) (hK : KyIn c.k) :
    Calls Tryz.prog 12 #[.agg (ctL c m).toArray] w fun e w' => e = .returned (.bool (owB c ok)) ∧ Ext w w' := by
  obtain ⟨V, hV⟩ : ∃ V, w.alloc (.cells (ctL c m).toArray 50) = V := ⟨_, rfl⟩
  obtain ⟨B0, hE, -⟩ := box1 w (ctL c m) 50 (w1 := V) (by rw [← hV]; exact Ext.refl _)
  have HE := hide hE
  have HB := hide B0
  have HLd : Hid (∀ W, Blk W w.heap.size (ctL c m) → (loadVar 50 ⟨w.heap.size, 0, none⟩).run Tryz.prog W = .ok (.agg (ctL c m).toArray) W) := fun W hB => run_ld (P := Tryz.prog) 50 (ctL c m) W (by kernel_rfl) (by kernel_rfl) w.heap.size 0 (Blk.ld hB 0 _ (fun j v h => by rw [Nat.zero_add]; exact h))
  have H1 := hide (implCertOk_at c m ok hk V (hI.ext hE) hS hK)
  have H2 : Hid (∀ W, Ext V W → Calls Tryz.prog 41 #[.agg (ctL c m).toArray] W fun e w' => e = .returned (.bool (namB c c)) ∧ Ext W w') := fun W hW => isOwn_at c m W (hI.ext (Ext.trans hE hW)) hS
  have HV : Hid (owB c ok = (ctB c ok && namB c c)) := rfl
  rw [HV.out]
  have HL : Hid (0 < (ctL c m).length) := hide (by simp [ctL])
  have hld := HLd.out V HB.out
  generalize namB c c = q2 at *
  generalize ctB c ok = q1 at *
  generalize ctL c m = L at *
  clear HV B0 hE hI hS hK hk
  go_enter Tryz.func12, Tryz.ntmps12
  go_wp2_with (refine wpList_ld (by first | rfl | simp [Region.wanted, yielded]) 50 _ rfl _ rfl _ hld ?_)
  refine H1.out.mono ?_
  rintro e w1 ⟨rfl, hE1⟩
  replace HB := hide (Blk.ext HB.out hE1 (Blk.lt HB.out HL.out))
  have HE1 := hide hE1
  clear hE1 hld
  cases q1
  · go_wp2
    go_ret
    exact ⟨rfl, Ext.trans HE.out HE1.out⟩
  · have hld := HLd.out w1 HB.out
    go_wp2_with (refine wpList_ld (by first | rfl | simp [Region.wanted, yielded]) 50 _ rfl _ rfl _ hld ?_)
    refine (H2.out _ HE1.out).mono ?_
    rintro e w2 ⟨rfl, hE2⟩
    have HE2 := hide hE2
    clear hE2 hld
    go_wp2
    go_ret
    exact ⟨rfl, Ext.trans HE.out (Ext.trans HE1.out HE2.out)⟩

set_option maxHeartbeats 3200000 in
theorem specOwnIssuer_at (c : Ct) (m : CtPl) (ok : Bool) (hk : ok = true ↔ KeyP c.k) (w : World) (hI : CtIn w c m) (hS : CtSm c 1048576) (hK : KyIn c.k) :
    Calls Tryz.prog 11 #[.agg (ctL c m).toArray] w fun e w' => e = .returned (.bool (owB c ok)) ∧ Ext w w' := by
  obtain ⟨V, hV⟩ : ∃ V, w.alloc (.cells (ctL c m).toArray 50) = V := ⟨_, rfl⟩
  obtain ⟨B0, hE, -⟩ := box1 w (ctL c m) 50 (w1 := V) (by rw [← hV]; exact Ext.refl _)
  have HE := hide hE
  have HB := hide B0
  have HLd : Hid (∀ W, Blk W w.heap.size (ctL c m) → (loadVar 50 ⟨w.heap.size, 0, none⟩).run Tryz.prog W = .ok (.agg (ctL c m).toArray) W) := fun W hB => run_ld (P := Tryz.prog) 50 (ctL c m) W (by kernel_rfl) (by kernel_rfl) w.heap.size 0 (Blk.ld hB 0 _ (fun j v h => by rw [Nat.zero_add]; exact h))
  have H1 := hide (specCertOk_at c m ok hk V (hI.ext hE) hS hK)
  have H2 : Hid (∀ W, Ext V W → Calls Tryz.prog 40 #[.agg (ctL c m).toArray] W fun e w' => e = .returned (.bool (namB c c)) ∧ Ext W w') := fun W hW => l11Own_at c m W (hI.ext (Ext.trans hE hW)) hS
  have HV : Hid (owB c ok = (ctB c ok && namB c c)) := rfl
  rw [HV.out]
  have HL : Hid (0 < (ctL c m).length) := hide (by simp [ctL])
  have hld := HLd.out V HB.out
  generalize namB c c = q2 at *
  generalize ctB c ok = q1 at *
  generalize ctL c m = L at *
  clear HV B0 hE hI hS hK hk
  go_enter Tryz.func11, Tryz.ntmps11
  go_wp2_with (refine wpList_ld (by first | rfl | simp [Region.wanted, yielded]) 50 _ rfl _ rfl _ hld ?_)
  refine H1.out.mono ?_
  rintro e w1 ⟨rfl, hE1⟩
  replace HB := hide (Blk.ext HB.out hE1 (Blk.lt HB.out HL.out))
  have HE1 := hide hE1
  clear hE1 hld
  cases q1
  · go_wp2
    go_ret
    exact ⟨rfl, Ext.trans HE.out HE1.out⟩
  · have hld := HLd.out w1 HB.out
    go_wp2_with (refine wpList_ld (by first | rfl | simp [Region.wanted, yielded]) 50 _ rfl _ rfl _ hld ?_)
    refine (H2.out _ HE1.out).mono ?_
    rintro e w2 ⟨rfl, hE2⟩
    have HE2 := hide hE2
    clear hE2 hld
    go_wp2
    go_ret
    exact ⟨rfl, Ext.trans HE.out (Ext.trans HE1.out HE2.out)⟩

end Go.Proofs.YtigjjkondbdgjaaGreatDoor
