/- Walks: the model's reader (written by mkrdm.py). What the model's reader hands back. -/
import Derived.Test.YtkogbinfhoiggaaGreatDoorCx10
import Derived.Test.YtkogbinfhoiggaaGreatDoorCx12
import Derived.Test.YtkogbinfhoiggaaGreatDoorCx14
namespace Go.Proofs.YtkogbinfhoiggaaGreatDoor
set_option linter.unusedVariables false
set_option linter.unusedSimpArgs false
section
open Go.RowKit
def rrL (bs lv : Value) (c p : Int) : List Value := [bs, lv, .int .i64 c, .int .i64 p]
def rrZ : List Value := [.slice none 0 0, .slice none 0 0, .int .i64 0, .int .i64 0]
theorem rr_ld (bs lv : Value) (c p : Int) (R : Nat) (W : World) (hB : Blk W R (rrL bs lv c p)) : (loadVar 60 ⟨R, 0, none⟩).run Tryz.prog W = .ok (.agg (rrL bs lv c p).toArray) W :=
 run_ld (P := Tryz.prog) 60 (rrL bs lv c p) W (by kernel_rfl) (by kernel_rfl) R 0 (Blk.ld hB 0 _ (fun j v h => by rw [Nat.zero_add]; exact h))
theorem rr_st (ba : Option Addr) (bn bc : Nat) (la : Option Addr) (ln lc : Nat) (c p : Int) (R : Nat) (Z : List Value) (hZ : Z.length = 4) (W : World) (hB : Blk W R Z) : (Instr.storeAt 60 (.pointer (some ⟨R, 0, none⟩)) (.agg (rrL (.slice ba bn bc) (.slice la ln lc) c p).toArray)).run Tryz.prog W = .ok () (putL R 0 (rrL (.slice ba bn bc) (.slice la ln lc) c p) W) :=
 run_st (P := Tryz.prog) 60 (rrL (.slice ba bn bc) (.slice la ln lc) c p) W (by kernel_rfl) (by simp [rrL, Value.oneCell']) R 0 (Blk.st hB 0 _ (by rw [hZ]; simp [rrL]))
set_option maxHeartbeats 1600000 in
set_option maxRecDepth 100000 in
theorem l7Fail_any (ba : Option Addr) (bn bc : Nat) (la : Option Addr) (ln lc : Nat) (c0 p0 c p : Int) (w : World) :
  Calls Tryz.prog 61 #[.agg (rrL (.slice ba bn bc) (.slice la ln lc) c0 p0).toArray, .int .i64 c, .int .i64 p] w fun e w' => e = .returned (.agg (rrL (.slice ba bn bc) (.slice la ln lc) c p).toArray) ∧ Ext w w' := by
 obtain ⟨V, hV⟩ : ∃ V, (w.alloc (.cells (rrL (.slice ba bn bc) (.slice la ln lc) c0 p0).toArray 60)).alloc (.cells #[.slice none 0 0, .slice none 0 0, .int .i64 0, .int .i64 0] 60) = V := ⟨_, rfl⟩
 obtain ⟨B0, B1, hE, -⟩ := box2 w (rrL (.slice ba bn bc) (.slice la ln lc) c0 p0) rrZ 60 60 (w1 := V) (by rw [← hV]; exact Ext.refl _)
 have c2 := (B0 2 _ rfl).1
 have f2 := (B0 2 _ rfl).2
 have c3 := (B0 3 _ rfl).1
 have f3 := (B0 3 _ rfl).2
 have hA : Blk ((V.setCell ⟨w.heap.size, 2, none⟩ (.int .i64 c)).setCell ⟨w.heap.size, 3, none⟩ (.int .i64 p)) w.heap.size (rrL (.slice ba bn bc) (.slice la ln lc) c p) := Blk.set1 (Blk.set1 B0 2 _ (by simp [rrL])) 3 _ (by simp [rrL])
 have hB : Blk ((V.setCell ⟨w.heap.size, 2, none⟩ (.int .i64 c)).setCell ⟨w.heap.size, 3, none⟩ (.int .i64 p)) (w.heap.size + 1) rrZ := Blk.apart1 (Blk.apart1 B1 _ (by omega)) _ (by omega)
 have hX : Ext w ((V.setCell ⟨w.heap.size, 2, none⟩ (.int .i64 c)).setCell ⟨w.heap.size, 3, none⟩ (.int .i64 p)) := Below.setCell (Below.setCell hE (p := ⟨w.heap.size, 2, none⟩) (Nat.le_refl _) _) (p := ⟨w.heap.size, 3, none⟩) (Nat.le_refl _) _
 have d3 : (V.setCell ⟨w.heap.size, 2, none⟩ (.int .i64 c)).cell? ⟨w.heap.size, 3, none⟩ = some (.int .i64 p0) := ((Blk.set1 B0 2 (.int .i64 c) (by simp [rrL])) 3 _ rfl).1
 obtain ⟨V2, hV2⟩ : ∃ V2, (V.setCell ⟨w.heap.size, 2, none⟩ (.int .i64 c)).setCell ⟨w.heap.size, 3, none⟩ (.int .i64 p) = V2 := ⟨_, rfl⟩
 rw [hV2] at hA hB hX
 have hld := rr_ld (.slice ba bn bc) (.slice la ln lc) c p w.heap.size V2 hA
 have hst := rr_st ba bn bc la ln lc c p (w.heap.size + 1) rrZ rfl V2 hB
 have hl2 := rr_ld (.slice ba bn bc) (.slice la ln lc) c p (w.heap.size + 1) _ (Blk.putAll1 hB (vs := rrL (.slice ba bn bc) (.slice la ln lc) c p) rfl)
 have HX := hide (below_putL (Nat.le_succ _) (rrL (.slice ba bn bc) (.slice la ln lc) c p) 0 _ hX)
 clear B0 B1 hE hA hB hX
 go_enter Tryz.func61, Tryz.ntmps61
 go_wp2_with (first | (refine wpList_ld (by first | rfl | simp [Region.wanted, yielded]) 60 _ rfl _ rfl _ hld ?_) | (refine wpList_st (by first | rfl | simp [Region.wanted, yielded]) 60 _ _ rfl _ rfl _ rfl _ hst ?_))
 refine bodyPost_ret (v := .agg (rrL (.slice ba bn bc) (.slice la ln lc) c p).toArray) (results_at Tryz.results61 rfl hl2) rfl ?_
 exact ⟨rfl, HX.out⟩
def GivesRr (B : Nat) (w : World) (bs lv : Value) (R : Rdr) (L : List It) (e : Ending) (w' : World) : Prop :=
 ∃ la ln lc z, e = .returned (.tuple #[.agg (rrL bs (.slice la ln lc) R.code (if R.code = 0 then 0 else R.pl)).toArray, .int .i64 z]) ∧
  (R.code = 0 → z = (R.nx : Int) ∧ ((Value.slice la ln lc).ownBlock = lv.ownBlock ∨ ∃ q, (Value.slice la ln lc).ownBlock = some q ∧ w.heap.size ≤ q) ∧ ∃ M, LAcc B w' (.slice la ln lc) (L ++ M) ∧ M.map ct = R.its ∧ ∀ t ∈ M, 0 < t.len → w.heap.size ≤ t.blk ∧ Cp t) ∧ w.grownBy w' lv.ownBlock
theorem GivesRr.bad {B : Nat} {w w' : World} {bs : Value} {la : Option Addr} {ln lc : Nat} {R : Rdr} {L : List It} {c p z : Int} (h : R.code = c) (hp : R.pl = p) (hc : c ≠ 0) (hE : Ext w w') :
  GivesRr B w bs (.slice la ln lc) R L (.returned (.tuple #[.agg (rrL bs (.slice la ln lc) c p).toArray, .int .i64 z])) w' :=
 ⟨la, ln, lc, z, by rw [h, if_neg hc, hp], fun h0 => absurd (h ▸ h0) hc, grow_ext hE⟩
theorem rdT_bad {f : Nat → Int} {k a e d : Nat} {c p : Int} (h : hdC f a e d = (c, p)) (hc : c ≠ 0) : (rdT f (k + 1) a e d).code = c ∧ (rdT f (k + 1) a e d).pl = p := by
 rw [rdT, h, if_pos hc]
 exact ⟨rfl, rfl⟩
end
end Go.Proofs.YtkogbinfhoiggaaGreatDoor
