/- Walks: errors.As at a fault of the reader's, that is it. -/
import Derived.Test.YtkogbinfhoiggaaGreatDoorCx17
namespace Go.Proofs.YtkogbinfhoiggaaGreatDoor
set_option linter.unusedVariables false
set_option linter.unusedSimpArgs false
open Go.RowKit Go.Extern.Stop Go.Stop Go.Extern
def Hdl (W : World) : Prop := W.cell? ⟨0, 0, none⟩ = some (.iface 161 (.agg #[.pointer (some ⟨7, 73, none⟩)]))
set_option maxHeartbeats 6400000 in
set_option maxRecDepth 100000 in
theorem as_fault (c p : Int) (T : Nat) (Z : List Value) (hZ : Z.length = 2) (w : World) (hg : Hdl w) (ht : Blk w T Z) :
  Calls Tryz.prog 48 #[.iface 77 (.agg #[.int .i64 c, .int .i64 p]), .iface 79 (.pointer (some ⟨T, 0, none⟩))] w fun e w' => e = .returned (.bool true) ∧ ∃ w1, Ext w w1 ∧ w' = putL T 0 (ftL c p) w1 := by
 have h6 := @run_callFunc_extern Tryz.prog 79 _ (fun args => ReflectliteValue.unpack (args.getD 0 (.tuple #[]))) Tryz.func79 (by kernel_rfl) (by kernel_rfl) (by kernel_rfl) (by kernel_rfl)
 have h7 := @run_callFunc_extern Tryz.prog 80 _ (ReflectliteValue.methodAny (ReflectliteValue.valueError "reflectlite.Value.Type" 0) (fun t _ _ _ => ReflectliteType.toType t)) Tryz.func80 (by kernel_rfl) (by kernel_rfl) (by kernel_rfl) (by kernel_rfl)
 have h8 := @run_callFunc_extern Tryz.prog 81 _ (ReflectliteValue.method (ReflectliteValue.valueError "reflectlite.Value.IsNil" 0) ReflectliteValue.isNil) Tryz.func81 (by kernel_rfl) (by kernel_rfl) (by kernel_rfl) (by kernel_rfl)
 have h27 := @run_callFunc_extern Tryz.prog 201 _ (ReflectliteType.abiMethod fun t => do pure (.int .u8 (← Rtype.kind t))) Tryz.func201 (by kernel_rfl) (by kernel_rfl) (by kernel_rfl) (by kernel_rfl)
 have h37 := @run_callFunc_extern Tryz.prog 215 _ (ReflectliteType.method ReflectliteType.elem) Tryz.func215 (by kernel_rfl) (by kernel_rfl) (by kernel_rfl) (by kernel_rfl)
 have h38 := @run_callFunc_extern Tryz.prog 216 _ (ReflectliteType.relation "Implements" ReflectliteType.implements_) Tryz.func216 (by kernel_rfl) (by kernel_rfl) (by kernel_rfl) (by kernel_rfl)
 have h10 := @run_callFunc_extern Tryz.prog 112 _ ReflectliteType.typeOf Tryz.func112 (by kernel_rfl) (by kernel_rfl) (by kernel_rfl) (by kernel_rfl)
 have h35 := @run_callFunc_extern Tryz.prog 213 _ (ReflectliteType.relation "AssignableTo" ReflectliteType.assignableTo) Tryz.func213 (by kernel_rfl) (by kernel_rfl) (by kernel_rfl) (by kernel_rfl)
 have h11 := @run_callFunc_extern Tryz.prog 113 _ (ReflectliteValue.method (ReflectliteValue.valueError "reflectlite.Value.Elem" 0) ReflectliteValue.elem) Tryz.func113 (by kernel_rfl) (by kernel_rfl) (by kernel_rfl) (by kernel_rfl)
 have h12 := @run_callFunc_extern Tryz.prog 114 _ ReflectliteValue.set Tryz.func114 (by kernel_rfl) (by kernel_rfl) (by kernel_rfl) (by kernel_rfl)
 have tO := rl_typeF
 have mA := rl_mAsgn
 have aF := rl_asgnF
 have vF := rl_valueF
 have f6 := rl_valueP
 have f7 := rl_typeP
 have mK := rl_mKind
 have mE := rl_mElem
 have mI := rl_mImpl
 have kP := rl_kindP
 have kF := rl_kindF
 have eP := rl_elemP
 have iF := rl_implF
 obtain ⟨W1, hW1⟩ : ∃ W1, (w.alloc (.cells #[.pointer (some ⟨T, 0, none⟩)] 79)).alloc (.cells #[.pointer (some ⟨7, 79, none⟩), .pointer (some ⟨w.heap.size, 0, none⟩), .int .u64 150] 120) = W1 := ⟨_, rfl⟩
 obtain ⟨B0, B1, hE, hs⟩ := box2 w [.pointer (some ⟨T, 0, none⟩)] [.pointer (some ⟨7, 79, none⟩), .pointer (some ⟨w.heap.size, 0, none⟩), .int .u64 150] 79 120 (w1 := W1) (by rw [← hW1]; exact Ext.refl _)
 have n8 := rl_nilP ⟨w.heap.size, 0, none⟩ ⟨T, 0, none⟩ W1 (B0 0 _ rfl).1
 have hg2 : Hdl W1 := (Below.cell hE (p := ⟨0, 0, none⟩) (World.block_lt_of_cell? _ _ hg)).trans hg
 unfold Hdl at hg2
 have v0 := (B1 0 _ rfl).1
 have v1 := (B1 1 _ rfl).1
 have v2 := (B1 2 _ rfl).1
 have HE := hide hE
 have HB1 := hide B1
 have HB0 := hide B0
 clear hE B0 B1 hg
 obtain ⟨W2, hW2⟩ : ∃ W2, W1.alloc (.cells #[.pointer (some ⟨7, 79, none⟩), .pointer (some ⟨w.heap.size, 0, none⟩), .int .u64 150] 120) = W2 := ⟨_, rfl⟩
 obtain ⟨D0, hE2, hs2⟩ := box1 W1 [.pointer (some ⟨7, 79, none⟩), .pointer (some ⟨w.heap.size, 0, none⟩), .int .u64 150] 120 (w1 := W2) (by rw [← hW2]; exact Ext.refl _)
 have d0 := (D0 0 _ rfl).1
 have d1 := (D0 1 _ rfl).1
 have d2 := (D0 2 _ rfl).1
 have hlt : w.heap.size < W1.heap.size := HB0.out.lt (by simp)
 have el := rl_elemVP ⟨w.heap.size, 0, none⟩ ⟨T, 0, none⟩ W2 ((HB0.out.ext hE2 hlt) 0 _ rfl).1
 have hTl : T < w.heap.size := ht.lt (by omega)
 have hB3 := Blk.alloc W2 (ftL c p) 77
 have hT3 : Blk (W2.alloc (.cells #[.int .i64 c, .int .i64 p] 77)) T Z := ht.ext ((HE.out.trans hE2).trans (Ext.alloc _ _)) hTl
 have st := rl_setF T W2.heap.size c p Z hZ (W2.alloc (.cells #[.int .i64 c, .int .i64 p] 77)) hB3 hT3
 have HE3 := hide ((HE.out.trans hE2).trans (Ext.alloc W2 (.cells #[.int .i64 c, .int .i64 p] 77)))
 clear hB3 hT3 hE2 D0 ht hlt hTl
 go_enter Tryz.func48, Tryz.ntmps48
 go_wp2
 refine wp_loop_rounds 1 ?_
 rw [rounds_succ]
 go_wp2
 go_ret
 exact ⟨rfl, _, HE3.out, rfl⟩
end Go.Proofs.YtkogbinfhoiggaaGreatDoor
