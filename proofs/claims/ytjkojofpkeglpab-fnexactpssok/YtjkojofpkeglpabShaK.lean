/- Walks: the model's l5Turn, l5Keys; a store and a load of many cells at once. -/
import Derived.Test.YtjkojofpkeglpabShaN
import Derived.Test.YtjkojofpkeglpabIn
import Derived.Handy
import Derived.Laws.IdiomCopy
namespace Go.Proofs.Ytjkojofpkeglpab
set_option linter.unusedVariables false
set_option linter.unusedSimpArgs false
open Go.RowKit

set_option maxHeartbeats 1600000 in
theorem l5Turn_any (x : Int) (n : Nat) (hn : n ≤ 32) (w : World) : Calls Try.prog 128 #[.int .u32 x, .int .i64 n] w fun e w' => e = .returned (.int .u32 (turnV x n)) ∧ Ext w w' := by
  go_enter Try.func128, Try.ntmps128
  go_wp2
  go_quiet (fail)
  go_wp2
  go_ret
  exact ⟨rfl, ⟨rfl, rfl, rfl, Nat.le_refl _, fun _ _ => rfl⟩⟩

theorem wp_value {P : Program} {o : Oper} {a : Act} {w w' : World} {v : Value} {next : Act → World → Prop} {Q : Exit → Act → World → Prop} (h : (execOp a.eval o).run P w = .ok (.value v) w') (k : next (a.put o.dst v) w') : o.wp P a w next Q := by
  unfold Oper.wp; rw [h]; exact k
theorem wp_skip {P : Program} {o : Oper} {a : Act} {w w' : World} {next : Act → World → Prop} {Q : Exit → Act → World → Prop} (h : (execOp a.eval o).run P w = .ok .skip w') (k : next (a.put o.dst undef) w') : o.wp P a w next Q := by
  unfold Oper.wp; rw [h]; exact k

/-- An operation of a region in order. -/
theorem wpOps_step {P : Program} {ops : Array Oper} {Q : Exit → Act → World → Prop} {i : Nat} {rest : List Nat} {a : Act} {w : World} (o : Oper) (ho : ops[i]? = some o) (hw : Region.wanted o (yielded ops a.tmps) = true) (h : o.wp P a w (wpOps P ops Q rest) Q) : wpOps P ops Q (i :: rest) a w := by
  rw [wpOps, ho]
  simp only [hw, if_true]
  exact Or.inl h

theorem setCells_putL (b : Nat) : ∀ (vs : List Value) (o : Nat) (w : World), w.setCells b o vs = putL b o vs w
  | [], _, _ => rfl
  | v :: vs, o, w => by rw [World.setCells, putL, setCells_putL b vs]

/-- A value of 64 words is stored as a whole. -/
theorem run_store64 (cs : List Value) (hl : cs.length = 64) (h1 : ∀ v ∈ cs, v.oneCell' = true) (b : Nat) (w : World) (hc : ∀ j, j < 64 → (w.cell? ⟨b, j, none⟩).isSome = true) (hf : ∀ j, j < 64 → w.frozen? ⟨b, j, none⟩ = false) :
    (Instr.storeAt 118 (.pointer (some ⟨b, 0, none⟩)) (.agg cs.toArray)).run Try.prog w = .ok () (putL b 0 cs w) := by
  have hs : (Go.sizeOf 118).run Try.prog w = .ok 64 w := by kernel_rfl
  have hst := run_storeCells_cells (P := Try.prog) b 0 cs 0 w (fun j hj => by simpa using hc j (by omega)) (fun j hj => by simpa using hf j (by omega)) h1
  simp only [Instr.storeAt, Instr.sureAddr, storeVar, Sem.run_bind, Sem.run_pure, Result.andThen_ok, hs, Value.cells]
  rw [setCells_putL] at hst
  simp [hl, hst]

/-- A value of 64 words is read as a whole. -/
theorem run_load64 (cs : List Value) (hl : cs.length = 64) (b : Nat) (w : World) (hc : ∀ j v, cs[j]? = some v → w.cell? ⟨b, j, none⟩ = some v) :
    (loadVar 118 ⟨b, 0, none⟩).run Try.prog w = .ok (.agg cs.toArray) w := by
  have hs : (Go.sizeOf 118).run Try.prog w = .ok 64 w := by kernel_rfl
  have ha : (isAgg 118).run Try.prog w = .ok true w := by kernel_rfl
  have hld := run_loadCells_list (P := Try.prog) w ⟨b, 0, none⟩ cs (fun j v h => by
    have := hc j v h
    rwa [show (⟨b, 0, none⟩ : Addr).add j = ⟨b, j, none⟩ by unfold Addr.add; split <;> simp_all])
  rw [hl] at hld
  simp only [loadVar, Sem.run_bind, ha, Result.andThen_ok, if_true, hs, hld, Sem.run_pure]

theorem zero_at {j n : Nat} (h : j < n) (v : Value) : (List.replicate n v)[j]? = some v := by rw [List.getElem?_replicate, if_pos h]

/-- A result that lies in a block is read there as a whole. -/
theorem results_cell {P : Program} {fn : Func} {a : Nat} {T : TypeId} (hf : fn.results = #[.cell a T]) {tmps : Array Value} {q : Addr} {v : Value} {W : World} (ht : tmps.getD a undef = .pointer (some q)) (hl : (loadVar T q).run P W = .ok v W) : (results fn tmps).run P W = .ok v W := by
  unfold results
  rw [hf]
  rw [Array.getD_eq_getD_getElem?] at ht
  simp [ht, asAddr, hl, Sem.run_bind, Sem.run_pure, Result.andThen_ok]

/-- The keys as cells. -/
def keyC : List Value := keyL.map (.int .u32)
theorem keyC_at (t : Nat) (h : t < 64) : keyC[t]? = some (.int .u32 (keyV t)) := by
  have : keyL.length = 64 := by decide +kernel
  simp [keyC, keyV, List.getElem?_eq_getElem (show t < keyL.length by omega), List.getD]

theorem keyC_one : ∀ v ∈ keyC, v.oneCell' = true := by
  intro v h
  obtain ⟨x, -, rfl⟩ := List.mem_map.1 h
  rfl

set_option maxHeartbeats 1600000 in
set_option maxRecDepth 100000 in
theorem l5Keys_any (w : World) : Calls Try.prog 129 #[] w fun e w' => e = .returned (.agg keyC.toArray) ∧ Ext w w' := by
  go_enter Try.func129, Try.ntmps129
  apply wp_seq_k; intro K hK
  refine wp_region ?_
  refine wpOps_step _ rfl (by kernel_rfl) (wp_value (v := .pointer (some ⟨w.heap.size, 0, none⟩)) (w' := w.alloc (.cells (List.replicate 64 (.int .u32 0)).toArray 118)) (by kernel_rfl) ?_)
  show K _ _
  apply hK
  clear hK K
  have B := Blk.alloc w (List.replicate 64 (.int .u32 0)) 118
  have hE := Ext.alloc w (.cells (List.replicate 64 (.int .u32 0)).toArray 118)
  generalize w.alloc (.cells (List.replicate 64 (.int .u32 0)).toArray 118) = V at *
  apply wp_seq_k; intro K hK
  refine wp_region ?_
  refine wpOps_step _ rfl (by kernel_rfl) (wp_value (v := .agg keyC.toArray) (w' := V) (by kernel_rfl) ?_)
  refine wpOps_step _ rfl (by kernel_rfl) (wp_skip (w' := putL w.heap.size 0 keyC V) ?_ ?_)
  · show ((do Instr.storeAt 118 (.pointer (some ⟨w.heap.size, 0, none⟩)) (.agg keyC.toArray); pure .skip : Sem Next)).run Try.prog V = _
    rw [Sem.run_bind, run_store64 keyC (by decide +kernel) keyC_one _ V (fun j hj => by rw [(B j _ (zero_at hj _)).1]; rfl) (fun j hj => (B j _ (zero_at hj _)).2)]
    rfl
  show K _ _
  apply hK
  clear hK K
  have B' := B.put keyC (by decide +kernel)
  have hE' := hE.putL (Nat.le_refl _) keyC
  generalize putL w.heap.size 0 keyC V = W at *
  refine wp_ret ?_
  refine bodyPost_ret (v := .agg keyC.toArray) ?_ rfl ⟨rfl, hE'⟩
  have hl := run_load64 keyC (by decide +kernel) w.heap.size W (fun j v h => (B' j v h).1)
  exact results_cell Try.results129 rfl hl

end Go.Proofs.Ytjkojofpkeglpab
