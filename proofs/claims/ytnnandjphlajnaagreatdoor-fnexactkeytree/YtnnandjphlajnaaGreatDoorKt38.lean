/- The walk of the law FnExactKeyOk (written by mkkey.py). Keys: SigSize of both; the walk of the law FnExactSigSize (written by mkkey.py). -/
import Derived.Test.YtnnandjphlajnaaGreatDoorKt36
import Derived.Test.YtnnandjphlajnaaGreatDoorKt37
namespace Go.Proofs.YtnnandjphlajnaaGreatDoor

section
set_option linter.unusedVariables false
set_option linter.unusedSimpArgs false

open Go.RowKit

theorem KeyIn.ky {w : World} {m : KyM} (h : KeyIn w m) (hn : m.k.n ≤ 1048576) : KyIn m.k := ⟨hn, h.e0, h.e1, h.p, h.c, h.d, h.l⟩

theorem run_loadKeyL (cs : List Value) (hl : cs.length = 19) (b : Nat) (w : World) (hc : ∀ j v, cs[j]? = some v → w.cell? ⟨b, j, none⟩ = some v) :
    (loadVar 32 ⟨b, 0, none⟩).run Tryz.prog w = .ok (.agg cs.toArray) w := by
  have hs : (Go.sizeOf 32).run Tryz.prog w = .ok 19 w := by kernel_rfl
  have ha : (isAgg 32).run Tryz.prog w = .ok true w := by kernel_rfl
  have hld := run_loadCells_list (P := Tryz.prog) w ⟨b, 0, none⟩ cs (fun j v h => by
    have := hc j v h
    rwa [show (⟨b, 0, none⟩ : Addr).add j = ⟨b, j, none⟩ by unfold Addr.add; split <;> simp_all])
  rw [hl] at hld
  simp only [loadVar, Sem.run_bind, ha, Result.andThen_ok, if_true, hs, hld, Sem.run_pure]

theorem quiet_load {P : Program} {o : Oper} {a : Act} {C : World → Prop} {w : World} {v : Value} {ty : TypeId} {x : Operand} {p : Addr} (ho : o.op = .load ty x) (hp : a.eval x = .pointer (some p)) (hl : (loadVar ty p).run P w = .ok v w) : o.quietAt P a C w v := by
  unfold Oper.quietAt execOp
  simp only [ho, hp, Instr.loadAt, Instr.sureAddr, Sem.run_bind, Sem.run_pure, Result.andThen_ok, hl]
  exact ⟨rfl, rfl⟩

theorem head_load {P : Program} {ops : Array Oper} {X : Nat → Prop} {w : World} {N : Act → Prop} {o : Oper} {rest : List Oper} {a : Act} (hw : Region.wanted o (yielded ops a.tmps) = true) {ty : TypeId} {x : Operand} (ho : o.op = .load ty x) {p : Addr} (hp : a.eval x = .pointer (some p)) {v : Value} (hl : ∀ q : ReC X w, (loadVar ty p).run P q.val = .ok v q.val) (h : headC P ops X w N rest (a.put o.dst v)) : headC P ops X w N (o :: rest) a := by
  refine headC_step (fun K hK => ?_)
  simp only [hw, if_true]
  exact ⟨v, fun q => quiet_load ho hp (hl q), hK _ h⟩

theorem blk_re {w : World} {C : Nat} {vs : List Value} (h : Blk w C vs) (h0 : C < w.heap.size) (q : ReC (fun _ => False) w) : Blk q.val C vs := h.ext ⟨q.ok.os, q.ok.tape, q.ok.output, q.ok.size, fun k hk => q.ok.block k hk (fun h => h)⟩ h0
end

section
set_option linter.unusedVariables false
set_option linter.unusedSimpArgs false

open Go.RowKit

set_option maxHeartbeats 800000 in
theorem bytesFor_any (n : Int) (w : World) (h0 : 0 ≤ n) (h1 : n ≤ 100000) : Calls Tryz.prog 151 #[.int .i64 n] w fun e w' => e = .returned (.int .i64 ((n + 7) / 8)) ∧ w' = w := by
  have w1 : wrap64 (n + 7) = n + 7 := by unfold wrap64; omega
  have m1 : Int.tdiv (n + 7) 8 = (n + 7) / 8 := by rw [Int.tdiv_eq_ediv_of_nonneg (by omega)]
  have w2 : wrap64 ((n + 7) / 8) = (n + 7) / 8 := by unfold wrap64; omega
  go_enter Tryz.func151, Tryz.ntmps151
  go_wp2
  go_ret
  exact ⟨by first | rfl | (congr 2), rfl⟩
end

end Go.Proofs.YtnnandjphlajnaaGreatDoor
