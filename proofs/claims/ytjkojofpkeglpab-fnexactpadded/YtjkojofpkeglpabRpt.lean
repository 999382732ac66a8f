/- Walks: math/bits.Mul of 1, bytes.Repeat of one byte. -/
import Derived.Test.YtjkojofpkeglpabBCat
import Derived.Test.YtjkojofpkeglpabStepsC
import Derived.Lib.MakeNoZero
import Derived.Laws.Externs
import Derived.Laws.IdiomCopy
namespace Go.Proofs.Ytjkojofpkeglpab
set_option linter.unusedVariables false
set_option linter.unusedSimpArgs false
open Go.RowKit

theorem and32 (n : Nat) (h : n ≤ 1000) : bits .and .u64 (n : Int) 4294967295 = n := by
  show IntKind.u64.wrap ((BitVec.ofInt 64 (n : Int) &&& BitVec.ofInt 64 4294967295).toNat : Int) = _
  have h2 : (BitVec.ofInt 64 4294967295).toNat = 2 ^ 32 - 1 := by decide
  have h3 : (BitVec.ofInt 64 (n : Int)).toNat = n := by
    rw [BitVec.toNat_ofInt]
    omega
  rw [BitVec.toNat_and, h3, h2, Nat.and_two_pow_sub_one_eq_mod, IntKind.wrap_u64]
  omega

set_option maxHeartbeats 800000 in
theorem mul64_one (n : Nat) (w : World) (h : n ≤ 1000) : Calls Try.prog 117 #[.int .u64 1, .int .u64 (n : Int)] w fun e w' => e = .returned (.tuple #[.int .u64 0, .int .u64 (n : Int)]) ∧ w' = w := by
  have a1 := and32 n h
  have a2 : bits .and .u64 1 4294967295 = 1 := by decide +kernel
  have a3 : (n : Int) / 4294967296 = 0 := by omega
  have a4 : bits .and .u64 0 4294967295 = 0 := by decide +kernel
  have n0 : (0 : Int) ≤ n := by omega
  have n1 : (n : Int) ≤ 1000 := by omega
  go_enter Try.func117, Try.ntmps117
  go_wp2
  go_ret2
  exact ⟨rfl, rfl⟩

set_option maxHeartbeats 800000 in
theorem mul_one1 (n : Nat) (w : World) (h : n ≤ 1000) : Calls Try.prog 88 #[.int .u64 1, .int .u64 (n : Int)] w fun e w' => e = .returned (.tuple #[.int .u64 0, .int .u64 (n : Int)]) ∧ w' = w := by
  go_enter Try.func88, Try.ntmps88
  go_wp2_with fail
  refine (mul64_one n w h).mono ?_
  rintro e w1 ⟨rfl, hw⟩
  subst hw
  go_wp2
  go_ret2
  exact ⟨rfl, rfl⟩

/-- The first m of N places of block g hold x; all may be written. -/
structure Fill (wr : World) (g N m : Nat) (x : Int) : Prop where
  cell : ∀ j, j < m → wr.cell? ⟨g, j, none⟩ = some (.int .u8 x)
  some' : ∀ j, j < N → (wr.cell? ⟨g, j, none⟩).isSome = true
  free : ∀ j, j < N → wr.frozen? ⟨g, j, none⟩ = false

theorem Fill.of_ext {wr w' : World} {g N m : Nat} {x : Int} (h : Fill wr g N m x) (e : Ext wr w') (hg : g < wr.heap.size) : Fill w' g N m x :=
  ⟨fun j hj => (e.cell (p := ⟨g, j, none⟩) hg).trans (h.cell j hj), fun j hj => by rw [e.cell (p := ⟨g, j, none⟩) hg]; exact h.some' j hj, fun j hj => (e.frozen (p := ⟨g, j, none⟩) hg).trans (h.free j hj)⟩

theorem Fill.copy {wr : World} {g N m c : Nat} {x : Int} (h : Fill wr g N m x) (hc : m + c ≤ N) : Fill (wr.setCells g m (List.replicate c (.int .u8 x))) g N (m + c) x := by
  have hs : ∀ j, j < (List.replicate c (Value.int .u8 x)).length → (wr.cell? ⟨g, m + j, none⟩).isSome = true := fun j hj => h.some' _ (by simp at hj; omega)
  have hin := World.cell?_setCells_in g (List.replicate c (.int .u8 x)) m wr hs
  have hall : ∀ j, j < N → (m ≤ j ∧ j < m + c → (wr.setCells g m (List.replicate c (.int .u8 x))).cell? ⟨g, j, none⟩ = some (.int .u8 x)) ∧ (¬ (m ≤ j ∧ j < m + c) → (wr.setCells g m (List.replicate c (.int .u8 x))).cell? ⟨g, j, none⟩ = wr.cell? ⟨g, j, none⟩) := by
    intro j hj
    refine ⟨fun hh => ?_, fun hh => ?_⟩
    · have := hin (j - m) (by simp; omega)
      rw [show m + (j - m) = j by omega] at this
      rw [this]
      simp
    · exact World.cell?_setCells_out g _ m wr ⟨g, j, none⟩ (fun _ _ => by simp; omega)
  refine ⟨fun j hj => ?_, fun j hj => ?_, fun j hj => by rw [World.frozen?_setCells]; exact h.free j hj⟩
  · by_cases hh : m ≤ j ∧ j < m + c
    · exact (hall j (by omega)).1 hh
    · rw [(hall j (by omega)).2 hh]; exact h.cell j (by omega)
  · by_cases hh : m ≤ j ∧ j < m + c
    · rw [(hall j hj).1 hh]; rfl
    · rw [(hall j hj).2 hh]; exact h.some' j hj

theorem below_setCells {B g : Nat} {w0 : World} (hg : B ≤ g) : ∀ (vs : List Value) (o : Nat) (w : World), Below B w0 w → Below B w0 (w.setCells g o vs)
  | [], _, _, h => h
  | v :: vs, o, w, h => by
    show Below B w0 (World.setCells _ g (o + 1) vs)
    exact below_setCells hg vs (o + 1) _ (h.setCell (p := ⟨g, o, none⟩) hg v)

theorem copy_run {wr : World} {g N m c : Nat} {x : Int} (ty : TypeId) (h : Fill wr g N m x) (hc : c = min m (N - m)) (hm : 0 < c) :
    (Builtin.copy_ #[22, 22] ty #[.slice (some ⟨g, m, none⟩) (N - m) (N - m), .slice (some ⟨g, 0, none⟩) m N]).run Try.prog wr = .ok (.int .i64 (c : Int)) (wr.setCells g m (List.replicate c (.int .u8 x))) := by
  have := run_copy_cells (P := Try.prog) wr 22 22 ty 5 g m (N - m) (N - m) ⟨g, 0, none⟩ m N (List.replicate c (.int .u8 x)) Try.underlying22 (by kernel_rfl) (by rw [List.length_replicate, hc])
    (fun j v hj => by
      have hjc : j < c := by have := (List.getElem?_eq_some_iff.1 hj).1; simpa using this
      rw [List.getElem?_replicate, if_pos hjc] at hj
      obtain rfl := Option.some.inj hj
      have e : Addr.add ⟨g, 0, none⟩ j = ⟨g, j, none⟩ := by
        by_cases h0 : j = 0
        · subst h0; simp [Addr.add]
        · simp [Addr.add, h0]
      rw [e]
      exact h.cell j (by omega))
    (fun j hj => h.some' _ (by simp at hj; omega)) (fun j hj => h.free _ (by simp at hj; omega)) (fun v hv => by rw [List.eq_of_mem_replicate hv]; rfl)
  rw [this, List.length_replicate]
  rfl

theorem Grw.of_below' {X : Nat → Prop} {B : Nat} {a b : World} (h : Below B a b) (hX : ∀ k, B ≤ k → X k) : Grw X a b :=
  ⟨h.os, h.tape, h.output, h.size, fun k hk hn => h.block k (by
    by_cases hh : k < B
    · exact hh
    · exact absurd (hX k (by omega)) hn)⟩

theorem wp_copy_run' {o : Oper} {a : Act} {K : Act → World → Prop} {Q : Exit → Act → World → Prop} {w : World} (d s : Operand) (t t' : TypeId)
    (ho : o.op = .call { callee := .builtin .copy, args := #[d, s], argTypes := #[t, t'] }) (v u : Value) (hd : a.eval d = v) (hs : a.eval s = u) {v' : Value} {w' : World}
    (hr : (Builtin.copy_ #[t, t'] o.type #[v, u]).run Try.prog w = .ok v' w') (h : K (a.put o.dst v') w') : o.wp Try.prog a w K Q := by
  unfold Oper.wp execOp
  simp only [ho, resolve, invoke, builtin, Sem.run_bind, Sem.run_pure, Result.andThen_ok, List.map_toArray, List.map_cons, List.map_nil, hd, hs, hr]
  exact h
theorem wpList_copy_run' {ops : Array Oper} {rest : List Oper} {o : Oper} {a : Act} {Q : Exit → Act → World → Prop} {w : World} (hgd : o.guard = none) (d s : Operand) (t t' : TypeId)
    (ho : o.op = .call { callee := .builtin .copy, args := #[d, s], argTypes := #[t, t'] }) (v u : Value) (hd : a.eval d = v) (hs : a.eval s = u) {v' : Value} {w' : World}
    (hr : (Builtin.copy_ #[t, t'] o.type #[v, u]).run Try.prog w = .ok v' w') (h : wpList Try.prog ops Q rest (a.put o.dst v') w') : wpList Try.prog ops Q (o :: rest) a w :=
  wpList_plain hgd fun _ hK => wp_copy_run' d s t t' ho v u hd hs hr (hK _ _ h)

set_option maxHeartbeats 1600000 in
set_option maxRecDepth 100000 in
theorem repeat_any (b : Nat) (x : Int) (N : Nat) (w : World) (hb : w.cell? ⟨b, 0, none⟩ = some (.int .u8 x)) (hN : 1 ≤ N) (hN2 : N ≤ 1000) :
    Calls Try.prog 50 #[.slice (some ⟨b, 0, none⟩) 1 1, .int .i64 (N : Int)] w fun e w' => ∃ g, e = .returned (.slice (some ⟨g, 0, none⟩) N N) ∧ w.heap.size ≤ g ∧ BOwn w' (some ⟨g, 0, none⟩) g 0 N (fun _ => x) ∧ Ext w w' := by
  have z0 : ((N : Int) == 0) = false := by simp; omega
  have z1 : ¬ (N : Int) < 0 := by omega
  have z2 : (0 : Int) ≤ N := by omega
  have z3 : (N : Int) ≤ 1000 := by omega
  have z4 : IntKind.u64.wrap (N : Int) = N := by rw [IntKind.wrap_u64]; omega
  have z5 : IntKind.i64.wrap (N : Int) = N := by rw [IntKind.wrap_i64]; omega
  have z6 : ¬ (9223372036854775807 : Int) < N := by omega
  have z7 : ¬ (8192 : Int) < N := by omega
  have Hb := hide hb
  clear hb
  obtain ⟨cs, hrunM, hle, hmax⟩ := Lib.run_makeNoZero (P := Try.prog) w #[3] 22 5 Try.underlying22 N (by omega)
  have hcall : (callFunc 89 #[.int .i64 (N : Int)]).run Try.prog w = .ok (.value (.slice (some ⟨w.heap.size, 0, none⟩) N cs.size)) (w.drew.drew.alloc (.cells cs 5)) := by
    rw [run_callFunc_extern Try.func89 (by kernel_rfl) (by kernel_rfl) (by kernel_rfl) (e := Extern.BytealgMakeNoZero.makeNoZero #[3] #[22]) (by kernel_rfl), hrunM]
    rfl
  clear hrunM
  have hEW : Ext w (w.drew.drew.alloc (.cells cs 5)) := Ext.trans (b := w.drew.drew) ⟨rfl, rfl, rfl, Nat.le_refl _, fun _ _ => rfl⟩ (Ext.alloc _ _)
  have hh : (w.drew.drew.alloc (.cells cs 5)).heap[w.heap.size]? = some (.cells cs 5 (0, 0)) := heap_alloc_new w.drew.drew _
  have hsW : (w.drew.drew.alloc (.cells cs 5)).heap.size = w.heap.size + 1 := by simp
  have c1 : (N : Int) ≤ (cs.size : Int) := by omega
  have c2 : cs.size ≤ 9223372036854775807 := by have := hmax (by unfold maxLen; omega); unfold maxLen at this; omega
  generalize w.drew.drew.alloc (.cells cs 5) = W at *
  have hFW : Fill W w.heap.size N 0 x := by
    refine ⟨fun j hj => absurd hj (Nat.not_lt_zero _), fun j hj => ?_, fun j hj => by simp [World.frozen?, hh]⟩
    rw [cell_of_row W w.heap.size j cs 5 (0, 0) hh, Array.getElem?_eq_getElem (by omega)]
    rfl
  have hcp : (Builtin.copy_ #[22, 22] 3 #[.slice (some ⟨w.heap.size, 0, none⟩) N N, .slice (some ⟨b, 0, none⟩) 1 1]).run Try.prog W = .ok (.int .i64 1) (W.setCells w.heap.size 0 (List.replicate 1 (.int .u8 x))) := by
    have hb2 : W.cell? ⟨b, 0, none⟩ = some (.int .u8 x) := by
      rw [World.cell?_of_block (a := ⟨b, 0, none⟩) (Below.block hEW b (World.block_lt_of_cell? _ _ Hb.out))]; exact Hb.out
    have := run_copy_cells (P := Try.prog) W 22 22 3 5 w.heap.size 0 N N ⟨b, 0, none⟩ 1 1 [.int .u8 x] Try.underlying22 (by kernel_rfl) (by rw [show Nat.min 1 N = 1 from Nat.min_eq_left hN]; rfl)
      (fun j v hj => by
        have hj0 : j = 0 := by have := (List.getElem?_eq_some_iff.1 hj).1; simp at this; omega
        subst hj0
        simp at hj
        subst hj
        simpa [Addr.add] using hb2)
      (fun j hj => by rw [Nat.zero_add]; exact hFW.some' _ (by simp at hj; omega)) (fun j hj => by rw [Nat.zero_add]; exact hFW.free _ (by simp at hj; omega)) (fun v hv => by simp at hv; subst hv; rfl)
    exact this
  have HF1 := hide (by simpa using hFW.copy (c := 1) (by omega) : Fill (W.setCells w.heap.size 0 (List.replicate 1 (.int .u8 x))) w.heap.size N 1 x)
  have HE1 : Hid (Ext w (W.setCells w.heap.size 0 (List.replicate 1 (.int .u8 x)))) := hide (below_setCells (Nat.le_refl _) _ _ _ hEW)
  have Hz1 : Hid ((W.setCells w.heap.size 0 (List.replicate 1 (.int .u8 x))).heap.size = w.heap.size + 1) := by
    unfold Hid; simp [World.setCells, World.setCell, hsW]
  generalize W.setCells w.heap.size 0 (List.replicate 1 (.int .u8 x)) = W1 at *
  have Hcp := hide hcp
  clear hEW hFW hsW hcp hh
  go_enter Try.func50, Try.ntmps50
  go_wp2_with fail
  refine (mul_one1 N w hN2).mono ?_
  rintro e w1 ⟨rfl, hw⟩
  subst hw
  go_wp2_with (refine wpList_copy_run' rfl (.tmp 58) (.tmp 59) 22 22 rfl _ _ rfl rfl Hcp.out ?_)
  clear hcall Hcp
  go_wp2
  rename_i K hK
  have HK := hide hK
  clear hK
  go_loopw [10] (fun i wr => ∃ m : Nat, 1 ≤ m ∧ m ≤ N ∧ i = .int .i64 (m : Int) ∧ Fill wr w1.heap.size N m x ∧ w1.heap.size < wr.heap.size ∧ Ext w1 wr) (fun i _ => N - (intOf i).toNat)
  case atStart => exact ⟨1, by omega, hN, rfl, HF1.out, by have := Hz1.out; omega, HE1.out⟩
  case round =>
    clear HF1 HE1 Hz1
    obtain ⟨m, m1, mN, rfl, hF, hl, hE⟩ := hrel
    have HF := hide hF
    have HE := hide hE
    clear hF hE
    by_cases hlt : m < N
    · have k0 : (m : Int) < N := by omega
      have k1 : (m : Int) ≤ N := by omega
      have k2 : ¬ (8192 : Int) < m := by omega
      have k3 : (m : Int) ≤ 8192 := by omega
      have k4 : (m : Int) < 8192 := by omega
      have k5 : m ≤ N := mN
      have k6 : (0 : Int) ≤ m := by omega
      go_wp2_with fail
      obtain ⟨X, hX⟩ : ∃ X : Nat → Prop, X = fun k => w1.heap.size ≤ k := ⟨_, rfl⟩
      have x1 : X w1.heap.size := by rw [hX]; exact Nat.le_refl _
      have x2 : ∀ k, w1.heap.size ≤ k → X k := fun k h => by rw [hX]; exact h
      clear hX
      have k7 : ¬ N = 0 := by omega
      have k8 : ¬ m = N := by omega
      have k9 : ¬ N = m := by omega
      refine anyK_begin X 10 rfl (by kernel_rfl) ?_
      refine anyK_take 0 7 3 rfl (by decide) (by kernel_rfl) (fun _ _ d _ _ h => by cases d <;> exact h) ?_
      repeat (refine headC_step (fun K hK => ?_); go_simp; first | (refine hK _ ?_; clear hK K) | (apply Exists.intro; refine ⟨fun _ => ?_, hK _ ?_⟩; (fail); clear hK K))
      refine headC_nil ?_
      obtain ⟨c, hc⟩ : ∃ c, c = min m (N - m) := ⟨_, rfl⟩
      have hc0 : 0 < c := by omega
      have hc1 : m + c ≤ N := by omega
      have Hc := hide hc
      clear hc
      refine anyK_one 7 (by kernel_rfl) ?_
      refine stepK_run rfl ?_
      intro w2 h2 K2 hK2
      rw [if_pos (show _ = true by kernel_rfl)]
      have hF2 := HF.out.of_ext h2 hl
      refine wp_copy_run' _ _ 22 22 rfl _ _ rfl rfl (copy_run _ hF2 Hc.out hc0) ?_
      have hF3 := hF2.copy (c := c) (by omega)
      have E3 : Below w1.heap.size w1 (w2.setCells w1.heap.size m (List.replicate c (.int .u8 x))) := below_setCells (Nat.le_refl _) _ _ _ (HE.out.trans h2)
      have E4 : Below w1.heap.size wr (w2.setCells w1.heap.size m (List.replicate c (.int .u8 x))) := below_setCells (Nat.le_refl _) _ _ _ (h2.mono (Below.size HE.out))
      have hl3 : w1.heap.size < (w2.setCells w1.heap.size m (List.replicate c (.int .u8 x))).heap.size := Nat.lt_of_lt_of_le hl E4.size
      refine hK2 _ _ (Grw.of_below' E4 x2) ?_
      clear hK2 K2 hF2 h2
      generalize w2.setCells w1.heap.size m (List.replicate c (.int .u8 x)) = w3 at *
      replace HF := hide hF3
      replace HE : Hid (Ext w1 w3) := hide E3
      clear hF3 E3 E4
      have r1 : (m : Int) + c ≤ N := by omega
      have r2 : wrap64 ((m : Int) + c) = (m : Int) + c := by unfold wrap64; omega
      have r3 : IntKind.i64.wrap ((m : Int) + c) = (m : Int) + c := by rw [IntKind.wrap_i64]; omega
      refine anyK_take 8 2 0 rfl (by decide) (by kernel_rfl) (fun _ _ d _ _ h => by cases d <;> exact h) ?_
      repeat (refine headC_step (fun K hK => ?_); go_simp; first | (refine hK _ ?_; clear hK K) | (apply Exists.intro; refine ⟨fun _ => ?_, hK _ ?_⟩; (fail); clear hK K))
      refine headC_nil ?_
      refine anyK_done (by kernel_rfl) ?_ 0
      intro w4 h4
      replace HF := hide (HF.out.of_ext h4 hl3)
      replace HE := hide (HE.out.trans h4)
      have hl4 : w1.heap.size < w4.heap.size := Nat.lt_of_lt_of_le hl3 (Below.size h4)
      clear h4 r2 r3
      go_wp2
      go_roundw
      case rel => exact ⟨m + c, by omega, by omega, by go_num, HF.out, hl4, HE.out⟩
      case measure => simp [intOf]; omega
    · obtain rfl : m = N := by omega
      go_wp2
      apply HK.out
      clear HK
      go_wp2
      go_ret
      exact ⟨_, rfl, Nat.le_refl _, ⟨⟨fun _ => rfl, fun i hi => by rw [Nat.zero_add]; exact HF.out.cell i hi⟩, fun i hi => by rw [Nat.zero_add]; exact HF.out.free i hi⟩, HE.out⟩

end Go.Proofs.Ytjkojofpkeglpab
