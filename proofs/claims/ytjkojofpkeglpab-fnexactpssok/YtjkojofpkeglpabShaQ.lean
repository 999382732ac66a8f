/- Walks: the program's madeConstants, scheduleOf. -/
import Derived.Test.YtjkojofpkeglpabShaP
import Derived.Test.YtjkojofpkeglpabShaA
import Derived.Test.YtjkojofpkeglpabStepsJ
namespace Go.Proofs.Ytjkojofpkeglpab
set_option linter.unusedVariables false
set_option linter.unusedSimpArgs false
open Go.RowKit

/-- The state at first, as cells. -/
def firstC : List Value := firstL.map (.int .u32)
/-- Both, as cells. -/
def conC : List Value := firstC ++ keyC

theorem conC_one : ∀ v ∈ conC, v.oneCell' = true := by
  intro v h
  rcases List.mem_append.1 h with h | h
  · obtain ⟨x, -, rfl⟩ := List.mem_map.1 h
    rfl
  · exact keyC_one v h

theorem run_store72 (cs : List Value) (hl : cs.length = 72) (h1 : ∀ v ∈ cs, v.oneCell' = true) (b : Nat) (w : World) (hc : ∀ j, j < 72 → (w.cell? ⟨b, j, none⟩).isSome = true) (hf : ∀ j, j < 72 → w.frozen? ⟨b, j, none⟩ = false) :
    (Instr.storeAt 120 (.pointer (some ⟨b, 0, none⟩)) (.agg cs.toArray)).run Try.prog w = .ok () (putL b 0 cs w) := by
  have hs : (Go.sizeOf 120).run Try.prog w = .ok 72 w := by kernel_rfl
  have hst := run_storeCells_cells (P := Try.prog) b 0 cs 0 w (fun j hj => by simpa using hc j (by omega)) (fun j hj => by simpa using hf j (by omega)) h1
  simp only [Instr.storeAt, Instr.sureAddr, storeVar, Sem.run_bind, Sem.run_pure, Result.andThen_ok, hs, Value.cells]
  rw [setCells_putL] at hst
  simp [hl, hst]

theorem run_load72 (cs : List Value) (hl : cs.length = 72) (b : Nat) (w : World) (hc : ∀ j v, cs[j]? = some v → w.cell? ⟨b, j, none⟩ = some v) :
    (loadVar 120 ⟨b, 0, none⟩).run Try.prog w = .ok (.agg cs.toArray) w := by
  have hs : (Go.sizeOf 120).run Try.prog w = .ok 72 w := by kernel_rfl
  have ha : (isAgg 120).run Try.prog w = .ok true w := by kernel_rfl
  have hld := run_loadCells_list (P := Try.prog) w ⟨b, 0, none⟩ cs (fun j v h => by
    have := hc j v h
    rwa [show (⟨b, 0, none⟩ : Addr).add j = ⟨b, j, none⟩ by unfold Addr.add; split <;> simp_all])
  rw [hl] at hld
  simp only [loadVar, Sem.run_bind, ha, Result.andThen_ok, if_true, hs, hld, Sem.run_pure]

set_option maxHeartbeats 1600000 in
set_option maxRecDepth 100000 in
theorem madeConstants_any (w : World) : Calls Try.prog 85 #[] w fun e w' => e = .returned (.agg conC.toArray) ∧ Ext w w' := by
  go_enter Try.func85, Try.ntmps85
  apply wp_seq_k; intro K hK
  refine wp_region ?_
  refine wpOps_step _ rfl (by kernel_rfl) (wp_value (v := .pointer (some ⟨w.heap.size, 0, none⟩)) (w' := w.alloc (.cells (List.replicate 72 (.int .u32 0)).toArray 120)) (by kernel_rfl) ?_)
  show K _ _
  apply hK
  clear hK K
  have B := Blk.alloc w (List.replicate 72 (.int .u32 0)) 120
  have hE := Ext.alloc w (.cells (List.replicate 72 (.int .u32 0)).toArray 120)
  generalize w.alloc (.cells (List.replicate 72 (.int .u32 0)).toArray 120) = V at *
  apply wp_seq_k; intro K hK
  refine wp_region ?_
  refine wpOps_step _ rfl (by kernel_rfl) (wp_value (v := .agg firstC.toArray) (w' := V) (by kernel_rfl) ?_)
  refine wpOps_step _ rfl (by kernel_rfl) (wp_value (v := .agg keyC.toArray) (w' := V) (by kernel_rfl) ?_)
  refine wpOps_step _ rfl (by kernel_rfl) (wp_value (v := .agg conC.toArray) (w' := V) (by kernel_rfl) ?_)
  refine wpOps_step _ rfl (by kernel_rfl) (wp_skip (w' := putL w.heap.size 0 conC V) ?_ ?_)
  · show ((do Instr.storeAt 120 (.pointer (some ⟨w.heap.size, 0, none⟩)) (.agg conC.toArray); pure .skip : Sem Next)).run Try.prog V = _
    rw [Sem.run_bind, run_store72 conC (by decide +kernel) conC_one _ V (fun j hj => by rw [(B j _ (zero_at hj _)).1]; rfl) (fun j hj => (B j _ (zero_at hj _)).2)]
    rfl
  show K _ _
  apply hK
  clear hK K
  have B' := B.put conC (by decide +kernel)
  have hE' := hE.putL (Nat.le_refl _) conC
  generalize putL w.heap.size 0 conC V = W at *
  refine wp_ret ?_
  refine bodyPost_ret (v := .agg conC.toArray) ?_ rfl ⟨rfl, hE'⟩
  have hl := run_load72 conC (by decide +kernel) w.heap.size W (fun j v h => (B' j v h).1)
  exact results_cell Try.results85 rfl hl

theorem exec_load {T : TypeId} {q : Addr} {v : Value} {w : World} (hl : (loadVar T q).run Try.prog w = .ok v w) : ((do let x ← Instr.loadAt T (.pointer (some q)); pure (.value x) : Sem Next)).run Try.prog w = .ok (.value v) w := by
  simp only [Instr.loadAt, Instr.sureAddr, Sem.run_bind, Sem.run_pure, Result.andThen_ok, hl]

/-- A block's schedule, as cells. -/
def schC (b : Nat → Int) : List Value := (List.range 64).map (fun t => .int .u32 (schV b t))

theorem schC_len (b : Nat → Int) : (schC b).length = 64 := by simp [schC]
theorem schC_at (b : Nat → Int) {t : Nat} (h : t < 64) : (schC b)[t]? = some (.int .u32 (schV b t)) := by simp [schC, h]
theorem schC_one (b : Nat → Int) : ∀ v ∈ schC b, v.oneCell' = true := by
  intro v h
  obtain ⟨x, -, rfl⟩ := List.mem_map.1 h
  rfl
theorem schC_get (b : Nat → Int) {t : Nat} {v : Value} (h : (schC b)[t]? = some v) : t < 64 ∧ v = .int .u32 (schV b t) := by
  have : t < (schC b).length := (List.getElem?_eq_some_iff.1 h).1
  rw [schC_len] at this
  rw [schC_at b this] at h
  exact ⟨this, (Option.some.inj h).symm⟩

/-- In the midst of the schedule. -/
def AtS (w wr : World) (b : Nat → Int) (t : Nat) : Prop := ∃ f, Ext w wr ∧ Arr wr w.heap.size 64 .u32 (fun _ => 0) ∧ Arr wr (w.heap.size + 1) 64 .u32 f ∧ ∀ i, i < t → f i = schV b i

set_option maxHeartbeats 6400000 in
set_option maxRecDepth 100000 in
theorem scheduleOf_any (b : Nat → Int) (r : Option Addr) (g off cap : Nat) (w : World) (hb : BSeg w r g off 64 b) (hcap : 64 ≤ cap) (hbig : cap ≤ 9223372036854775807) (hby : ∀ i, i < 64 → 0 ≤ b i ∧ b i < 256) : Calls Try.prog 130 #[.slice r 64 cap] w fun e w' => e = .returned (.agg (schC b).toArray) ∧ Ext w w' := by
  have HT : Hid (∀ (x m : Int) (hm : cntB m = true) (h0 : 0 ≤ x) (h1 : x < 4294967296) (w : World), Calls Try.prog 138 #[.int .u32 x, .int .i64 m] w fun e w' => e = .returned (.int .u32 (turnI x m)) ∧ Ext w w') := turned_int
  obtain rfl := hb.at' (by omega)
  have hg := hb.lt (by omega)
  have Hb := hide hb
  have Hy := hide hby
  clear hb hby
  go_enter Try.func130, Try.ntmps130
  apply wp_seq_k; intro K hK
  refine wp_region ?_
  refine wpOps_step _ rfl (by kernel_rfl) (wp_value (v := .pointer (some ⟨w.heap.size, 0, none⟩)) (w' := w.alloc (.cells (List.replicate 64 (.int .u32 0)).toArray 118)) (by kernel_rfl) ?_)
  show K _ _
  apply hK
  clear hK K
  apply wp_seq_k; intro K hK
  refine wp_region ?_
  refine wpOps_step _ rfl (by kernel_rfl) (wp_value (v := .pointer (some ⟨(w.alloc (.cells (List.replicate 64 (.int .u32 0)).toArray 118)).heap.size, 0, none⟩)) (w' := (w.alloc (.cells (List.replicate 64 (.int .u32 0)).toArray 118)).alloc (.cells (List.replicate 64 (.int .u32 0)).toArray 118)) (by kernel_rfl) ?_)
  show K _ _
  apply hK
  clear hK K
  obtain ⟨V, hV⟩ : ∃ V, (w.alloc (.cells (List.replicate 64 (.int .u32 0)).toArray 118)).alloc (.cells (List.replicate 64 (.int .u32 0)).toArray 118) = V := ⟨_, rfl⟩
  obtain ⟨B1, B2, hE, hz⟩ := box2 w (List.replicate 64 (.int .u32 0)) (List.replicate 64 (.int .u32 0)) 118 118 (hV ▸ Ext.refl _ : Ext _ V)
  rw [hV, World.size_alloc]
  clear hV
  have HA : Hid (AtS w V b 0) := ⟨_, hE, Arr.of_blk B1 (fun i hi => zero_at hi _), Arr.of_blk B2 (fun i hi => zero_at hi _), fun i hi => absurd hi (Nat.not_lt_zero _)⟩
  clear hE B1 B2 hz
  go_wp2
  rename_i K hK
  have HK := hide hK
  clear hK
  go_loopw [7] (fun i wr => ∃ t : Nat, t ≤ 64 ∧ i = .int .i64 t ∧ AtS w wr b t) (fun i _ => 64 - (intOf i).toNat)
  case atStart => exact ⟨0, by omega, rfl, HA.out⟩
  case round =>
    clear HA
    obtain ⟨t, ht, rfl, hat⟩ := hrel
    by_cases hlt : t < 64
    · obtain ⟨f, EW, A2, A3, hf⟩ := hat
      have t64 : (t : Int) < 64 := by omega
      by_cases h16 : t < 16
      · have i16 : (t : Int) < 16 := by omega
        obtain ⟨p, hp⟩ : ∃ p, p = 4 * t := ⟨_, rfl⟩
        have r0 : IntKind.i64.wrap (4 * (t : Int)) = (p : Int) := by rw [IntKind.wrap_i64]; omega
        have r1 : (4 * (t : Int)) = (p : Int) := by omega
        have p64 : (p : Int) ≤ 64 := by omega
        have pc : (p : Int) ≤ cap := by omega
        obtain ⟨d1, d2⟩ := A3 t hlt
        have Hw : Hid (∀ (w' : World), Ext w w' → ∀ cap, Calls Try.prog 65 #[.slice (some ⟨g, off + p, none⟩) (64 - p) cap] w' fun e w'' => e = .returned (.int .u32 (schV b t)) ∧ Ext w' w'') := by
          intro w' he cap
          have hs : BSeg w' (some ⟨g, off + p, none⟩) g (off + p) (64 - p) (fun i => b (p + i)) := ⟨fun _ => rfl, fun i hi => by
            rw [World.cell?_of_block (a := ⟨g, off + p + i, none⟩) (Below.block he g hg), Nat.add_assoc]
            exact Hb.out.cell (p + i) (by omega)⟩
          have := readWord_any _ _ _ _ _ cap w' hs (by omega) (fun i hi => Hy.out _ (by omega))
          rw [schV_low b h16, ← hp]
          exact this
        have HE := hide EW
        have H2 := hide A2
        have H3 := hide A3
        have HF := hide hf
        clear A2 A3 hf hp
        go_wp2_with fail
        refine (Hw.out _ EW _).mono ?_
        rintro e w2 ⟨rfl, h2⟩
        obtain ⟨d1, d2⟩ := (H3.out.ext h2) t hlt
        go_wp2
        go_roundw
        case rel =>
          refine ⟨t + 1, by omega, by go_num, _, (EW.trans h2).set (by omega) t _, (H2.out.ext h2).other (by omega) _ _, (H3.out.ext h2).set hlt _, ?_⟩
          intro i hi
          show (if i = t then _ else _) = _
          by_cases e : i = t
          · rw [if_pos e, e]
          · rw [if_neg e]; exact HF.out i (by omega)
        case measure => simp [intOf]; omega
      · have i16 : ¬ (t : Int) < 16 := by omega
        have ht0 : 16 ≤ t := by omega
        obtain ⟨q15, hq15⟩ : ∃ q, q = t - 15 := ⟨_, rfl⟩
        obtain ⟨x15, hx15⟩ : ∃ x, schV b q15 = x := ⟨_, rfl⟩
        have f15 : f q15 = x15 := by rw [hf q15 (by omega), hx15]
        have r15 : IntKind.i64.wrap ((t : Int) - 15) = (q15 : Int) := by rw [IntKind.wrap_i64]; omega
        have l15 : (q15 : Int) < 64 := by omega
        have m15 : q15 < 64 := by omega
        have c15 := (A3 q15 m15).1
        rw [f15] at c15
        obtain ⟨q2, hq2⟩ : ∃ q, q = t - 2 := ⟨_, rfl⟩
        obtain ⟨x2, hx2⟩ : ∃ x, schV b q2 = x := ⟨_, rfl⟩
        have f2 : f q2 = x2 := by rw [hf q2 (by omega), hx2]
        have r2 : IntKind.i64.wrap ((t : Int) - 2) = (q2 : Int) := by rw [IntKind.wrap_i64]; omega
        have l2 : (q2 : Int) < 64 := by omega
        have m2 : q2 < 64 := by omega
        have c2 := (A3 q2 m2).1
        rw [f2] at c2
        obtain ⟨q7, hq7⟩ : ∃ q, q = t - 7 := ⟨_, rfl⟩
        obtain ⟨x7, hx7⟩ : ∃ x, schV b q7 = x := ⟨_, rfl⟩
        have f7 : f q7 = x7 := by rw [hf q7 (by omega), hx7]
        have r7 : IntKind.i64.wrap ((t : Int) - 7) = (q7 : Int) := by rw [IntKind.wrap_i64]; omega
        have l7 : (q7 : Int) < 64 := by omega
        have m7 : q7 < 64 := by omega
        have c7 := (A3 q7 m7).1
        rw [f7] at c7
        obtain ⟨q16, hq16⟩ : ∃ q, q = t - 16 := ⟨_, rfl⟩
        obtain ⟨x16, hx16⟩ : ∃ x, schV b q16 = x := ⟨_, rfl⟩
        have f16 : f q16 = x16 := by rw [hf q16 (by omega), hx16]
        have r16 : IntKind.i64.wrap ((t : Int) - 16) = (q16 : Int) := by rw [IntKind.wrap_i64]; omega
        have l16 : (q16 : Int) < 64 := by omega
        have m16 : q16 < 64 := by omega
        have c16 := (A3 q16 m16).1
        rw [f16] at c16
        have lo15 : 0 ≤ x15 := by rw [← hx15]; exact schV_lo _ _
        have hi15 : x15 < 4294967296 := by rw [← hx15]; exact schV_hi _ _
        have lo2 : 0 ≤ x2 := by rw [← hx2]; exact schV_lo _ _
        have hi2 : x2 < 4294967296 := by rw [← hx2]; exact schV_hi _ _
        have HV : Hid (IntKind.u32.wrap (IntKind.u32.wrap (IntKind.u32.wrap (x16 + bits .xor .u32 (bits .xor .u32 (turnI x15 7) (turnI x15 18)) (x15 / 8)) + x7) + bits .xor .u32 (bits .xor .u32 (turnI x2 17) (turnI x2 19)) (x2 / 1024)) = schV b t) := by
          refine hide ?_
          rw [schV_high b ht0, ← hq2, ← hq7, ← hq15, ← hq16, hx2, hx7, hx15, hx16, show bits .xor .u32 (bits .xor .u32 (turnI x15 7) (turnI x15 18)) (x15 / 8) = small0 x15 from rfl, show bits .xor .u32 (bits .xor .u32 (turnI x2 17) (turnI x2 19)) (x2 / 1024) = small1 x2 from rfl]
          simp only [IntKind.wrap_u32]
          omega
        have N16 : Hid (¬ q16 = t) := by refine hide ?_; omega
        have N7 : Hid (¬ q7 = t) := by refine hide ?_; omega
        have HE := hide EW
        have H2 := hide A2
        have H3 := hide A3
        have HF := hide hf
        clear A2 A3 hf EW hq2 hq7 hq15 hq16 hx2 hx7 hx15 hx16
        obtain ⟨X, hX⟩ : ∃ X : Nat → Prop, X = fun k => k = w.heap.size + 1 + 1 + wr.heap.size := ⟨_, rfl⟩
        have x0 : ∀ k, k < wr.heap.size → ¬ X k := fun k => by rw [hX]; simp; omega
        clear hX
        have hS : w.heap.size + 1 < wr.heap.size := H3.out.lt (by omega)
        have k15 := cell_reC (X := X) c15 (x0 _ hS)
        have k2 := cell_reC (X := X) c2 (x0 _ hS)
        clear c15 c2 c7 c16
        go_wp2
        refine anyK_begin X 10 rfl (by kernel_rfl) ?_
        refine anyK_take 0 10 0 rfl (by decide) (by kernel_rfl) (fun _ _ d _ _ h => by cases d <;> exact h) ?_
        repeat (refine headC_step (fun K hK => ?_); go_simp; first | (refine hK _ ?_; clear hK K) | (apply Exists.intro; refine ⟨fun _ => ?_, hK _ ?_⟩; (fail); clear hK K))
        refine headC_nil ?_
        clear k15 k2 x0
        refine anyK_done (by kernel_rfl) ?_ 0
        intro w2 h2
        obtain ⟨I, hI⟩ : ∃ I : Inv, I.J = fun w' => ∃ f', Arr w' (w.heap.size + 1) 64 .u32 f' ∧ f' q16 = x16 ∧ f' q7 = x7 := ⟨⟨_, fun a b ⟨f', h1, h2, h3⟩ e => ⟨f', h1.ext e, h2, h3⟩, w2, f, H3.out.ext h2, f16, f7⟩, rfl⟩
        have k16 : ∀ p : ReJ I, p.val.cell? ⟨w.heap.size + 1, q16, none⟩ = some (.int .u32 x16) := fun p => by
          obtain ⟨f', h1, h2, h3⟩ := hI ▸ p.ok
          rw [(h1 q16 m16).1, h2]
        have k7 : ∀ p : ReJ I, p.val.cell? ⟨w.heap.size + 1, q7, none⟩ = some (.int .u32 x7) := fun p => by
          obtain ⟨f', h1, h2, h3⟩ := hI ▸ p.ok
          rw [(h1 q7 m7).1, h3]
        have HI : Hid (∀ w', Ext wr w' → ∀ x, I.J (w'.setCell ⟨w.heap.size + 1, t, none⟩ (.int .u32 x))) := fun w' he x => by
          rw [hI]
          exact ⟨_, (H3.out.ext he).set hlt x, by show (if q16 = t then x else f q16) = x16; rw [if_neg N16.out]; exact f16, by show (if q7 = t then x else f q7) = x7; rw [if_neg N7.out]; exact f7⟩
        have hJ : I.J w2 := by rw [hI]; exact ⟨f, H3.out.ext h2, f16, f7⟩
        clear hI
        go_wp2
        refine anyJ_begin I 30 hJ rfl (by kernel_rfl) ?_
        refine anyJ_take 0 29 1 rfl (by decide) (by kernel_rfl) (fun _ _ d _ _ h => by cases d <;> exact h) ?_
        repeat (refine headJ_step (fun K hK => ?_); go_simp; first | (refine hK _ ?_; clear hK K) | (apply Exists.intro; refine ⟨fun _ => ?_, hK _ ?_⟩; ((go_at_call 138; exact Calls.re_of (HT.out _ _ (by decide) (by assumption) (by assumption) _))); clear hK K))
        refine headJ_nil ?_
        rw [HV.out]
        clear k7 k16 hJ
        refine anyJ_one 29 (by kernel_rfl) ?_
        refine stepJ_run rfl ?_
        intro w3 h3 K2 hK2
        have A3' := H3.out.ext (h2.trans h3)
        obtain ⟨c1, c2⟩ := A3' t hlt
        go_simp
        refine hK2 _ _ (HI.out _ (h2.trans h3) _) ?_
        clear hK2 K2 c1 c2
        refine anyJ_done (by kernel_rfl) ?_ 0
        intro w4 h4
        go_wp2
        go_roundw
        case rel =>
          refine ⟨t + 1, by omega, by go_num, fun i => if i = t then schV b t else f i, (((HE.out.trans h2).trans h3).set (by omega) t _).trans h4, ((H2.out.ext (h2.trans h3)).other (by omega) _ _).ext h4, (A3'.set hlt _).ext h4, ?_⟩
          intro i hi
          show (if i = t then _ else _) = _
          by_cases e : i = t
          · rw [if_pos e, e]
          · rw [if_neg e]; exact HF.out i (by omega)
        case measure => simp [intOf]; omega
    · have e64 : t = 64 := by omega
      subst e64
      have HA := hide hat
      clear hat
      go_wp2
      apply HK.out
      clear HK
      rw [show ((64 : Nat) : Int) = 64 from rfl]
      obtain ⟨f, EW, A2, A3, hf⟩ := HA.out
      clear HA
      have hl := run_load64 (schC b) (schC_len b) (w.heap.size + 1) wr (fun j v h => by
        obtain ⟨hj, rfl⟩ := schC_get b h
        rw [← hf j hj]
        exact (A3 j hj).1)
      apply wp_seq_k; intro K hK
      refine wp_region ?_
      refine wpOps_step _ rfl (by kernel_rfl) (wp_value (v := .agg (schC b).toArray) (w' := wr) ?_ ?_)
      · exact exec_load hl
      refine wpOps_step _ rfl (by kernel_rfl) (wp_skip (w' := putL w.heap.size 0 (schC b) wr) ?_ ?_)
      · show ((do Instr.storeAt 118 (.pointer (some ⟨w.heap.size, 0, none⟩)) (.agg (schC b).toArray); pure .skip : Sem Next)).run Try.prog wr = _
        rw [Sem.run_bind, run_store64 (schC b) (schC_len b) (schC_one b) _ wr (fun j hj => by rw [(A2 j hj).1]; rfl) (fun j hj => (A2 j hj).2)]
        rfl
      show K _ _
      apply hK
      clear hK K
      have B0 : Blk wr w.heap.size (List.replicate 64 (.int .u32 0)) := fun i v h => by
        rw [List.getElem?_replicate] at h
        split at h
        · cases h; exact A2 i (by assumption)
        · cases h
      have B' := B0.put (schC b) (by rw [schC_len]; rfl)
      have hE' := EW.putL (Nat.le_refl _) (schC b)
      generalize putL w.heap.size 0 (schC b) wr = W at *
      refine wp_ret ?_
      refine bodyPost_ret (v := .agg (schC b).toArray) ?_ rfl ⟨rfl, hE'⟩
      have hl2 := run_load64 (schC b) (schC_len b) w.heap.size W (fun j v h => (B' j v h).1)
      exact results_cell Try.results130 rfl hl2

end Go.Proofs.Ytjkojofpkeglpab
