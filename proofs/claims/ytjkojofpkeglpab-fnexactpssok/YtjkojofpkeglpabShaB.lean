/- Walks: the model's l5Block. -/
import Derived.Test.YtjkojofpkeglpabShaA
import Derived.Test.YtjkojofpkeglpabStepsJ
import Derived.StillTailTactics
namespace Go.Proofs.Ytjkojofpkeglpab
set_option linter.unusedVariables false
set_option linter.unusedSimpArgs false
open Go.RowKit

theorem l5Turn_int (x m : Int) (h0 : 0 ≤ m) (h1 : m ≤ 32) (w : World) : Calls Try.prog 128 #[.int .u32 x, .int .i64 m] w fun e w' => e = .returned (.int .u32 (turnI x m)) ∧ Ext w w' := by
  have := l5Turn_any x m.toNat (by omega) w
  rwa [Int.toNat_of_nonneg h0] at this

/-- In the midst of a block: its state, its answer's place, the schedule so far. -/
def AtW (w wr : World) (h b : Nat → Int) (t : Nat) : Prop := ∃ f, Ext w wr ∧ Arr wr w.heap.size 8 .i64 h ∧ Arr wr (w.heap.size + 1) 8 .i64 (fun _ => 0) ∧ Arr wr (w.heap.size + 1 + 1) 64 .u32 f ∧ ∀ i, i < t → f i = schV b i
theorem AtW.ext {w wr wr' : World} {h b : Nat → Int} {t : Nat} (k : AtW w wr h b t) (e : Ext wr wr') : AtW w wr' h b t := by
  obtain ⟨f, a, c, d, g, i⟩ := k
  exact ⟨f, a.trans e, c.ext e, d.ext e, g.ext e, i⟩
theorem AtW.other {w wr : World} {h b : Nat → Int} {t C : Nat} (k : AtW w wr h b t) (hC : w.heap.size + 1 + 1 < C) (j : Nat) (v : Value) : AtW w (wr.setCell ⟨C, j, none⟩ v) h b t := by
  obtain ⟨f, a, c, d, g, i⟩ := k
  exact ⟨f, a.set (by omega) j v, c.other (by omega) j v, d.other (by omega) j v, g.other (by omega) j v, i⟩
/-- In the midst of the rounds. -/
def AtV (w wr : World) (h b : Nat → Int) (SK SV : Nat) (v : Nat → Int) : Prop := AtW w wr h b 64 ∧ Arr wr SK 64 .u32 keyV ∧ Arr wr SV 8 .u32 v
theorem AtV.ext {w wr wr' : World} {h b v : Nat → Int} {SK SV : Nat} (k : AtV w wr h b SK SV v) (e : Ext wr wr') : AtV w wr' h b SK SV v := ⟨k.1.ext e, k.2.1.ext e, k.2.2.ext e⟩
theorem AtV.set {w wr : World} {h b v : Nat → Int} {SK SV t : Nat} (k : AtV w wr h b SK SV v) (ht : t < 8) (h1 : w.heap.size + 1 + 1 < SK) (h2 : SK < SV) (x : Int) : AtV w (wr.setCell ⟨SV, t, none⟩ (.int .u32 x)) h b SK SV (fun i => if i = t then x else v i) :=
  ⟨k.1.other (by omega) t _, k.2.1.other (by omega) t _, k.2.2.set ht x⟩

theorem AtW.putL {w wr : World} {h b : Nat → Int} {t C : Nat} (k : AtW w wr h b t) (hC : w.heap.size + 1 + 1 < C) (vs : List Value) : AtW w (putL C 0 vs wr) h b t := by
  obtain ⟨f, a, c, d, g, i⟩ := k
  exact ⟨f, Ext.putL a (by omega) vs, c.putL_other (by omega) vs, d.putL_other (by omega) vs, g.putL_other (by omega) vs, i⟩
theorem AtV.put {w wr : World} {h b v : Nat → Int} {SK SV : Nat} (k : AtV w wr h b SK SV v) (h1 : w.heap.size + 1 + 1 < SK) (h2 : SK < SV) (v' : Nat → Int) {x0 x1 x2 x3 x4 x5 x6 x7 : Int} (e0 : v' 0 = x0) (e1 : v' 1 = x1) (e2 : v' 2 = x2) (e3 : v' 3 = x3) (e4 : v' 4 = x4) (e5 : v' 5 = x5) (e6 : v' 6 = x6) (e7 : v' 7 = x7) :
    AtV w ((((((((wr.setCell ⟨SV, 0, none⟩ (.int .u32 x0)).setCell ⟨SV, 1, none⟩ (.int .u32 x1)).setCell ⟨SV, 2, none⟩ (.int .u32 x2)).setCell ⟨SV, 3, none⟩ (.int .u32 x3)).setCell ⟨SV, 4, none⟩ (.int .u32 x4)).setCell ⟨SV, 5, none⟩ (.int .u32 x5)).setCell ⟨SV, 6, none⟩ (.int .u32 x6)).setCell ⟨SV, 7, none⟩ (.int .u32 x7)) h b SK SV v' := by
  subst e0 e1 e2 e3 e4 e5 e6 e7
  show AtV w (Go.Proofs.Ytjkojofpkeglpab.putL SV 0 [.int .u32 (v' 0), .int .u32 (v' 1), .int .u32 (v' 2), .int .u32 (v' 3), .int .u32 (v' 4), .int .u32 (v' 5), .int .u32 (v' 6), .int .u32 (v' 7)] wr) h b SK SV v'
  exact ⟨k.1.putL (by omega) _, k.2.1.putL_other (by omega) _, Arr.of_blk8 (k.2.2.blk8.put _ rfl)⟩

theorem roundV_congr8 {v v' : Nat → Int} (m : Int) (h : ∀ i, i < 8 → v i = v' i) : ∀ i, i < 8 → roundV v m i = roundV v' m i := by
  have h1 : t1V v m = t1V v' m := by unfold t1V; rw [h 7 (by omega), h 4 (by omega), h 5 (by omega), h 6 (by omega)]
  have h2 : t2V v = t2V v' := by unfold t2V; rw [h 0 (by omega), h 1 (by omega), h 2 (by omega)]
  intro i hi
  have : i = 0 ∨ i = 1 ∨ i = 2 ∨ i = 3 ∨ i = 4 ∨ i = 5 ∨ i = 6 ∨ i = 7 := by omega
  rcases this with rfl | rfl | rfl | rfl | rfl | rfl | rfl | rfl
  · simp only [roundV, h1, h2]
  · exact h 0 (by omega)
  · exact h 1 (by omega)
  · exact h 2 (by omega)
  · simp only [roundV, h1, h 3 (by omega)]
  · exact h 4 (by omega)
  · exact h 5 (by omega)
  · exact h 6 (by omega)

/-- A value of eight numbers is read as a whole. -/
theorem run_loadI8 (cs : List Value) (hl : cs.length = 8) (b : Nat) (w : World) (hc : ∀ j v, cs[j]? = some v → w.cell? ⟨b, j, none⟩ = some v) :
    (loadVar 60 ⟨b, 0, none⟩).run Try.prog w = .ok (.agg cs.toArray) w := by
  have hs : (Go.sizeOf 60).run Try.prog w = .ok 8 w := by kernel_rfl
  have ha : (isAgg 60).run Try.prog w = .ok true w := by kernel_rfl
  have hld := run_loadCells_list (P := Try.prog) w ⟨b, 0, none⟩ cs (fun j v h => by
    have := hc j v h
    rwa [show (⟨b, 0, none⟩ : Addr).add j = ⟨b, j, none⟩ by unfold Addr.add; split <;> simp_all])
  rw [hl] at hld
  simp only [loadVar, Sem.run_bind, ha, Result.andThen_ok, if_true, hs, hld, Sem.run_pure]

set_option maxHeartbeats 6400000 in
set_option maxRecDepth 100000 in
theorem l5Block_any (h b : Nat → Int) (r : Option Addr) (g off cap : Nat) (w : World) (hb : BSeg w r g off 64 b) (hby : ∀ i, i < 64 → 0 ≤ b i ∧ b i < 256) : Calls Try.prog 112 #[.agg #[.int .i64 (h 0), .int .i64 (h 1), .int .i64 (h 2), .int .i64 (h 3), .int .i64 (h 4), .int .i64 (h 5), .int .i64 (h 6), .int .i64 (h 7)], .slice r 64 cap] w fun e w' => e = .returned (.agg #[.int .i64 (blockV h b 0), .int .i64 (blockV h b 1), .int .i64 (blockV h b 2), .int .i64 (blockV h b 3), .int .i64 (blockV h b 4), .int .i64 (blockV h b 5), .int .i64 (blockV h b 6), .int .i64 (blockV h b 7)]) ∧ Ext w w' := by
  obtain ⟨R, hR⟩ : ∃ R : Ending → World → Prop, R = fun e w' => e = .returned (.agg #[.int .i64 (blockV h b 0), .int .i64 (blockV h b 1), .int .i64 (blockV h b 2), .int .i64 (blockV h b 3), .int .i64 (blockV h b 4), .int .i64 (blockV h b 5), .int .i64 (blockV h b 6), .int .i64 (blockV h b 7)]) ∧ Ext w w' := ⟨_, rfl⟩
  rw [← hR]
  have HR := hide hR
  clear hR
  have hg := hb.lt (by omega)
  obtain rfl := hb.at' (by omega)
  go_enter Try.func112, Try.ntmps112
  apply wp_seq_k; intro K hK
  refine wp_region ?_
  refine wpOps_step _ rfl (by kernel_rfl) (wp_value (v := .pointer (some ⟨w.heap.size, 0, none⟩)) (w' := w.alloc (.cells [.int .i64 (h 0), .int .i64 (h 1), .int .i64 (h 2), .int .i64 (h 3), .int .i64 (h 4), .int .i64 (h 5), .int .i64 (h 6), .int .i64 (h 7)].toArray 60)) (by kernel_rfl) ?_)
  have B1 := Blk.alloc w [.int .i64 (h 0), .int .i64 (h 1), .int .i64 (h 2), .int .i64 (h 3), .int .i64 (h 4), .int .i64 (h 5), .int .i64 (h 6), .int .i64 (h 7)] 60
  have E1 := Ext.alloc w (.cells [.int .i64 (h 0), .int .i64 (h 1), .int .i64 (h 2), .int .i64 (h 3), .int .i64 (h 4), .int .i64 (h 5), .int .i64 (h 6), .int .i64 (h 7)].toArray 60)
  have S1 : (w.alloc (.cells [.int .i64 (h 0), .int .i64 (h 1), .int .i64 (h 2), .int .i64 (h 3), .int .i64 (h 4), .int .i64 (h 5), .int .i64 (h 6), .int .i64 (h 7)].toArray 60)).heap.size = w.heap.size + 1 := World.size_alloc _ _
  generalize w.alloc (.cells [.int .i64 (h 0), .int .i64 (h 1), .int .i64 (h 2), .int .i64 (h 3), .int .i64 (h 4), .int .i64 (h 5), .int .i64 (h 6), .int .i64 (h 7)].toArray 60) = V1 at *
  refine wpOps_step _ rfl (by kernel_rfl) (wp_value (v := .pointer (some ⟨V1.heap.size, 0, none⟩)) (w' := V1.alloc (.cells (List.replicate 8 (.int .i64 0)).toArray 60)) (by kernel_rfl) ?_)
  have B2 := Blk.alloc V1 (List.replicate 8 (.int .i64 0)) 60
  have E2 := Ext.alloc V1 (.cells (List.replicate 8 (.int .i64 0)).toArray 60)
  have S2 : (V1.alloc (.cells (List.replicate 8 (.int .i64 0)).toArray 60)).heap.size = V1.heap.size + 1 := World.size_alloc _ _
  generalize V1.alloc (.cells (List.replicate 8 (.int .i64 0)).toArray 60) = V2 at *
  show K _ _
  apply hK
  clear hK K
  apply wp_seq_k; intro K hK
  refine wp_region ?_
  refine wpOps_step _ rfl (by kernel_rfl) (wp_value (v := .agg (List.replicate 64 (.int .u32 0)).toArray) (w' := V2) (by kernel_rfl) ?_)
  refine wpOps_step _ rfl (by kernel_rfl) (wp_value (v := .pointer (some ⟨V2.heap.size, 0, none⟩)) (w' := V2.alloc (.cells (List.replicate 64 (.int .u32 0)).toArray 118)) (by kernel_rfl) ?_)
  have B3 := Blk.alloc V2 (List.replicate 64 (.int .u32 0)) 118
  have E3 := Ext.alloc V2 (.cells (List.replicate 64 (.int .u32 0)).toArray 118)
  have S3 : (V2.alloc (.cells (List.replicate 64 (.int .u32 0)).toArray 118)).heap.size = V2.heap.size + 1 := World.size_alloc _ _
  generalize V2.alloc (.cells (List.replicate 64 (.int .u32 0)).toArray 118) = V3 at *
  refine wpOps_step _ rfl (by kernel_rfl) (wp_skip (w' := putL V2.heap.size 0 (List.replicate 64 (.int .u32 0)) V3) ?_ ?_)
  · show ((do Instr.storeAt 118 (.pointer (some ⟨V2.heap.size, 0, none⟩)) (.agg (List.replicate 64 (.int .u32 0)).toArray); pure .skip : Sem Next)).run Try.prog V3 = _
    rw [Sem.run_bind, run_store64 (List.replicate 64 (.int .u32 0)) (List.length_replicate ..) (zero_one 64) _ V3 (fun j hj => by rw [(B3 j _ (zero_at hj _)).1]; rfl) (fun j hj => (B3 j _ (zero_at hj _)).2)]
    rfl
  show K _ _
  apply hK
  clear hK K
  have A3 : Arr (putL V2.heap.size 0 (List.replicate 64 (.int .u32 0)) V3) V2.heap.size 64 .u32 (fun _ => 0) := Arr.of_blk (B3.put _ rfl) (fun i hi => zero_at hi _)
  have E4 : Ext V2 (putL V2.heap.size 0 (List.replicate 64 (.int .u32 0)) V3) := E3.putL (Nat.le_refl _) _
  have S4 : (putL V2.heap.size 0 (List.replicate 64 (.int .u32 0)) V3).heap.size = V3.heap.size := size_putL _ _ _ _
  generalize putL V2.heap.size 0 (List.replicate 64 (.int .u32 0)) V3 = V4 at *
  have A1 : Arr V4 w.heap.size 8 .i64 h := Arr.ext (Arr.ext (Arr.of_blk B1 (fun i hi => by
    have : i = 0 ∨ i = 1 ∨ i = 2 ∨ i = 3 ∨ i = 4 ∨ i = 5 ∨ i = 6 ∨ i = 7 := by omega
    rcases this with rfl | rfl | rfl | rfl | rfl | rfl | rfl | rfl <;> rfl)) E2) E4
  have A2 : Arr V4 V1.heap.size 8 .i64 (fun _ => 0) := Arr.ext (Arr.of_blk B2 (fun i hi => zero_at hi _)) E4
  have EW : Ext w V4 := (E1.trans E2).trans E4
  clear B1 B2 B3 E1 E2 E3 E4
  have hb4 : BSeg V4 (some ⟨g, off, none⟩) g off 64 b := ⟨fun _ => rfl, fun i hi => by
    rw [World.cell?_of_block (a := ⟨g, off + i, none⟩) (Below.block EW g hg)]; exact hb.cell i hi⟩
  rw [S1] at *
  rw [S2] at *
  rw [S3] at S4
  clear S1 S2 S3
  have HA : Hid (AtW w V4 h b 0) := ⟨_, EW, A1, A2, A3, fun i hi => absurd hi (Nat.not_lt_zero _)⟩
  have Hb := hide hb
  have Hy := hide hby
  clear A1 A2 A3 hb4 EW S4 hb hby
  have T7 : Hid (∀ (x : Int) (w : World), Calls Try.prog 128 #[.int .u32 x, .int .i64 7] w fun e w' => e = .returned (.int .u32 (turnV x 7)) ∧ Ext w w') := fun x w => l5Turn_any x 7 (by omega) w
  have T18 : Hid (∀ (x : Int) (w : World), Calls Try.prog 128 #[.int .u32 x, .int .i64 18] w fun e w' => e = .returned (.int .u32 (turnV x 18)) ∧ Ext w w') := fun x w => l5Turn_any x 18 (by omega) w
  have T17 : Hid (∀ (x : Int) (w : World), Calls Try.prog 128 #[.int .u32 x, .int .i64 17] w fun e w' => e = .returned (.int .u32 (turnV x 17)) ∧ Ext w w') := fun x w => l5Turn_any x 17 (by omega) w
  have T19 : Hid (∀ (x : Int) (w : World), Calls Try.prog 128 #[.int .u32 x, .int .i64 19] w fun e w' => e = .returned (.int .u32 (turnV x 19)) ∧ Ext w w') := fun x w => l5Turn_any x 19 (by omega) w
  have T6 : Hid (∀ (x : Int) (w : World), Calls Try.prog 128 #[.int .u32 x, .int .i64 6] w fun e w' => e = .returned (.int .u32 (turnV x 6)) ∧ Ext w w') := fun x w => l5Turn_any x 6 (by omega) w
  have T11 : Hid (∀ (x : Int) (w : World), Calls Try.prog 128 #[.int .u32 x, .int .i64 11] w fun e w' => e = .returned (.int .u32 (turnV x 11)) ∧ Ext w w') := fun x w => l5Turn_any x 11 (by omega) w
  have T25 : Hid (∀ (x : Int) (w : World), Calls Try.prog 128 #[.int .u32 x, .int .i64 25] w fun e w' => e = .returned (.int .u32 (turnV x 25)) ∧ Ext w w') := fun x w => l5Turn_any x 25 (by omega) w
  have T2 : Hid (∀ (x : Int) (w : World), Calls Try.prog 128 #[.int .u32 x, .int .i64 2] w fun e w' => e = .returned (.int .u32 (turnV x 2)) ∧ Ext w w') := fun x w => l5Turn_any x 2 (by omega) w
  have T13 : Hid (∀ (x : Int) (w : World), Calls Try.prog 128 #[.int .u32 x, .int .i64 13] w fun e w' => e = .returned (.int .u32 (turnV x 13)) ∧ Ext w w') := fun x w => l5Turn_any x 13 (by omega) w
  have T22 : Hid (∀ (x : Int) (w : World), Calls Try.prog 128 #[.int .u32 x, .int .i64 22] w fun e w' => e = .returned (.int .u32 (turnV x 22)) ∧ Ext w w') := fun x w => l5Turn_any x 22 (by omega) w
  generalize Value.agg (List.replicate 64 (.int .u32 0)).toArray = Z
  go_wp2
  rename_i K hK
  have HK := hide hK
  clear hK
  go_loopw [6] (fun i wr => ∃ t : Nat, t ≤ 16 ∧ i = .int .i64 t ∧ AtW w wr h b t) (fun i _ => 16 - (intOf i).toNat)
  case atStart => exact ⟨0, by omega, rfl, HA.out⟩
  case round =>
    obtain ⟨t, ht, rfl, hat⟩ := hrel
    by_cases hlt : t < 16
    · obtain ⟨f, EW, A1, A2, A3, hf⟩ := hat
      skip
      obtain ⟨X, hX⟩ : ∃ X : Nat → Prop, X = fun k => k = w.heap.size + 1 + 1 := ⟨_, rfl⟩
      have x0 : ¬ X g := by rw [hX]; simp; omega
      have xC : X (w.heap.size + 1 + 1) := by rw [hX]
      clear hX
      have cb : ∀ i, i < 64 → wr.cell? ⟨g, off + i, none⟩ = some (.int .u8 (b i)) := fun i hi => by
        rw [World.cell?_of_block (a := ⟨g, off + i, none⟩) (Below.block EW g hg)]; exact Hb.out.cell i hi
      obtain ⟨p0, hp0⟩ : ∃ p, p = 4 * t := ⟨_, rfl⟩
      obtain ⟨p1, hp1⟩ : ∃ p, p = 4 * t + 1 := ⟨_, rfl⟩
      obtain ⟨p2, hp2⟩ : ∃ p, p = 4 * t + 2 := ⟨_, rfl⟩
      obtain ⟨p3, hp3⟩ : ∃ p, p = 4 * t + 3 := ⟨_, rfl⟩
      have k0 := cell_reC (X := X) (cb p0 (by omega)) x0
      obtain ⟨y0, hy0⟩ : ∃ y, b p0 = y := ⟨_, rfl⟩
      rw [hy0] at k0
      have v0 : IntKind.u32.wrap y0 = y0 := by have := Hy.out p0 (by omega); rw [IntKind.wrap_u32]; omega
      have l0 : (p0 : Int) < 64 := by omega
      have m0 : p0 < 64 := by omega
      have k1 := cell_reC (X := X) (cb p1 (by omega)) x0
      obtain ⟨y1, hy1⟩ : ∃ y, b p1 = y := ⟨_, rfl⟩
      rw [hy1] at k1
      have v1 : IntKind.u32.wrap y1 = y1 := by have := Hy.out p1 (by omega); rw [IntKind.wrap_u32]; omega
      have l1 : (p1 : Int) < 64 := by omega
      have m1 : p1 < 64 := by omega
      have k2 := cell_reC (X := X) (cb p2 (by omega)) x0
      obtain ⟨y2, hy2⟩ : ∃ y, b p2 = y := ⟨_, rfl⟩
      rw [hy2] at k2
      have v2 : IntKind.u32.wrap y2 = y2 := by have := Hy.out p2 (by omega); rw [IntKind.wrap_u32]; omega
      have l2 : (p2 : Int) < 64 := by omega
      have m2 : p2 < 64 := by omega
      have k3 := cell_reC (X := X) (cb p3 (by omega)) x0
      obtain ⟨y3, hy3⟩ : ∃ y, b p3 = y := ⟨_, rfl⟩
      rw [hy3] at k3
      have v3 : IntKind.u32.wrap y3 = y3 := by have := Hy.out p3 (by omega); rw [IntKind.wrap_u32]; omega
      have l3 : (p3 : Int) < 64 := by omega
      have m3 : p3 < 64 := by omega
      have r0 : IntKind.i64.wrap (4 * (t : Int)) = (p0 : Int) := by rw [IntKind.wrap_i64]; omega
      have r1 : IntKind.i64.wrap ((p0 : Int) + 1) = (p1 : Int) := by rw [IntKind.wrap_i64]; omega
      have r2 : IntKind.i64.wrap ((p0 : Int) + 2) = (p2 : Int) := by rw [IntKind.wrap_i64]; omega
      have r3 : IntKind.i64.wrap ((p0 : Int) + 3) = (p3 : Int) := by rw [IntKind.wrap_i64]; omega
      have t64 : (t : Int) < 64 := by omega
      have t64' : t < 64 := by omega
      obtain ⟨z0, hz0⟩ : ∃ z, IntKind.u32.wrap (y0 * 16777216) = z := ⟨_, rfl⟩
      obtain ⟨z1, hz1⟩ : ∃ z, IntKind.u32.wrap (y1 * 65536) = z := ⟨_, rfl⟩
      obtain ⟨z2, hz2⟩ : ∃ z, IntKind.u32.wrap (y2 * 256) = z := ⟨_, rfl⟩
      have HV : Hid (bits .or .u32 (bits .or .u32 (bits .or .u32 z0 z1) z2) y3 = schV b t) := by
        refine hide ?_
        rw [schV_low b hlt]; unfold wordV; rw [← hp0, show p0 + 1 = p1 by omega, show p0 + 2 = p2 by omega, show p0 + 3 = p3 by omega, hy0, hy1, hy2, hy3, ← hz0, ← hz1, ← hz2, IntKind.wrap_u32, IntKind.wrap_u32, IntKind.wrap_u32]; rfl
      clear hp0 hp1 hp2 hp3 hy0 hy1 hy2 hy3
      clear cb
      have HE := hide EW
      have H1 := hide A1
      have H2 := hide A2
      have H3 := hide A3
      have HF := hide hf
      clear EW A1 A2 A3 hf x0
      go_wp2
      refine anyK_begin X 36 rfl (by kernel_rfl) ?_
      refine anyK_take 0 35 1 rfl (by decide) (by kernel_rfl) (fun _ _ d _ _ h => by cases d <;> exact h) ?_
      repeat (refine headC_step (fun K hK => ?_); go_simp; first | (refine hK _ ?_; clear hK K) | (apply Exists.intro; refine ⟨fun _ => ?_, hK _ ?_⟩; (fail); clear hK K))
      refine headC_nil ?_

      clear k0 k1 k2 k3 v0 v1 v2 v3 l0 l1 l2 l3 m0 m1 m2 m3 r0 r1 r2 r3 hz0 hz1 hz2
      refine anyK_one 35 (by kernel_rfl) ?_
      refine stepK_run rfl ?_
      intro w2 h2 K2 hK2
      have A3' := H3.out.ext h2
      obtain ⟨c1, c2⟩ := A3' t t64'
      rw [HV.out]
      go_simp
      refine hK2 _ _ ((Grw.of_ext h2).trans (Grw.of_touch ((Touch.refl _ w2).set t _) xC)) ?_
      clear hK2 K2 c1 c2
      refine anyK_done (by kernel_rfl) ?_ 0
      intro w3 h3
      go_wp2
      go_roundw
      case rel =>
        refine ⟨t + 1, by omega, by go_num, fun i => if i = t then schV b t else f i, ?_, ?_, ?_, ?_, ?_⟩
        · exact ((HE.out.trans h2).set (by omega) t _).trans h3
        · exact ((H1.out.ext h2).other (by omega) _ _).ext h3
        · exact ((H2.out.ext h2).other (by omega) _ _).ext h3
        · exact (A3'.set t64' _).ext h3
        · intro i hi
          show (if i = t then _ else _) = _
          by_cases e : i = t
          · rw [if_pos e, e]
          · rw [if_neg e]; exact HF.out i (by omega)
      case measure => simp [intOf]; omega
    · have e16 : t = 16 := by omega
      subst e16
      have HA2 := hide hat
      clear hat
      go_wp2
      apply HK.out
      clear HK HA
      rw [show ((16 : Nat) : Int) = 16 from rfl]
      go_wp2
      rename_i K hK
      have HK := hide hK
      clear hK
      go_loopw [7] (fun i wr => ∃ t : Nat, 16 ≤ t ∧ t ≤ 64 ∧ i = .int .i64 t ∧ AtW w wr h b t) (fun i _ => 64 - (intOf i).toNat)
      case atStart => exact ⟨16, by omega, by omega, rfl, HA2.out⟩
      case round =>
        obtain ⟨t, ht0, ht, rfl, hat⟩ := hrel
        by_cases hlt : t < 64
        · obtain ⟨f, EW, A1, A2, A3, hf⟩ := hat
          obtain ⟨q15, hq15⟩ : ∃ q, q = t - 15 := ⟨_, rfl⟩
          obtain ⟨x15, hx15⟩ : ∃ x, schV b q15 = x := ⟨_, rfl⟩
          have f15 : f q15 = x15 := by rw [hf q15 (by omega), hx15]
          have r15 : IntKind.i64.wrap ((t : Int) - 15) = (q15 : Int) := by rw [IntKind.wrap_i64]; omega
          have l15 : (q15 : Int) < 64 := by omega
          have m15 : q15 < 64 := by omega
          have c15 := (A3 q15 m15).1
          rw [f15] at c15
          obtain ⟨q2, hq2⟩ : ∃ q, q = t - 2 := ⟨_, rfl⟩
          obtain ⟨x2, hx2⟩ : ∃ x, schV b q2 = x := ⟨_, rfl⟩
          have f2 : f q2 = x2 := by rw [hf q2 (by omega), hx2]
          have r2 : IntKind.i64.wrap ((t : Int) - 2) = (q2 : Int) := by rw [IntKind.wrap_i64]; omega
          have l2 : (q2 : Int) < 64 := by omega
          have m2 : q2 < 64 := by omega
          have c2 := (A3 q2 m2).1
          rw [f2] at c2
          obtain ⟨q7, hq7⟩ : ∃ q, q = t - 7 := ⟨_, rfl⟩
          obtain ⟨x7, hx7⟩ : ∃ x, schV b q7 = x := ⟨_, rfl⟩
          have f7 : f q7 = x7 := by rw [hf q7 (by omega), hx7]
          have r7 : IntKind.i64.wrap ((t : Int) - 7) = (q7 : Int) := by rw [IntKind.wrap_i64]; omega
          have l7 : (q7 : Int) < 64 := by omega
          have m7 : q7 < 64 := by omega
          have c7 := (A3 q7 m7).1
          rw [f7] at c7
          obtain ⟨q16, hq16⟩ : ∃ q, q = t - 16 := ⟨_, rfl⟩
          obtain ⟨x16, hx16⟩ : ∃ x, schV b q16 = x := ⟨_, rfl⟩
          have f16 : f q16 = x16 := by rw [hf q16 (by omega), hx16]
          have r16 : IntKind.i64.wrap ((t : Int) - 16) = (q16 : Int) := by rw [IntKind.wrap_i64]; omega
          have l16 : (q16 : Int) < 64 := by omega
          have m16 : q16 < 64 := by omega
          have c16 := (A3 q16 m16).1
          rw [f16] at c16
          have HV : Hid (schV b t = (small1 x2 + x7 + small0 x15 + x16) % 4294967296) := by
            refine hide ?_
            rw [schV_high b ht0, ← hq2, ← hq7, ← hq15, ← hq16, hx2, hx7, hx15, hx16]
          have HE := hide EW
          have H1 := hide A1
          have H2 := hide A2
          have H3 := hide A3
          have HF := hide hf
          clear EW A1 A2 A3 hf hq2 hq7 hq15 hq16 hx2 hx7 hx15 hx16
          obtain ⟨X, hX⟩ : ∃ X : Nat → Prop, X = fun _ => False := ⟨_, rfl⟩
          have x0 : ∀ k, ¬ X k := fun k => by rw [hX]; exact fun e => e
          clear hX
          have k15 := cell_reC (X := X) c15 (x0 _)
          have k2 := cell_reC (X := X) c2 (x0 _)
          clear c15 c2 c7 c16
          go_wp2
          refine anyK_begin X 10 rfl (by kernel_rfl) ?_
          refine anyK_take 0 10 0 rfl (by decide) (by kernel_rfl) (fun _ _ d _ _ h => by cases d <;> exact h) ?_
          repeat (refine headC_step (fun K hK => ?_); go_simp; first | (refine hK _ ?_; clear hK K) | (apply Exists.intro; refine ⟨fun _ => ?_, hK _ ?_⟩; (fail); clear hK K))
          refine headC_nil ?_

          clear k15 k2
          refine anyK_done (by kernel_rfl) ?_ 0
          intro w2 h2
          go_wp2_with fail
          refine (T7.out _ _).mono ?_
          rintro e w3 ⟨rfl, h3⟩
          replace h3 := h2.trans h3
          go_wp2_with fail
          refine (T18.out _ _).mono ?_
          rintro e w4 ⟨rfl, h4⟩
          replace h4 := h3.trans h4
          go_wp2_with fail
          refine (T17.out _ _).mono ?_
          rintro e w5 ⟨rfl, h5⟩
          replace h5 := h4.trans h5
          go_wp2_with fail
          refine (T19.out _ _).mono ?_
          rintro e w6 ⟨rfl, h6⟩
          replace h6 := h5.trans h6
          clear h2 h3 h4 h5
          have c7 := ((H3.out.ext h6) q7 m7).1
          have c16 := ((H3.out.ext h6) q16 m16).1
          rw [f7] at c7
          rw [f16] at c16
          obtain ⟨d1, d2⟩ := (H3.out.ext h6) t hlt
          have t64 : (t : Int) < 64 := by omega
          go_wp2
          obtain ⟨a0, ha0⟩ : ∃ a, small0 x15 = a := ⟨_, rfl⟩
          obtain ⟨a1, ha1⟩ : ∃ a, small1 x2 = a := ⟨_, rfl⟩
          rw [show bits .xor .u32 (bits .xor .u32 (turnV x15 7) (turnV x15 18)) (x15 / 8) = a0 from ha0, show bits .xor .u32 (bits .xor .u32 (turnV x2 17) (turnV x2 19)) (x2 / 1024) = a1 from ha1]
          go_still_tail 15, (by kernel_rfl)
          go_wp2
          have h7 : Ext wr { w6 with drawn := w6.drawn + 1 } := h6.trans ⟨rfl, rfl, rfl, Nat.le_refl _, fun _ _ => rfl⟩
          go_roundw
          case rel =>
            refine ⟨t + 1, by omega, by omega, by go_num, _, (HE.out.trans h7).set (by omega) t _, (H1.out.ext h7).other (by omega) _ _, (H2.out.ext h7).other (by omega) _ _, (H3.out.ext h7).set hlt _, ?_⟩
            intro i hi
            show (if i = t then _ else _) = _
            by_cases e : i = t
            · rw [if_pos e, e, HV.out, ha0, ha1]
            · rw [if_neg e]; exact HF.out i (by omega)
          case measure => simp [intOf]; omega
        · have e64 : t = 64 := by omega
          subst e64
          have HA3 := hide hat
          clear hat HA2
          go_wp2
          apply HK.out
          clear HK
          rw [show ((64 : Nat) : Int) = 64 from rfl]
          go_wp2_with fail
          refine (l5Keys_any _).mono ?_
          rintro e w2 ⟨rfl, h2⟩
          rename_i hKK
          apply hKK
          clear hKK
          refine wpList_step (by kernel_rfl) (wp_value (v := .pointer (some ⟨w2.heap.size, 0, none⟩)) (w' := w2.alloc (.cells (List.replicate 64 (.int .u32 0)).toArray 118)) (by kernel_rfl) ?_)
          have B3 := Blk.alloc w2 (List.replicate 64 (.int .u32 0)) 118
          have E3 := Ext.alloc w2 (.cells (List.replicate 64 (.int .u32 0)).toArray 118)
          generalize w2.alloc (.cells (List.replicate 64 (.int .u32 0)).toArray 118) = w3 at *
          refine wpList_step (by kernel_rfl) (wp_skip (w' := putL w2.heap.size 0 keyC w3) ?_ ?_)
          · show ((do Instr.storeAt 118 (.pointer (some ⟨w2.heap.size, 0, none⟩)) (.agg keyC.toArray); pure .skip : Sem Next)).run Try.prog w3 = _
            rw [Sem.run_bind, run_store64 keyC (by decide +kernel) keyC_one _ w3 (fun j hj => by rw [(B3 j _ (zero_at hj _)).1]; rfl) (fun j hj => (B3 j _ (zero_at hj _)).2)]
            rfl
          have A4 : Hid (Arr (putL w2.heap.size 0 keyC w3) w2.heap.size 64 .u32 keyV) := Arr.of_blk (B3.put keyC (by decide +kernel)) (fun i hi => keyC_at i hi)
          have E4 : Ext w2 (putL w2.heap.size 0 keyC w3) := E3.putL (Nat.le_refl _) keyC
          generalize putL w2.heap.size 0 keyC w3 = w4 at *
          have hKB : w.heap.size + 1 + 1 < w2.heap.size := by
            obtain ⟨f, a, c, d, e, k⟩ := HA3.out
            have := Below.size h2
            have := e.lt (by omega)
            omega
          replace HA3 : Hid (AtW w w4 h b 64) := by
            obtain ⟨f, a, c, d, e, k⟩ := HA3.out
            have h4 := h2.trans E4
            exact hide ⟨f, a.trans h4, c.ext h4, d.ext h4, e.ext h4, k⟩
          generalize w2.heap.size = SK at *
          clear B3 E3 E4 h2
          generalize Value.agg keyC.toArray = ZK at *
          go_wp2
          rename_i K hK
          have HK := hide hK
          clear hK
          have B5 := Blk.alloc w4 (List.replicate 8 (.int .u32 0)) 112
          have E5 := Ext.alloc w4 (.cells (List.replicate 8 (.int .u32 0)).toArray 112)
          have hSV : SK < w4.heap.size := A4.out.lt (by omega)
          have HV5 : Hid (AtV w (w4.alloc (.cells (List.replicate 8 (.int .u32 0)).toArray 112)) h b SK w4.heap.size (fun _ => 0)) := hide ⟨HA3.out.ext E5, A4.out.ext E5, Arr.of_blk B5 (fun i hi => zero_at hi _)⟩
          clear B5 E5 HA3 A4
          generalize w4.heap.size = SV at *
          go_loopw [14] (fun i wr => ∃ (t : Nat) (v : Nat → Int), t ≤ 8 ∧ i = .int .i64 t ∧ AtV w wr h b SK SV v ∧ ∀ i, i < t → v i = h i % 4294967296) (fun i _ => 8 - (intOf i).toNat)
          case atStart => exact ⟨0, _, by omega, rfl, HV5.out, fun i hi => absurd hi (Nat.not_lt_zero _)⟩
          case round =>
            obtain ⟨t, v, ht, rfl, hat, hv⟩ := hrel
            by_cases hlt : t < 8
            · have Hat := hide hat
              have Hv := hide hv
              obtain ⟨y, hy⟩ : ∃ y, h t = y := ⟨_, rfl⟩
              obtain ⟨f, -, A1, -⟩ := hat.1
              have c1 := (A1 t hlt).1
              rw [hy] at c1
              obtain ⟨d1, d2⟩ := hat.2.2 t hlt
              have t8 : (t : Int) < 8 := by omega
              clear hat hv A1
              go_wp2
              go_roundw
              case rel =>
                refine ⟨t + 1, _, by omega, by go_num, Hat.out.set hlt hKB hSV _, ?_⟩
                intro i hi
                show (if i = t then _ else _) = _
                by_cases e : i = t
                · rw [if_pos e, e, hy]
                · rw [if_neg e]; exact Hv.out i (by omega)
              case measure => simp [intOf]; omega
            · have e8 : t = 8 := by omega
              subst e8
              have Hat := hide hat
              have Hv := hide hv
              clear hat hv HV5
              go_wp2
              apply HK.out
              clear HK
              rw [show ((8 : Nat) : Int) = 8 from rfl]
              have HT : Hid (∀ (x m : Int) (h0 : 0 ≤ m) (h1 : m ≤ 32) (w : World), Calls Try.prog 128 #[.int .u32 x, .int .i64 m] w fun e w' => e = .returned (.int .u32 (turnI x m)) ∧ Ext w w') := l5Turn_int
              clear T7 T18 T17 T19 T6 T11 T25 T2 T13 T22
              replace Hv : Hid (∀ i, i < 8 → v i = roundsV (fun i => h i % 4294967296) b 0 i) := Hv
              go_wp2
              rename_i K hK
              have HK := hide hK
              clear hK
              go_loopw [15] (fun i wr => ∃ (t : Nat) (v : Nat → Int), t ≤ 64 ∧ i = .int .i64 t ∧ AtV w wr h b SK SV v ∧ ∀ i, i < 8 → v i = roundsV (fun i => h i % 4294967296) b t i) (fun i _ => 64 - (intOf i).toNat)
              case atStart => exact ⟨0, _, by omega, rfl, Hat.out, Hv.out⟩
              case round =>
              clear Hat Hv
              obtain ⟨t, v, ht, rfl, hat, hv⟩ := hrel
              by_cases hlt : t < 64
              · have Hat := hide hat
                have Hv := hide hv
                obtain ⟨X, hX⟩ : ∃ X : Nat → Prop, X = fun _ => False := ⟨_, rfl⟩
                have x0 : ∀ k, ¬ X k := fun k => by rw [hX]; exact fun e => e
                clear hX
                obtain ⟨v0, hv0⟩ : ∃ x, v 0 = x := ⟨_, rfl⟩
                have c0 := (hat.2.2 0 (by omega)).1
                rw [hv0] at c0
                have k0 := cell_reC (X := X) c0 (x0 _)
                clear c0
                obtain ⟨v1, hv1⟩ : ∃ x, v 1 = x := ⟨_, rfl⟩
                have c1 := (hat.2.2 1 (by omega)).1
                rw [hv1] at c1
                have k1 := cell_reC (X := X) c1 (x0 _)
                clear c1
                obtain ⟨v2, hv2⟩ : ∃ x, v 2 = x := ⟨_, rfl⟩
                have c2 := (hat.2.2 2 (by omega)).1
                rw [hv2] at c2
                have k2 := cell_reC (X := X) c2 (x0 _)
                clear c2
                obtain ⟨v3, hv3⟩ : ∃ x, v 3 = x := ⟨_, rfl⟩
                have c3 := (hat.2.2 3 (by omega)).1
                rw [hv3] at c3
                have k3 := cell_reC (X := X) c3 (x0 _)
                clear c3
                obtain ⟨v4, hv4⟩ : ∃ x, v 4 = x := ⟨_, rfl⟩
                have c4 := (hat.2.2 4 (by omega)).1
                rw [hv4] at c4
                have k4 := cell_reC (X := X) c4 (x0 _)
                clear c4
                obtain ⟨v5, hv5⟩ : ∃ x, v 5 = x := ⟨_, rfl⟩
                have c5 := (hat.2.2 5 (by omega)).1
                rw [hv5] at c5
                have k5 := cell_reC (X := X) c5 (x0 _)
                clear c5
                obtain ⟨v6, hv6⟩ : ∃ x, v 6 = x := ⟨_, rfl⟩
                have c6 := (hat.2.2 6 (by omega)).1
                rw [hv6] at c6
                have k6 := cell_reC (X := X) c6 (x0 _)
                clear c6
                obtain ⟨v7, hv7⟩ : ∃ x, v 7 = x := ⟨_, rfl⟩
                have c7 := (hat.2.2 7 (by omega)).1
                rw [hv7] at c7
                have k7 := cell_reC (X := X) c7 (x0 _)
                clear c7
                obtain ⟨kk, hkk⟩ : ∃ x, keyV t = x := ⟨_, rfl⟩
                obtain ⟨ww, hww⟩ : ∃ x, schV b t = x := ⟨_, rfl⟩
                have t64 : (t : Int) < 64 := by omega
                clear hat hv
                obtain ⟨T1, hT1⟩ : ∃ x, t1V v (kk + ww) = x := ⟨_, rfl⟩
                obtain ⟨T2, hT2⟩ : ∃ x, t2V v = x := ⟨_, rfl⟩
                have e1 : IntKind.u32.wrap (IntKind.u32.wrap (IntKind.u32.wrap (IntKind.u32.wrap (v7 + bits .xor .u32 (bits .xor .u32 (turnI v4 6) (turnI v4 11)) (turnI v4 25)) + bits .xor .u32 (bits .and .u32 v4 v5) (bits .and .u32 (bits .xor .u32 (if IntKind.u32.signed = true then -1 else IntKind.u32.max) v4) v6)) + kk) + ww) = T1 := by
                  rw [← hT1]
                  unfold t1V
                  rw [hv7, hv4, hv5, hv6, show bits .xor .u32 (bits .xor .u32 (turnI v4 6) (turnI v4 11)) (turnI v4 25) = big1 v4 from rfl, show bits .xor .u32 (bits .and .u32 v4 v5) (bits .and .u32 (bits .xor .u32 (if IntKind.u32.signed = true then -1 else IntKind.u32.max) v4) v6) = chV v4 v5 v6 from rfl]
                  simp only [IntKind.wrap_u32]
                  omega
                have e2 : IntKind.u32.wrap (bits .xor .u32 (bits .xor .u32 (turnI v0 2) (turnI v0 13)) (turnI v0 22) + bits .xor .u32 (bits .xor .u32 (bits .and .u32 v0 v1) (bits .and .u32 v0 v2)) (bits .and .u32 v1 v2)) = T2 := by
                  rw [← hT2]
                  unfold t2V
                  rw [hv0, hv1, hv2, show bits .xor .u32 (bits .xor .u32 (turnI v0 2) (turnI v0 13)) (turnI v0 22) = big0 v0 from rfl, show bits .xor .u32 (bits .xor .u32 (bits .and .u32 v0 v1) (bits .and .u32 v0 v2)) (bits .and .u32 v1 v2) = majV v0 v1 v2 from rfl, IntKind.wrap_u32]
                replace e1 := hide e1
                replace e2 := hide e2
                go_wp2
                refine anyK_begin X 6 rfl (by kernel_rfl) ?_
                refine anyK_take 0 6 0 rfl (by decide) (by kernel_rfl) (fun _ _ d _ _ h => by cases d <;> exact h) ?_
                repeat (refine headC_step (fun K hK => ?_); go_simp; first | (refine hK _ ?_; clear hK K) | (apply Exists.intro; refine ⟨fun _ => ?_, hK _ ?_⟩; (fail); clear hK K))
                refine headC_nil ?_
                clear k0 k1 k2 k3 k4 k5 k6 k7
                refine anyK_done (by kernel_rfl) ?_ 0
                intro w5 h5
                have k0 := cell_reC (X := X) ((Hat.out.ext h5).2.2 0 (by omega)).1 (x0 _)
                rw [hv0] at k0
                have k1 := cell_reC (X := X) ((Hat.out.ext h5).2.2 1 (by omega)).1 (x0 _)
                rw [hv1] at k1
                have k2 := cell_reC (X := X) ((Hat.out.ext h5).2.2 2 (by omega)).1 (x0 _)
                rw [hv2] at k2
                have k3 := cell_reC (X := X) ((Hat.out.ext h5).2.2 3 (by omega)).1 (x0 _)
                rw [hv3] at k3
                have k4 := cell_reC (X := X) ((Hat.out.ext h5).2.2 4 (by omega)).1 (x0 _)
                rw [hv4] at k4
                have k5 := cell_reC (X := X) ((Hat.out.ext h5).2.2 5 (by omega)).1 (x0 _)
                rw [hv5] at k5
                have k6 := cell_reC (X := X) ((Hat.out.ext h5).2.2 6 (by omega)).1 (x0 _)
                rw [hv6] at k6
                have k7 := cell_reC (X := X) ((Hat.out.ext h5).2.2 7 (by omega)).1 (x0 _)
                rw [hv7] at k7
                have kk' := cell_reC (X := X) ((Hat.out.ext h5).2.1 t hlt).1 (x0 _)
                have kw' : ∀ p : ReC X w5, p.val.cell? ⟨w.heap.size + 1 + 1, t, none⟩ = some (.int .u32 ww) := by
                  obtain ⟨f, -, -, -, A3, hf⟩ := (Hat.out.ext h5).1
                  have cw := (A3 t hlt).1
                  rw [hf t hlt, hww] at cw
                  exact cell_reC (X := X) cw (x0 _)
                rw [hkk] at kk'
                go_wp2
                refine anyK_begin X 31 rfl (by kernel_rfl) ?_
                refine anyK_take 0 31 0 rfl (by decide) (by kernel_rfl) (fun _ _ d _ _ h => by cases d <;> exact h) ?_
                repeat (refine headC_step (fun K hK => ?_); go_simp; first | (refine hK _ ?_; clear hK K) | (apply Exists.intro; refine ⟨fun _ => ?_, hK _ ?_⟩; ((go_at_call 128; exact Calls.re_of (HT.out _ _ (by decide) (by decide) _))); clear hK K))
                refine headC_nil ?_
                rw [e1.out]
                clear k0 k1 k2 k3 k4 k5 k6 k7 kk' kw'
                refine anyK_done (by kernel_rfl) ?_ 0
                intro w6 h6
                replace h6 := h5.trans h6
                clear h5
                have k0 := cell_reC (X := X) ((Hat.out.ext h6).2.2 0 (by omega)).1 (x0 _)
                rw [hv0] at k0
                have k1 := cell_reC (X := X) ((Hat.out.ext h6).2.2 1 (by omega)).1 (x0 _)
                rw [hv1] at k1
                have k2 := cell_reC (X := X) ((Hat.out.ext h6).2.2 2 (by omega)).1 (x0 _)
                rw [hv2] at k2
                have k3 := cell_reC (X := X) ((Hat.out.ext h6).2.2 3 (by omega)).1 (x0 _)
                rw [hv3] at k3
                have k4 := cell_reC (X := X) ((Hat.out.ext h6).2.2 4 (by omega)).1 (x0 _)
                rw [hv4] at k4
                have k5 := cell_reC (X := X) ((Hat.out.ext h6).2.2 5 (by omega)).1 (x0 _)
                rw [hv5] at k5
                have k6 := cell_reC (X := X) ((Hat.out.ext h6).2.2 6 (by omega)).1 (x0 _)
                rw [hv6] at k6
                have k7 := cell_reC (X := X) ((Hat.out.ext h6).2.2 7 (by omega)).1 (x0 _)
                rw [hv7] at k7
                go_wp2
                refine anyK_begin X 25 rfl (by kernel_rfl) ?_
                refine anyK_take 0 25 0 rfl (by decide) (by kernel_rfl) (fun _ _ d _ _ h => by cases d <;> exact h) ?_
                repeat (refine headC_step (fun K hK => ?_); go_simp; first | (refine hK _ ?_; clear hK K) | (apply Exists.intro; refine ⟨fun _ => ?_, hK _ ?_⟩; ((go_at_call 128; exact Calls.re_of (HT.out _ _ (by decide) (by decide) _))); clear hK K))
                refine headC_nil ?_
                rw [e2.out]
                clear k0 k1 k2 k3 k4 k5 k6 k7
                refine anyK_done (by kernel_rfl) ?_ 0
                intro w7 h7
                replace h7 := h6.trans h7
                clear h6
                obtain ⟨d0, f0⟩ := (Hat.out.ext h7).2.2 0 (by omega)
                rw [hv0] at d0
                obtain ⟨d1, f1⟩ := (Hat.out.ext h7).2.2 1 (by omega)
                rw [hv1] at d1
                obtain ⟨d2, f2⟩ := (Hat.out.ext h7).2.2 2 (by omega)
                rw [hv2] at d2
                obtain ⟨d3, f3⟩ := (Hat.out.ext h7).2.2 3 (by omega)
                rw [hv3] at d3
                obtain ⟨d4, f4⟩ := (Hat.out.ext h7).2.2 4 (by omega)
                rw [hv4] at d4
                obtain ⟨d5, f5⟩ := (Hat.out.ext h7).2.2 5 (by omega)
                rw [hv5] at d5
                obtain ⟨d6, f6⟩ := (Hat.out.ext h7).2.2 6 (by omega)
                rw [hv6] at d6
                obtain ⟨d7, f7⟩ := (Hat.out.ext h7).2.2 7 (by omega)
                rw [hv7] at d7
                have hSl : SV < w7.heap.size := (Hat.out.ext h7).2.2.lt (by omega)
                have ne1 : ¬ SV = w7.heap.size := by omega
                have ne2 : ¬ w7.heap.size = SV := by omega
                go_wp2
                go_roundw
                case rel =>
                  refine ⟨t + 1, roundV v (kk + ww), by omega, by go_num, ((Hat.out.ext h7).put hKB hSV (roundV v (kk + ww)) (by simp only [roundV, hT1, hT2]) (by simp only [roundV, hv0]) (by simp only [roundV, hv1]) (by simp only [roundV, hv2]) (by simp only [roundV, hT1, hv3]) (by simp only [roundV, hv4]) (by simp only [roundV, hv5]) (by simp only [roundV, hv6])).ext (Ext.alloc _ _), ?_⟩
                  intro i hi
                  rw [roundsV, hkk, hww]
                  exact roundV_congr8 _ Hv.out i hi
                case measure => simp [intOf]; omega
              · have e64 : t = 64 := by omega
                subst e64
                have Hat := hide hat
                have Hv := hide hv
                clear hat hv
                go_wp2
                apply HK.out
                clear HK
                rw [show ((64 : Nat) : Int) = 64 from rfl]
                go_wp2
                rename_i K hK
                have HK := hide hK
                clear hK HT
                have B5 := Blk.alloc wr (List.replicate 8 (.int .i64 0)) 60
                have E5 := Ext.alloc wr (.cells (List.replicate 8 (.int .i64 0)).toArray 60)
                have hSO : SV < wr.heap.size := Hat.out.2.2.lt (by omega)
                have HV5 : Hid (AtV w (wr.alloc (.cells (List.replicate 8 (.int .i64 0)).toArray 60)) h b SK SV v ∧ Arr (wr.alloc (.cells (List.replicate 8 (.int .i64 0)).toArray 60)) wr.heap.size 8 .i64 (fun j => if j < 0 then blockV h b j else 0)) := hide ⟨Hat.out.ext E5, Arr.of_blk B5 (fun i hi => by rw [if_neg (by omega)]; exact zero_at hi _)⟩
                clear B5 E5 Hat
                generalize wr.heap.size = SO at *
                go_loopw [22] (fun i wr => ∃ t : Nat, t ≤ 8 ∧ i = .int .i64 t ∧ AtV w wr h b SK SV v ∧ Arr wr SO 8 .i64 (fun j => if j < t then blockV h b j else 0)) (fun i _ => 8 - (intOf i).toNat)
                case atStart => exact ⟨0, by omega, rfl, HV5.out⟩
                case round =>
                clear HV5
                obtain ⟨t, ht, rfl, hat, hout⟩ := hrel
                by_cases hlt : t < 8
                · have Hat := hide hat
                  have Hout := hide hout
                  obtain ⟨X, hX⟩ : ∃ X : Nat → Prop, X = fun k => k = SO := ⟨_, rfl⟩
                  have xO : X SO := by rw [hX]
                  have xH : ¬ X w.heap.size := by rw [hX]; show ¬ _ = _; omega
                  have xV : ¬ X SV := by rw [hX]; show ¬ _ = _; omega
                  clear hX
                  obtain ⟨y, hy⟩ : ∃ y, h t = y := ⟨_, rfl⟩
                  obtain ⟨z, hz⟩ : ∃ z, v t = z := ⟨_, rfl⟩
                  obtain ⟨f, -, A1, -⟩ := hat.1
                  have c1 := (A1 t hlt).1
                  rw [hy] at c1
                  have c2 := (hat.2.2 t hlt).1
                  rw [hz] at c2
                  have k1 := cell_reC (X := X) c1 xH
                  have k2 := cell_reC (X := X) c2 xV
                  obtain ⟨y', hy'⟩ : ∃ q, IntKind.u32.wrap y = q := ⟨_, rfl⟩
                  obtain ⟨q, hq⟩ : ∃ q, IntKind.u32.wrap (y' + z) = q := ⟨_, rfl⟩
                  have hq2 : IntKind.i64.wrap q = q := by rw [← hq, IntKind.wrap_u32, IntKind.wrap_i64]; omega
                  have HQ : Hid (q = blockV h b t) := by
                    refine hide ?_
                    unfold blockV
                    rw [← hq, ← hy', IntKind.wrap_u32, IntKind.wrap_u32, hy, ← Hv.out t hlt, hz]
                  have t8 : (t : Int) < 8 := by omega
                  clear hat hout A1 c1 c2 xH xV
                  go_wp2
                  refine anyK_begin X 12 rfl (by kernel_rfl) ?_
                  refine anyK_take 0 11 1 rfl (by decide) (by kernel_rfl) (fun _ _ d _ _ h => by cases d <;> exact h) ?_
                  repeat (refine headC_step (fun K hK => ?_); go_simp; first | (refine hK _ ?_; clear hK K) | (apply Exists.intro; refine ⟨fun _ => ?_, hK _ ?_⟩; (fail); clear hK K))
                  refine headC_nil ?_
                  clear k1 k2 hq hq2 hy'
                  refine anyK_one 11 (by kernel_rfl) ?_
                  refine stepK_run rfl ?_
                  intro w2 h2 K2 hK2
                  obtain ⟨d1, d2⟩ := (Hout.out.ext h2) t hlt
                  go_simp
                  refine hK2 _ _ ((Grw.of_ext h2).trans (Grw.of_touch ((Touch.refl _ w2).set t _) xO)) ?_
                  clear hK2 K2 d1 d2
                  refine anyK_done (by kernel_rfl) ?_ 0
                  intro w3 h3
                  have hfin : AtV w w3 h b SK SV v ∧ Arr w3 SO 8 .i64 (fun j => if j < t + 1 then blockV h b j else 0) := by
                    refine ⟨AtV.ext ⟨(Hat.out.ext h2).1.other (by omega) t _, (Hat.out.ext h2).2.1.other (by omega) t _, (Hat.out.ext h2).2.2.other (by omega) t _⟩ h3, Arr.ext (Arr.congr ((Hout.out.ext h2).set hlt _) (fun j hj => ?_)) h3⟩
                    by_cases e : j = t
                    · rw [if_pos e, if_pos (by omega), e, HQ.out]
                    · rw [if_neg e]
                      by_cases e2 : j < t
                      · rw [if_pos e2, if_pos (by omega)]
                      · rw [if_neg e2, if_neg (by omega)]
                  replace hfin := hide hfin
                  clear h2 h3 Hat Hout
                  go_wp2
                  go_roundw
                  case rel => exact ⟨t + 1, by omega, by go_num, hfin.out⟩
                  case measure => simp [intOf]; omega
                · have e8 : t = 8 := by omega
                  subst e8
                  have Hout : Arr wr SO 8 .i64 (blockV h b) := hout.congr (fun j hj => if_pos hj)
                  have hEw : Ext w wr := by obtain ⟨f, a, -⟩ := hat.1; exact a
                  have HEw := hide hEw
                  have A2 : Arr wr (w.heap.size + 1) 8 .i64 (fun _ => 0) := by obtain ⟨f, a, c, d, -⟩ := hat.1; exact d
                  have HA2 := hide A2
                  clear hat hout hEw
                  obtain ⟨c0, f0⟩ := Hout 0 (by omega)
                  obtain ⟨c1, f1⟩ := Hout 1 (by omega)
                  obtain ⟨c2, f2⟩ := Hout 2 (by omega)
                  obtain ⟨c3, f3⟩ := Hout 3 (by omega)
                  obtain ⟨c4, f4⟩ := Hout 4 (by omega)
                  obtain ⟨c5, f5⟩ := Hout 5 (by omega)
                  obtain ⟨c6, f6⟩ := Hout 6 (by omega)
                  obtain ⟨c7, f7⟩ := Hout 7 (by omega)
                  obtain ⟨a0, g0⟩ := A2 0 (by omega)
                  obtain ⟨a1, g1⟩ := A2 1 (by omega)
                  obtain ⟨a2, g2⟩ := A2 2 (by omega)
                  obtain ⟨a3, g3⟩ := A2 3 (by omega)
                  obtain ⟨a4, g4⟩ := A2 4 (by omega)
                  obtain ⟨a5, g5⟩ := A2 5 (by omega)
                  obtain ⟨a6, g6⟩ := A2 6 (by omega)
                  obtain ⟨a7, g7⟩ := A2 7 (by omega)
                  clear Hout A2
                  go_wp2
                  apply HK.out
                  clear HK
                  go_wp2
                  have BR := HA2.out.blk8.put [.int .i64 (blockV h b 0), .int .i64 (blockV h b 1), .int .i64 (blockV h b 2), .int .i64 (blockV h b 3), .int .i64 (blockV h b 4), .int .i64 (blockV h b 5), .int .i64 (blockV h b 6), .int .i64 (blockV h b 7)] rfl
                  have hW := HEw.out.putL (C := w.heap.size + 1) (by omega) [.int .i64 (blockV h b 0), .int .i64 (blockV h b 1), .int .i64 (blockV h b 2), .int .i64 (blockV h b 3), .int .i64 (blockV h b 4), .int .i64 (blockV h b 5), .int .i64 (blockV h b 6), .int .i64 (blockV h b 7)]
                  simp only [putL] at BR hW
                  generalize World.setCell _ ⟨w.heap.size + 1, 7, none⟩ _ = WE at *
                  have hl := run_loadI8 _ rfl _ _ (fun j v h => (BR j v h).1)
                  refine bodyPost_ret (v := .agg #[.int .i64 (blockV h b 0), .int .i64 (blockV h b 1), .int .i64 (blockV h b 2), .int .i64 (blockV h b 3), .int .i64 (blockV h b 4), .int .i64 (blockV h b 5), .int .i64 (blockV h b 6), .int .i64 (blockV h b 7)]) ?_ rfl ?_
                  · exact results_cell Try.results112 rfl hl
                  · rw [HR.out]; exact ⟨rfl, hW⟩

end Go.Proofs.Ytjkojofpkeglpab
