/- Walks: the program's behindBlock. -/
import Derived.Test.YtjkojofpkeglpabShaQ
namespace Go.Proofs.Ytjkojofpkeglpab
set_option linter.unusedVariables false
set_option linter.unusedSimpArgs false
open Go.RowKit

theorem ixKey (w : World) : ∀ t : Nat, t < 64 → (Instr.index 118 (.agg keyC.toArray) (.int .i64 (t : Int))).run Try.prog w = .ok (.int .u32 (keyV t)) w
  | 0, _ => by kernel_rfl
  | 1, _ => by kernel_rfl
  | 2, _ => by kernel_rfl
  | 3, _ => by kernel_rfl
  | 4, _ => by kernel_rfl
  | 5, _ => by kernel_rfl
  | 6, _ => by kernel_rfl
  | 7, _ => by kernel_rfl
  | 8, _ => by kernel_rfl
  | 9, _ => by kernel_rfl
  | 10, _ => by kernel_rfl
  | 11, _ => by kernel_rfl
  | 12, _ => by kernel_rfl
  | 13, _ => by kernel_rfl
  | 14, _ => by kernel_rfl
  | 15, _ => by kernel_rfl
  | 16, _ => by kernel_rfl
  | 17, _ => by kernel_rfl
  | 18, _ => by kernel_rfl
  | 19, _ => by kernel_rfl
  | 20, _ => by kernel_rfl
  | 21, _ => by kernel_rfl
  | 22, _ => by kernel_rfl
  | 23, _ => by kernel_rfl
  | 24, _ => by kernel_rfl
  | 25, _ => by kernel_rfl
  | 26, _ => by kernel_rfl
  | 27, _ => by kernel_rfl
  | 28, _ => by kernel_rfl
  | 29, _ => by kernel_rfl
  | 30, _ => by kernel_rfl
  | 31, _ => by kernel_rfl
  | 32, _ => by kernel_rfl
  | 33, _ => by kernel_rfl
  | 34, _ => by kernel_rfl
  | 35, _ => by kernel_rfl
  | 36, _ => by kernel_rfl
  | 37, _ => by kernel_rfl
  | 38, _ => by kernel_rfl
  | 39, _ => by kernel_rfl
  | 40, _ => by kernel_rfl
  | 41, _ => by kernel_rfl
  | 42, _ => by kernel_rfl
  | 43, _ => by kernel_rfl
  | 44, _ => by kernel_rfl
  | 45, _ => by kernel_rfl
  | 46, _ => by kernel_rfl
  | 47, _ => by kernel_rfl
  | 48, _ => by kernel_rfl
  | 49, _ => by kernel_rfl
  | 50, _ => by kernel_rfl
  | 51, _ => by kernel_rfl
  | 52, _ => by kernel_rfl
  | 53, _ => by kernel_rfl
  | 54, _ => by kernel_rfl
  | 55, _ => by kernel_rfl
  | 56, _ => by kernel_rfl
  | 57, _ => by kernel_rfl
  | 58, _ => by kernel_rfl
  | 59, _ => by kernel_rfl
  | 60, _ => by kernel_rfl
  | 61, _ => by kernel_rfl
  | 62, _ => by kernel_rfl
  | 63, _ => by kernel_rfl
  | t + 64, h => absurd h (by omega)

theorem ixU (v : Nat → Int) (t : Nat) (ht : t < 8) (w : World) : (Instr.index 113 (.agg #[.int .u32 (v 0), .int .u32 (v 1), .int .u32 (v 2), .int .u32 (v 3), .int .u32 (v 4), .int .u32 (v 5), .int .u32 (v 6), .int .u32 (v 7)]) (.int .i64 (t : Int))).run Try.prog w = .ok (.int .u32 (v t)) w := by
  have : t = 0 ∨ t = 1 ∨ t = 2 ∨ t = 3 ∨ t = 4 ∨ t = 5 ∨ t = 6 ∨ t = 7 := by omega
  rcases this with rfl | rfl | rfl | rfl | rfl | rfl | rfl | rfl
  · exact ixU0 _ _ _ _ _ _ _ _ w
  · exact ixU1 _ _ _ _ _ _ _ _ w
  · exact ixU2 _ _ _ _ _ _ _ _ w
  · exact ixU3 _ _ _ _ _ _ _ _ w
  · exact ixU4 _ _ _ _ _ _ _ _ w
  · exact ixU5 _ _ _ _ _ _ _ _ w
  · exact ixU6 _ _ _ _ _ _ _ _ w
  · exact ixU7 _ _ _ _ _ _ _ _ w

/-- In the midst of the rounds: the state as it came, the answer's place, the schedule, the state as it is. -/
def AtB (w wr : World) (u b : Nat → Int) (S T : Nat) (v : Nat → Int) : Prop := Ext w wr ∧ Arr wr w.heap.size 8 .u32 u ∧ Arr wr (w.heap.size + 1) 8 .u32 (fun _ => 0) ∧ Arr wr T 64 .u32 (schV b) ∧ Arr wr S 8 .u32 v
theorem AtB.put {w wr : World} {u b v : Nat → Int} {S T : Nat} (k : AtB w wr u b S T v) (hS : w.heap.size + 1 < S) (ne : S ≠ T) (v' : Nat → Int) : AtB w (putL S 0 [.int .u32 (v' 0), .int .u32 (v' 1), .int .u32 (v' 2), .int .u32 (v' 3), .int .u32 (v' 4), .int .u32 (v' 5), .int .u32 (v' 6), .int .u32 (v' 7)] wr) u b S T v' :=
  ⟨Ext.putL k.1 (by omega) _, k.2.1.putL_other (by omega) _, k.2.2.1.putL_other (by omega) _, k.2.2.2.1.putL_other ne.symm _, Arr.of_blk8 (k.2.2.2.2.blk8.put _ rfl)⟩
theorem AtB.ext {w wr wr' : World} {u b v : Nat → Int} {S T : Nat} (k : AtB w wr u b S T v) (e : Ext wr wr') : AtB w wr' u b S T v := ⟨k.1.trans e, k.2.1.ext e, k.2.2.1.ext e, k.2.2.2.1.ext e, k.2.2.2.2.ext e⟩

theorem run_store8 (cs : List Value) (hl : cs.length = 8) (h1 : ∀ v ∈ cs, v.oneCell' = true) (b : Nat) (w : World) (hc : ∀ j, j < 8 → (w.cell? ⟨b, j, none⟩).isSome = true) (hf : ∀ j, j < 8 → w.frozen? ⟨b, j, none⟩ = false) :
    (Instr.storeAt 113 (.pointer (some ⟨b, 0, none⟩)) (.agg cs.toArray)).run Try.prog w = .ok () (putL b 0 cs w) := by
  have hs : (Go.sizeOf 113).run Try.prog w = .ok 8 w := by kernel_rfl
  have hst := run_storeCells_cells (P := Try.prog) b 0 cs 0 w (fun j hj => by simpa using hc j (by omega)) (fun j hj => by simpa using hf j (by omega)) h1
  simp only [Instr.storeAt, Instr.sureAddr, storeVar, Sem.run_bind, Sem.run_pure, Result.andThen_ok, hs, Value.cells]
  rw [setCells_putL] at hst
  simp [hl, hst]

theorem roundV_bound {v : Nat → Int} {m : Int} (h : ∀ i, i < 8 → 0 ≤ v i ∧ v i < 4294967296) : ∀ i, i < 8 → 0 ≤ roundV v m i ∧ roundV v m i < 4294967296 := by
  intro i hi
  have : i = 0 ∨ i = 1 ∨ i = 2 ∨ i = 3 ∨ i = 4 ∨ i = 5 ∨ i = 6 ∨ i = 7 := by omega
  rcases this with rfl | rfl | rfl | rfl | rfl | rfl | rfl | rfl
  · simp only [roundV]; omega
  · exact h 0 (by omega)
  · exact h 1 (by omega)
  · exact h 2 (by omega)
  · simp only [roundV]; omega
  · exact h 4 (by omega)
  · exact h 5 (by omega)
  · exact h 6 (by omega)
theorem roundsV_bound (u b : Nat → Int) (h : ∀ i, i < 8 → 0 ≤ u i ∧ u i < 4294967296) : ∀ t i, i < 8 → 0 ≤ roundsV u b t i ∧ roundsV u b t i < 4294967296
  | 0 => h
  | t + 1 => roundV_bound (roundsV_bound u b h t)

set_option maxHeartbeats 6400000 in
set_option maxRecDepth 100000 in
theorem behindBlock_any (h b : Nat → Int) (r : Option Addr) (g off cap : Nat) (w : World) (hb : BSeg w r g off 64 b) (hcap : 64 ≤ cap) (hbig : cap ≤ 9223372036854775807) (hby : ∀ i, i < 64 → 0 ≤ b i ∧ b i < 256) : Calls Try.prog 114 #[.agg #[.int .u32 (h 0 % 4294967296), .int .u32 (h 1 % 4294967296), .int .u32 (h 2 % 4294967296), .int .u32 (h 3 % 4294967296), .int .u32 (h 4 % 4294967296), .int .u32 (h 5 % 4294967296), .int .u32 (h 6 % 4294967296), .int .u32 (h 7 % 4294967296)], .slice r 64 cap] w fun e w' => e = .returned (.agg #[.int .u32 (blockV h b 0), .int .u32 (blockV h b 1), .int .u32 (blockV h b 2), .int .u32 (blockV h b 3), .int .u32 (blockV h b 4), .int .u32 (blockV h b 5), .int .u32 (blockV h b 6), .int .u32 (blockV h b 7)]) ∧ Ext w w' := by
  obtain ⟨RV, hRV⟩ : ∃ R : Value, R = .agg #[.int .u32 (blockV h b 0), .int .u32 (blockV h b 1), .int .u32 (blockV h b 2), .int .u32 (blockV h b 3), .int .u32 (blockV h b 4), .int .u32 (blockV h b 5), .int .u32 (blockV h b 6), .int .u32 (blockV h b 7)] := ⟨_, rfl⟩
  rw [← hRV]
  obtain ⟨u, hu⟩ : ∃ u : Nat → Int, u = fun i => h i % 4294967296 := ⟨_, rfl⟩
  have hub : ∀ i, 0 ≤ u i ∧ u i < 4294967296 := fun i => by rw [hu]; simp only; omega
  have HRV : Hid (RV = .agg #[.int .u32 ((u 0 + roundsV u b 64 0) % 4294967296), .int .u32 ((u 1 + roundsV u b 64 1) % 4294967296), .int .u32 ((u 2 + roundsV u b 64 2) % 4294967296), .int .u32 ((u 3 + roundsV u b 64 3) % 4294967296), .int .u32 ((u 4 + roundsV u b 64 4) % 4294967296), .int .u32 ((u 5 + roundsV u b 64 5) % 4294967296), .int .u32 ((u 6 + roundsV u b 64 6) % 4294967296), .int .u32 ((u 7 + roundsV u b 64 7) % 4294967296)]) := by
    refine hide ?_
    rw [hRV, hu]
    rfl
  rw [show (#[.agg #[.int .u32 (h 0 % 4294967296), .int .u32 (h 1 % 4294967296), .int .u32 (h 2 % 4294967296), .int .u32 (h 3 % 4294967296), .int .u32 (h 4 % 4294967296), .int .u32 (h 5 % 4294967296), .int .u32 (h 6 % 4294967296), .int .u32 (h 7 % 4294967296)], .slice r 64 cap] : Array Value) = #[.agg #[.int .u32 (u 0), .int .u32 (u 1), .int .u32 (u 2), .int .u32 (u 3), .int .u32 (u 4), .int .u32 (u 5), .int .u32 (u 6), .int .u32 (u 7)], .slice r 64 cap] by rw [hu]]
  clear hu hRV
  obtain rfl := hb.at' (by omega)
  have hg := hb.lt (by omega)
  go_enter Try.func114, Try.ntmps114
  go_wp2
  obtain ⟨V, hV⟩ : ∃ V, (w.alloc (.cells #[.int .u32 (u 0), .int .u32 (u 1), .int .u32 (u 2), .int .u32 (u 3), .int .u32 (u 4), .int .u32 (u 5), .int .u32 (u 6), .int .u32 (u 7)] 113)).alloc (.cells #[.int .u32 0, .int .u32 0, .int .u32 0, .int .u32 0, .int .u32 0, .int .u32 0, .int .u32 0, .int .u32 0] 113) = V := ⟨_, rfl⟩
  obtain ⟨B1, B2, hE, hz⟩ := box2 w [.int .u32 (u 0), .int .u32 (u 1), .int .u32 (u 2), .int .u32 (u 3), .int .u32 (u 4), .int .u32 (u 5), .int .u32 (u 6), .int .u32 (u 7)] [.int .u32 0, .int .u32 0, .int .u32 0, .int .u32 0, .int .u32 0, .int .u32 0, .int .u32 0, .int .u32 0] 113 113 (hV ▸ Ext.refl _ : Ext _ V)
  simp only [hV]
  clear hV
  obtain ⟨X, hX⟩ : ∃ X : Nat → Prop, X = fun k => V.heap.size ≤ k := ⟨_, rfl⟩
  have x0 : ∀ k, k < V.heap.size → ¬ X k := fun k h => by rw [hX]; simp; omega
  have x1 : ∀ k, V.heap.size ≤ k → X k := fun k h => by rw [hX]; exact h
  clear hX
  have HS : Hid (∀ p : ReC X V, Calls Try.prog 130 #[.slice (some ⟨g, off, none⟩) 64 cap] p.val fun e w' => e = .returned (.agg (schC b).toArray) ∧ Ext p.val w') := fun p => by
    refine scheduleOf_any b _ g off cap _ ⟨fun _ => rfl, fun i hi => ?_⟩ hcap hbig hby
    rw [World.cell?_of_block (a := ⟨g, off + i, none⟩) (p.ok.block g (by omega) (x0 _ (by omega))), World.cell?_of_block (a := ⟨g, off + i, none⟩) (Below.block hE g hg)]
    exact hb.cell i hi
  clear hb hby
  have k0 := cell_reC (X := X) (B1 0 _ rfl).1 (x0 _ (by first | omega | (simp only; omega)))
  have k1 := cell_reC (X := X) (B1 1 _ rfl).1 (x0 _ (by first | omega | (simp only; omega)))
  have k2 := cell_reC (X := X) (B1 2 _ rfl).1 (x0 _ (by first | omega | (simp only; omega)))
  have k3 := cell_reC (X := X) (B1 3 _ rfl).1 (x0 _ (by first | omega | (simp only; omega)))
  have k4 := cell_reC (X := X) (B1 4 _ rfl).1 (x0 _ (by first | omega | (simp only; omega)))
  have k5 := cell_reC (X := X) (B1 5 _ rfl).1 (x0 _ (by first | omega | (simp only; omega)))
  have k6 := cell_reC (X := X) (B1 6 _ rfl).1 (x0 _ (by first | omega | (simp only; omega)))
  have k7 := cell_reC (X := X) (B1 7 _ rfl).1 (x0 _ (by first | omega | (simp only; omega)))
  rename_i K hK
  have LEAF : ∀ (S T : Nat) (w6 : World), V.heap.size ≤ S → V.heap.size ≤ T → S ≠ T → AtB w w6 u b S T u → K { tmps := #[.agg #[.int .u32 (u 0), .int .u32 (u 1), .int .u32 (u 2), .int .u32 (u 3), .int .u32 (u 4), .int .u32 (u 5), .int .u32 (u 6), .int .u32 (u 7)], .slice (some ⟨g, off, none⟩) 64 cap, .pointer (some ⟨w.heap.size, 0, none⟩), undef, .pointer (some ⟨w.heap.size + 1, 0, none⟩), .pointer (some ⟨S, 0, none⟩), .pointer (some ⟨T, 0, none⟩), undef, undef, undef, undef, .agg #[.int .u32 (u 0), .int .u32 (u 1), .int .u32 (u 2), .int .u32 (u 3), .int .u32 (u 4), .int .u32 (u 5), .int .u32 (u 6), .int .u32 (u 7)], .slice (some ⟨g, off, none⟩) 64 cap, .agg (schC b).toArray, undef, undef, undef, undef, undef, undef, undef, undef, undef, undef, undef, undef, undef, undef, undef, undef, undef, undef, undef, undef, undef, undef, undef, undef, undef, undef, undef], defers := [] } w6 := by
    intro S T w6 lS lT ne hat
    apply hK
    clear hK
    have Hat := hide hat
    clear hat B1 B2 hE
    have hSa : w.heap.size + 1 < S := by omega
    have hTa : w.heap.size + 1 < T := by omega
    clear lS lT x0 x1 hz hg
    go_wp2_with fail
    refine (madeConstants_any _).mono ?_
    rintro e w7 ⟨rfl, h7⟩
    rename_i hKK
    apply hKK
    clear hKK
    refine wpList_step (by kernel_rfl) (wp_value (v := .agg keyC.toArray) (w' := w7) (by kernel_rfl) ?_)
    replace Hat := hide (Hat.out.ext h7)
    clear h7
    generalize Value.agg conC.toArray = ZC
    generalize Value.agg (schC b).toArray = ZS
    have HIX := hide ixKey
    generalize Value.agg keyC.toArray = ZK at *
    have HRd : Hid (∀ (v : Nat → Int) (m : Int) (hv : ∀ i, i < 8 → 0 ≤ v i ∧ v i < 4294967296) (w : World), Calls Try.prog 131 #[.agg #[.int .u32 (v 0), .int .u32 (v 1), .int .u32 (v 2), .int .u32 (v 3), .int .u32 (v 4), .int .u32 (v 5), .int .u32 (v 6), .int .u32 (v 7)], .int .u32 m] w fun e w' => e = .returned (.agg #[.int .u32 (roundV v m 0), .int .u32 (roundV v m 1), .int .u32 (roundV v m 2), .int .u32 (roundV v m 3), .int .u32 (roundV v m 4), .int .u32 (roundV v m 5), .int .u32 (roundV v m 6), .int .u32 (roundV v m 7)]) ∧ Ext w w') := round_any
    go_wp2
    rename_i KA hK KB
    have HK := hide hK
    clear hK
    go_loopw [16] (fun i wr => ∃ t : Nat, t ≤ 64 ∧ i = .int .i64 t ∧ AtB w wr u b S T (roundsV u b t)) (fun i _ => 64 - (intOf i).toNat)
    case atStart => exact ⟨0, by omega, rfl, Hat.out⟩
    case round =>
      clear Hat
      obtain ⟨t, ht, rfl, hat⟩ := hrel
      by_cases hlt : t < 64
      · have Hat := hide hat
        have hv := roundsV_bound u b (fun i _ => hub i) t
        have Hnext : Hid (roundsV u b (t + 1) = roundV (roundsV u b t) (keyV t + schV b t)) := rfl
        obtain ⟨kk, hkk⟩ : ∃ x, keyV t = x := ⟨_, rfl⟩
        obtain ⟨ww, hww⟩ : ∃ x, schV b t = x := ⟨_, rfl⟩
        rw [hkk, hww] at Hnext
        have hix : ∀ w, (Instr.index 118 ZK (.int .i64 (t : Int))).run Try.prog w = .ok (.int .u32 kk) w := fun w => by rw [← hkk]; exact HIX.out w t hlt
        have t64 : (t : Int) < 64 := by omega
        generalize roundsV u b t = v at *
        obtain ⟨X, hX⟩ : ∃ X : Nat → Prop, X = fun k => k = S := ⟨_, rfl⟩
        have xS : X S := by rw [hX]
        have xT : ¬ X T := by rw [hX]; exact fun e => ne e.symm
        clear hX
        have cw := (hat.2.2.2.1 t hlt).1
        rw [hww] at cw
        have kw := cell_reC (X := X) cw xT
        clear hat cw hkk hww HIX
        go_wp2
        refine anyK_begin X 8 rfl (by kernel_rfl) ?_
        refine anyK_take 1 5 3 rfl (by decide) (by kernel_rfl) (fun _ _ d _ _ h => by cases d <;> exact h) ?_
        repeat (refine headC_step (fun K hK => ?_); go_simp; first | (refine hK _ ?_; clear hK K) | (apply Exists.intro; refine ⟨fun _ => ?_, hK _ ?_⟩; (fail); clear hK K))
        refine headC_nil ?_
        clear kw
        refine anyK_one 0 (by kernel_rfl) ?_
        refine stepK_run rfl ?_
        intro w2 h2 K2 hK2
        have Hat2 := Hat.out.ext h2
        obtain ⟨c0, f0⟩ := Hat2.2.2.2.2 0 (by omega)
        obtain ⟨c1, f1⟩ := Hat2.2.2.2.2 1 (by omega)
        obtain ⟨c2, f2⟩ := Hat2.2.2.2.2 2 (by omega)
        obtain ⟨c3, f3⟩ := Hat2.2.2.2.2 3 (by omega)
        obtain ⟨c4, f4⟩ := Hat2.2.2.2.2 4 (by omega)
        obtain ⟨c5, f5⟩ := Hat2.2.2.2.2 5 (by omega)
        obtain ⟨c6, f6⟩ := Hat2.2.2.2.2 6 (by omega)
        obtain ⟨c7, f7⟩ := Hat2.2.2.2.2 7 (by omega)
        go_simp
        refine hK2 _ _ (.of_ext h2) ?_
        clear hK2 K2 c0 c1 c2 c3 c4 c5 c6 c7 f0 f1 f2 f3 f4 f5 f6 f7 Hat2
        refine anyK_one 6 (by kernel_rfl) ?_
        refine stepK_run rfl ?_
        intro w3 h3 K2 hK2
        replace h3 := h2.trans h3
        clear h2
        go_simp
        have hm : roundV v (IntKind.u32.wrap (kk + ww)) = roundV v (kk + ww) := by rw [IntKind.wrap_u32, roundV_mod]
        have HC := HRd.out v (IntKind.u32.wrap (kk + ww)) hv w3
        rw [hm] at HC
        clear hm
        generalize roundV v (kk + ww) = v2 at *
        refine HC.mono ?_
        clear HC
        rintro e w4 ⟨rfl, h4⟩
        replace h4 := h3.trans h4
        clear h3
        refine hK2 _ _ (.of_ext h4) ?_
        clear hK2 K2
        refine anyK_one 7 (by kernel_rfl) ?_
        refine stepK_run rfl ?_
        intro w5 h5 K2 hK2
        replace h5 := h4.trans h5
        clear h4
        have Hat5 := Hat.out.ext h5
        rw [if_pos (show _ = true by kernel_rfl)]
        refine wp_skip (w' := putL S 0 [.int .u32 (v2 0), .int .u32 (v2 1), .int .u32 (v2 2), .int .u32 (v2 3), .int .u32 (v2 4), .int .u32 (v2 5), .int .u32 (v2 6), .int .u32 (v2 7)] w5) ?_ ?_
        · show ((do Instr.storeAt 113 (.pointer (some ⟨S, 0, none⟩)) (.agg ([.int .u32 (v2 0), .int .u32 (v2 1), .int .u32 (v2 2), .int .u32 (v2 3), .int .u32 (v2 4), .int .u32 (v2 5), .int .u32 (v2 6), .int .u32 (v2 7)] : List Value).toArray); pure .skip : Sem Next)).run Try.prog w5 = _
          rw [Sem.run_bind, run_store8 [.int .u32 (v2 0), .int .u32 (v2 1), .int .u32 (v2 2), .int .u32 (v2 3), .int .u32 (v2 4), .int .u32 (v2 5), .int .u32 (v2 6), .int .u32 (v2 7)] rfl (fun v hv => by simp at hv; rcases hv with rfl | rfl | rfl | rfl | rfl | rfl | rfl | rfl <;> rfl) _ w5 (fun j hj => by rw [(Hat5.2.2.2.2 j hj).1]; rfl) (fun j hj => (Hat5.2.2.2.2 j hj).2)]
          rfl
        refine hK2 _ _ (Grw.putL xS _ _ _ (.of_ext h5)) ?_
        clear hK2 K2
        have HP := hide (Hat5.put hSa ne v2)
        clear Hat5 Hat
        refine anyK_done (by kernel_rfl) ?_ 0
        intro w6 h6
        replace HP := hide (HP.out.ext h6)
        clear h6 h5
        go_wp2
        go_roundw
        case rel => exact ⟨t + 1, by omega, by go_num, by rw [Hnext.out]; exact HP.out⟩
        case measure => simp [intOf]; omega
      · have e64 : t = 64 := by omega
        subst e64
        have hv := roundsV_bound u b (fun i _ => hub i) 64
        generalize roundsV u b 64 = v at *
        have HE := hide hat.1
        obtain ⟨c0, f0⟩ := hat.2.2.2.2 0 (by omega)
        obtain ⟨c1, f1⟩ := hat.2.2.2.2 1 (by omega)
        obtain ⟨c2, f2⟩ := hat.2.2.2.2 2 (by omega)
        obtain ⟨c3, f3⟩ := hat.2.2.2.2 3 (by omega)
        obtain ⟨c4, f4⟩ := hat.2.2.2.2 4 (by omega)
        obtain ⟨c5, f5⟩ := hat.2.2.2.2 5 (by omega)
        obtain ⟨c6, f6⟩ := hat.2.2.2.2 6 (by omega)
        obtain ⟨c7, f7⟩ := hat.2.2.2.2 7 (by omega)
        have A1 : Hid (Arr wr w.heap.size 8 .u32 (fun j => if j < 0 then (u j + v j) % 4294967296 else u j)) := hide (hat.2.1.congr (fun j hj => by rw [if_neg (by omega)]))
        have A2 := hide hat.2.2.1
        clear hat
        go_wp2
        apply HK.out
        clear HK HIX HRd
        go_wp2
        rename_i KC hK
        have HK := hide hK
        clear hK c0 c1 c2 c3 c4 c5 c6 c7 f0 f1 f2 f3 f4 f5 f6 f7
        go_loopw [29] (fun i wr => ∃ t : Nat, t ≤ 8 ∧ i = .int .i64 t ∧ Ext w wr ∧ Arr wr w.heap.size 8 .u32 (fun j => if j < t then (u j + v j) % 4294967296 else u j) ∧ Arr wr (w.heap.size + 1) 8 .u32 (fun _ => 0)) (fun i _ => 8 - (intOf i).toNat)
        case atStart => exact ⟨0, by omega, rfl, HE.out, A1.out, A2.out⟩
        case round =>
        clear HE A1 A2
        obtain ⟨t, ht, rfl, hE, A1, A2⟩ := hrel
        by_cases hlt : t < 8
        · have hix := ixU v t hlt
          obtain ⟨x, hx⟩ : ∃ x, v t = x := ⟨_, rfl⟩
          obtain ⟨y, hy⟩ : ∃ y, u t = y := ⟨_, rfl⟩
          rw [hx] at hix
          obtain ⟨d1, d2⟩ := A1 t hlt
          replace d1 : wr.cell? ⟨w.heap.size, t, none⟩ = some (.int .u32 (if t < t then (u t + v t) % 4294967296 else u t)) := d1
          rw [if_neg (by omega), hy] at d1
          have HE := hide hE
          have H1 := hide A1
          have H2 := hide A2
          have t8 : (t : Int) < 8 := by omega
          clear hE A1 A2 hub hv
          go_wp2
          go_roundw
          case rel =>
            refine ⟨t + 1, by omega, by go_num, HE.out.set (by omega) t _, (H1.out.set hlt _).congr (fun j hj => ?_), H2.out.other (by omega) t _⟩
            by_cases e : j = t
            · rw [if_pos e, if_pos (by omega), e, hx, hy]
            · rw [if_neg e]
              by_cases e2 : j < t
              · rw [if_pos e2, if_pos (by omega)]
              · rw [if_neg e2, if_neg (by omega)]
          case measure => simp [intOf]; omega
        · have e8 : t = 8 := by omega
          subst e8
          replace A1 : Arr wr w.heap.size 8 .u32 (fun j => (u j + v j) % 4294967296) := A1.congr (fun j hj => if_pos hj)
          have HE := hide hE
          obtain ⟨c0, f0⟩ := A1 0 (by omega)
          obtain ⟨c1, f1⟩ := A1 1 (by omega)
          obtain ⟨c2, f2⟩ := A1 2 (by omega)
          obtain ⟨c3, f3⟩ := A1 3 (by omega)
          obtain ⟨c4, f4⟩ := A1 4 (by omega)
          obtain ⟨c5, f5⟩ := A1 5 (by omega)
          obtain ⟨c6, f6⟩ := A1 6 (by omega)
          obtain ⟨c7, f7⟩ := A1 7 (by omega)
          obtain ⟨a0, g0⟩ := A2 0 (by omega)
          obtain ⟨a1, g1⟩ := A2 1 (by omega)
          obtain ⟨a2, g2⟩ := A2 2 (by omega)
          obtain ⟨a3, g3⟩ := A2 3 (by omega)
          obtain ⟨a4, g4⟩ := A2 4 (by omega)
          obtain ⟨a5, g5⟩ := A2 5 (by omega)
          obtain ⟨a6, g6⟩ := A2 6 (by omega)
          obtain ⟨a7, g7⟩ := A2 7 (by omega)
          have H2 := hide A2
          clear hE A1 A2 hub hv
          go_wp2
          apply HK.out
          clear HK
          go_wp2
          have BR := H2.out.blk8.put [.int .u32 ((u 0 + v 0) % 4294967296), .int .u32 ((u 1 + v 1) % 4294967296), .int .u32 ((u 2 + v 2) % 4294967296), .int .u32 ((u 3 + v 3) % 4294967296), .int .u32 ((u 4 + v 4) % 4294967296), .int .u32 ((u 5 + v 5) % 4294967296), .int .u32 ((u 6 + v 6) % 4294967296), .int .u32 ((u 7 + v 7) % 4294967296)] rfl
          have hW := HE.out.putL (C := w.heap.size + 1) (by omega) [.int .u32 ((u 0 + v 0) % 4294967296), .int .u32 ((u 1 + v 1) % 4294967296), .int .u32 ((u 2 + v 2) % 4294967296), .int .u32 ((u 3 + v 3) % 4294967296), .int .u32 ((u 4 + v 4) % 4294967296), .int .u32 ((u 5 + v 5) % 4294967296), .int .u32 ((u 6 + v 6) % 4294967296), .int .u32 ((u 7 + v 7) % 4294967296)]
          simp only [putL] at BR hW
          generalize World.setCell _ ⟨w.heap.size + 1, 7, none⟩ _ = WE at *
          have hl := run_load8 _ rfl _ _ (fun j v h => (BR j v h).1)
          refine bodyPost_ret (v := RV) ?_ rfl ⟨rfl, hW⟩
          rw [HRV.out]
          exact results_cell Try.results114 rfl hl
  replace LEAF := hide LEAF
  clear hK
  refine anyK_begin X 7 rfl (by kernel_rfl) ?_
  refine anyK_take 0 3 4 rfl (by decide) (by kernel_rfl) (fun _ _ d _ _ h => by cases d <;> exact h) ?_
  repeat (refine headC_step (fun K hK => ?_); go_simp; first | (refine hK _ ?_; clear hK K) | (apply Exists.intro; refine ⟨fun _ => ?_, hK _ ?_⟩; ((go_at_call 130; exact Calls.re_of (HS.out _))); clear hK K))
  refine headC_nil ?_
  clear k0 k1 k2 k3 k4 k5 k6 k7 HS
  refine anyK_two 3 4 (by kernel_rfl) ?_ ?_
  · refine stepK_run rfl ?_
    intro w2 h2 K2 hK2
    rw [if_pos (show _ = true by kernel_rfl)]
    refine wp_value (v := .pointer (some ⟨w2.heap.size, 0, none⟩)) (w' := w2.alloc (.cells (List.replicate 8 (.int .u32 0)).toArray 113)) (by kernel_rfl) ?_
    refine hK2 _ _ (.of_ext (h2.trans (Ext.alloc _ _))) ?_
    clear hK2 K2
    refine anyK_one 4 (by kernel_rfl) ?_
    refine stepK_run rfl ?_
    intro w3 h3 K2 hK2
    rw [if_pos (show _ = true by kernel_rfl)]
    refine wp_value (v := .pointer (some ⟨w3.heap.size, 0, none⟩)) (w' := w3.alloc (.cells (List.replicate 64 (.int .u32 0)).toArray 118)) (by kernel_rfl) ?_
    refine hK2 _ _ (.of_ext (((h2.trans (Ext.alloc _ _)).trans h3).trans (Ext.alloc _ _))) ?_
    clear hK2 K2
    refine anyK_one 5 (by kernel_rfl) ?_
    refine stepK_run rfl ?_
    intro w4 h4 K2 hK2
    obtain ⟨BS, BT, hV4, lS, lT, ne, sS, sT⟩ := two_alloc (z := List.replicate 8 (.int .u32 0)) (z' := List.replicate 64 (.int .u32 0)) h2 h3 h4
    
    clear h2 h3 h4
    generalize w2.heap.size = S at *
    generalize w3.heap.size = T at *
    rw [if_pos (show _ = true by kernel_rfl)]
    refine wp_skip (w' := putL S 0 [.int .u32 (u 0), .int .u32 (u 1), .int .u32 (u 2), .int .u32 (u 3), .int .u32 (u 4), .int .u32 (u 5), .int .u32 (u 6), .int .u32 (u 7)] w4) ?_ ?_
    · show ((do Instr.storeAt 113 (.pointer (some ⟨S, 0, none⟩)) (.agg ([.int .u32 (u 0), .int .u32 (u 1), .int .u32 (u 2), .int .u32 (u 3), .int .u32 (u 4), .int .u32 (u 5), .int .u32 (u 6), .int .u32 (u 7)] : List Value).toArray); pure .skip : Sem Next)).run Try.prog w4 = _
      rw [Sem.run_bind, run_store8 [.int .u32 (u 0), .int .u32 (u 1), .int .u32 (u 2), .int .u32 (u 3), .int .u32 (u 4), .int .u32 (u 5), .int .u32 (u 6), .int .u32 (u 7)] rfl (fun v hv => by simp at hv; rcases hv with rfl | rfl | rfl | rfl | rfl | rfl | rfl | rfl <;> rfl) _ w4 (fun j hj => by rw [(BS j _ (zero_at hj _)).1]; rfl) (fun j hj => (BS j _ (zero_at hj _)).2)]
      rfl
    refine hK2 _ _ (Grw.putL (x1 _ lS) _ _ _ (.of_ext hV4)) ?_
    clear hK2 K2
    refine anyK_one 6 (by kernel_rfl) ?_
    refine stepK_run rfl ?_
    intro w5 h5 K2 hK2
    have BT5 := (BT.put_other [.int .u32 (u 0), .int .u32 (u 1), .int .u32 (u 2), .int .u32 (u 3), .int .u32 (u 4), .int .u32 (u 5), .int .u32 (u 6), .int .u32 (u 7)] ne.symm).ext h5 (by rw [size_putL]; exact sT)
    have BS5 := (BS.put [.int .u32 (u 0), .int .u32 (u 1), .int .u32 (u 2), .int .u32 (u 3), .int .u32 (u 4), .int .u32 (u 5), .int .u32 (u 6), .int .u32 (u 7)] rfl).ext h5 (by rw [size_putL]; exact sS)
    have hV5 := (hV4.putL lS [.int .u32 (u 0), .int .u32 (u 1), .int .u32 (u 2), .int .u32 (u 3), .int .u32 (u 4), .int .u32 (u 5), .int .u32 (u 6), .int .u32 (u 7)]).trans h5
    rw [if_pos (show _ = true by kernel_rfl)]
    refine wp_skip (w' := putL T 0 (schC b) w5) ?_ ?_
    · show ((do Instr.storeAt 118 (.pointer (some ⟨T, 0, none⟩)) (.agg (schC b).toArray); pure .skip : Sem Next)).run Try.prog w5 = _
      rw [Sem.run_bind, run_store64 (schC b) (schC_len b) (schC_one b) _ w5 (fun j hj => by rw [(BT5 j _ (zero_at hj _)).1]; rfl) (fun j hj => (BT5 j _ (zero_at hj _)).2)]
      rfl
    refine hK2 _ _ (Grw.putL (x1 _ lT) _ _ _ ((Grw.putL (x1 _ lS) _ _ _ (.of_ext hV4)).trans (.of_ext h5))) ?_
    clear hK2 K2
    refine anyK_done (by kernel_rfl) ?_ 0
    intro w6 h6
    have A5 : Arr (putL T 0 (schC b) w5) T 64 .u32 (schV b) := Arr.of_blk (BT5.put (schC b) (by rw [schC_len, List.length_replicate])) (fun i hi => schC_at b hi)
    have hV6 := (hV5.putL lT (schC b)).trans h6
    exact LEAF.out S T w6 lS lT ne ⟨hE.trans hV6, Arr.of_blk8 (B1.ext hV6 (by omega)), Arr.of_blk (B2.ext hV6 (by omega)) (fun i hi => zero_at (n := 8) hi _), A5.ext h6, (Arr.putL_other (Arr.of_blk8 BS5) ne _).ext h6⟩
  · refine stepK_run rfl ?_
    intro w2 h2 K2 hK2
    rw [if_pos (show _ = true by kernel_rfl)]
    refine wp_value (v := .pointer (some ⟨w2.heap.size, 0, none⟩)) (w' := w2.alloc (.cells (List.replicate 64 (.int .u32 0)).toArray 118)) (by kernel_rfl) ?_
    refine hK2 _ _ (.of_ext (h2.trans (Ext.alloc _ _))) ?_
    clear hK2 K2
    refine anyK_one 3 (by kernel_rfl) ?_
    refine stepK_run rfl ?_
    intro w3 h3 K2 hK2
    rw [if_pos (show _ = true by kernel_rfl)]
    refine wp_value (v := .pointer (some ⟨w3.heap.size, 0, none⟩)) (w' := w3.alloc (.cells (List.replicate 8 (.int .u32 0)).toArray 113)) (by kernel_rfl) ?_
    refine hK2 _ _ (.of_ext (((h2.trans (Ext.alloc _ _)).trans h3).trans (Ext.alloc _ _))) ?_
    clear hK2 K2
    refine anyK_one 5 (by kernel_rfl) ?_
    refine stepK_run rfl ?_
    intro w4 h4 K2 hK2
    obtain ⟨BT, BS, hV4, lT, lS, ne', sT, sS⟩ := two_alloc (z := List.replicate 64 (.int .u32 0)) (z' := List.replicate 8 (.int .u32 0)) h2 h3 h4
    have ne := ne'.symm
    clear h2 h3 h4
    generalize w2.heap.size = T at *
    generalize w3.heap.size = S at *
    rw [if_pos (show _ = true by kernel_rfl)]
    refine wp_skip (w' := putL S 0 [.int .u32 (u 0), .int .u32 (u 1), .int .u32 (u 2), .int .u32 (u 3), .int .u32 (u 4), .int .u32 (u 5), .int .u32 (u 6), .int .u32 (u 7)] w4) ?_ ?_
    · show ((do Instr.storeAt 113 (.pointer (some ⟨S, 0, none⟩)) (.agg ([.int .u32 (u 0), .int .u32 (u 1), .int .u32 (u 2), .int .u32 (u 3), .int .u32 (u 4), .int .u32 (u 5), .int .u32 (u 6), .int .u32 (u 7)] : List Value).toArray); pure .skip : Sem Next)).run Try.prog w4 = _
      rw [Sem.run_bind, run_store8 [.int .u32 (u 0), .int .u32 (u 1), .int .u32 (u 2), .int .u32 (u 3), .int .u32 (u 4), .int .u32 (u 5), .int .u32 (u 6), .int .u32 (u 7)] rfl (fun v hv => by simp at hv; rcases hv with rfl | rfl | rfl | rfl | rfl | rfl | rfl | rfl <;> rfl) _ w4 (fun j hj => by rw [(BS j _ (zero_at hj _)).1]; rfl) (fun j hj => (BS j _ (zero_at hj _)).2)]
      rfl
    refine hK2 _ _ (Grw.putL (x1 _ lS) _ _ _ (.of_ext hV4)) ?_
    clear hK2 K2
    refine anyK_one 6 (by kernel_rfl) ?_
    refine stepK_run rfl ?_
    intro w5 h5 K2 hK2
    have BT5 := (BT.put_other [.int .u32 (u 0), .int .u32 (u 1), .int .u32 (u 2), .int .u32 (u 3), .int .u32 (u 4), .int .u32 (u 5), .int .u32 (u 6), .int .u32 (u 7)] ne.symm).ext h5 (by rw [size_putL]; exact sT)
    have BS5 := (BS.put [.int .u32 (u 0), .int .u32 (u 1), .int .u32 (u 2), .int .u32 (u 3), .int .u32 (u 4), .int .u32 (u 5), .int .u32 (u 6), .int .u32 (u 7)] rfl).ext h5 (by rw [size_putL]; exact sS)
    have hV5 := (hV4.putL lS [.int .u32 (u 0), .int .u32 (u 1), .int .u32 (u 2), .int .u32 (u 3), .int .u32 (u 4), .int .u32 (u 5), .int .u32 (u 6), .int .u32 (u 7)]).trans h5
    rw [if_pos (show _ = true by kernel_rfl)]
    refine wp_skip (w' := putL T 0 (schC b) w5) ?_ ?_
    · show ((do Instr.storeAt 118 (.pointer (some ⟨T, 0, none⟩)) (.agg (schC b).toArray); pure .skip : Sem Next)).run Try.prog w5 = _
      rw [Sem.run_bind, run_store64 (schC b) (schC_len b) (schC_one b) _ w5 (fun j hj => by rw [(BT5 j _ (zero_at hj _)).1]; rfl) (fun j hj => (BT5 j _ (zero_at hj _)).2)]
      rfl
    refine hK2 _ _ (Grw.putL (x1 _ lT) _ _ _ ((Grw.putL (x1 _ lS) _ _ _ (.of_ext hV4)).trans (.of_ext h5))) ?_
    clear hK2 K2
    refine anyK_done (by kernel_rfl) ?_ 0
    intro w6 h6
    have A5 : Arr (putL T 0 (schC b) w5) T 64 .u32 (schV b) := Arr.of_blk (BT5.put (schC b) (by rw [schC_len, List.length_replicate])) (fun i hi => schC_at b hi)
    have hV6 := (hV5.putL lT (schC b)).trans h6
    exact LEAF.out S T w6 lS lT ne ⟨hE.trans hV6, Arr.of_blk8 (B1.ext hV6 (by omega)), Arr.of_blk (B2.ext hV6 (by omega)) (fun i hi => zero_at (n := 8) hi _), A5.ext h6, (Arr.putL_other (Arr.of_blk8 BS5) ne _).ext h6⟩

end Go.Proofs.Ytjkojofpkeglpab
