/- Walks: the program's behind. -/
import Derived.Test.YtjkojofpkeglpabShaR
namespace Go.Proofs.Ytjkojofpkeglpab
set_option linter.unusedVariables false
set_option linter.unusedSimpArgs false
open Go.RowKit

/-- In the midst of the blocks: q are behind. -/
structure AtH (w wr : World) (h b : Nat → Int) (g N q : Nat) (d : Value) : Prop where
  le : 64 * q ≤ N
  val : ∃ a off cap, d = .slice a (N - 64 * q) cap ∧ N - 64 * q ≤ cap ∧ cap ≤ 9223372036854775807 ∧ BSeg wr a g off (N - 64 * q) (fun i => b (64 * q + i))
  ext : Ext w wr
  st : Arr wr w.heap.size 8 .u32 (fun i => blocksV h b q i % 4294967296)
  res : Arr wr (w.heap.size + 1) 8 .u32 (fun _ => 0)

theorem blocksV_step (h b : Nat → Int) (q i : Nat) : blockV (blocksV h b q) (fun i => b (64 * q + i)) i = blocksV h b (q + 1) i % 4294967296 := by
  show _ = blockV (blocksV h b q) (fun i => b (64 * q + i)) i % 4294967296
  have h1 := blockV_lo (blocksV h b q) (fun i => b (64 * q + i)) i
  have h2 := blockV_hi (blocksV h b q) (fun i => b (64 * q + i)) i
  omega

/-- Two results, the first in a block. -/
theorem results_cell_tmp {P : Program} {fn : Func} {a b : Nat} {T : TypeId} (hf : fn.results = #[.cell a T, .tmp b]) {tmps : Array Value} {q : Addr} {v u : Value} {W : World} (ht : tmps.getD a undef = .pointer (some q)) (hu : tmps.getD b undef = u) (hl : (loadVar T q).run P W = .ok v W) : (results fn tmps).run P W = .ok (.tuple #[v, u]) W := by
  unfold results
  rw [hf]
  rw [Array.getD_eq_getD_getElem?] at ht hu
  simp [ht, hu, asAddr, hl, Sem.run_bind, Sem.run_pure, Result.andThen_ok]

set_option maxHeartbeats 3200000 in
set_option maxRecDepth 100000 in
theorem behind_any (h b : Nat → Int) (a : Option Addr) (g off N cap : Nat) (w : World) (hb : BSeg w a g off N b) (hN : N ≤ 1048576) (hcap : N ≤ cap) (hbig : cap ≤ 9223372036854775807) (hby : ∀ i, i < N → 0 ≤ b i ∧ b i < 256) :
    Calls Try.prog 83 #[.agg #[.int .u32 (h 0 % 4294967296), .int .u32 (h 1 % 4294967296), .int .u32 (h 2 % 4294967296), .int .u32 (h 3 % 4294967296), .int .u32 (h 4 % 4294967296), .int .u32 (h 5 % 4294967296), .int .u32 (h 6 % 4294967296), .int .u32 (h 7 % 4294967296)], .slice a N cap] w fun e w' => ∃ a' off' cap', e = .returned (.tuple #[.agg #[.int .u32 (blocksV h b (N / 64) 0 % 4294967296), .int .u32 (blocksV h b (N / 64) 1 % 4294967296), .int .u32 (blocksV h b (N / 64) 2 % 4294967296), .int .u32 (blocksV h b (N / 64) 3 % 4294967296), .int .u32 (blocksV h b (N / 64) 4 % 4294967296), .int .u32 (blocksV h b (N / 64) 5 % 4294967296), .int .u32 (blocksV h b (N / 64) 6 % 4294967296), .int .u32 (blocksV h b (N / 64) 7 % 4294967296)], .slice a' (N % 64) cap']) ∧ BSeg w' a' g off' (N % 64) (fun i => b (64 * (N / 64) + i)) ∧ N % 64 ≤ cap' ∧ Ext w w' := by
  have HBk : Hid (∀ (h b : Nat → Int) (r : Option Addr) (g off cap : Nat) (w : World) (hb : BSeg w r g off 64 b) (hcap : 64 ≤ cap) (hbig : cap ≤ 9223372036854775807) (hby : ∀ i, i < 64 → 0 ≤ b i ∧ b i < 256), Calls Try.prog 114 #[.agg #[.int .u32 (h 0 % 4294967296), .int .u32 (h 1 % 4294967296), .int .u32 (h 2 % 4294967296), .int .u32 (h 3 % 4294967296), .int .u32 (h 4 % 4294967296), .int .u32 (h 5 % 4294967296), .int .u32 (h 6 % 4294967296), .int .u32 (h 7 % 4294967296)], .slice r 64 cap] w fun e w' => e = .returned (.agg #[.int .u32 (blockV h b 0), .int .u32 (blockV h b 1), .int .u32 (blockV h b 2), .int .u32 (blockV h b 3), .int .u32 (blockV h b 4), .int .u32 (blockV h b 5), .int .u32 (blockV h b 6), .int .u32 (blockV h b 7)]) ∧ Ext w w') := behindBlock_any
  have Hy := hide hby
  go_enter Try.func83, Try.ntmps83
  go_wp2
  obtain ⟨V, hV⟩ : ∃ V, (w.alloc (.cells #[.int .u32 (h 0 % 4294967296), .int .u32 (h 1 % 4294967296), .int .u32 (h 2 % 4294967296), .int .u32 (h 3 % 4294967296), .int .u32 (h 4 % 4294967296), .int .u32 (h 5 % 4294967296), .int .u32 (h 6 % 4294967296), .int .u32 (h 7 % 4294967296)] 113)).alloc (.cells #[.int .u32 0, .int .u32 0, .int .u32 0, .int .u32 0, .int .u32 0, .int .u32 0, .int .u32 0, .int .u32 0] 113) = V := ⟨_, rfl⟩
  obtain ⟨B1, B2, hE, hz⟩ := box2 w [.int .u32 (h 0 % 4294967296), .int .u32 (h 1 % 4294967296), .int .u32 (h 2 % 4294967296), .int .u32 (h 3 % 4294967296), .int .u32 (h 4 % 4294967296), .int .u32 (h 5 % 4294967296), .int .u32 (h 6 % 4294967296), .int .u32 (h 7 % 4294967296)] [.int .u32 0, .int .u32 0, .int .u32 0, .int .u32 0, .int .u32 0, .int .u32 0, .int .u32 0, .int .u32 0] 113 113 (hV ▸ Ext.refl _ : Ext _ V)
  simp only [hV]
  clear hV
  have HA : Hid (AtH w V h b g N 0 (.slice a N cap)) := hide ⟨by omega, ⟨a, off, cap, rfl, hcap, hbig, (hb.of_all hE).congr (fun i _ => by show b i = b (64 * 0 + i); rw [Nat.mul_zero, Nat.zero_add])⟩, hE, Arr.of_blk8 (f := fun i => h i % 4294967296) B1, Arr.of_blk B2 (fun i hi => zero_at (n := 8) hi _)⟩
  have hg : 0 < N → g < w.heap.size := fun hp => hb.lt hp
  clear hb B1 B2 hE hby
  rename_i K hK
  have HK := hide hK
  clear hK
  go_loopw [1] (fun d wr => ∃ q : Nat, AtH w wr h b g N q d) (fun d _ => (match d with | .slice _ n _ => n | _ => 0))
  case atStart => exact ⟨0, HA.out⟩
  case round =>
    clear HA
    obtain ⟨q, hat⟩ := hrel
    obtain ⟨a1, off1, cap1, rfl, hc1, hb1, hs1⟩ := hat.val
    by_cases hlt : 64 ≤ N - 64 * q
    · obtain rfl := hs1.at' (by omega)
      obtain ⟨L, hL⟩ : ∃ L, L = N - 64 * q := ⟨_, rfl⟩
      rw [← hL] at hs1 hc1 hlt ⊢
      have l64 : (64 : Int) ≤ L := by omega
      have c64 : (64 : Int) ≤ cap1 := by omega
      have hgw := hg (by omega)
      have Hat := hide hat
      have Hs := hide hs1
      clear hat hs1
      obtain ⟨v, hv⟩ : ∃ v : Nat → Int, v = blocksV h b q := ⟨_, rfl⟩
      obtain ⟨v2, hv2⟩ : ∃ v2 : Nat → Int, v2 = fun i => blocksV h b (q + 1) i % 4294967296 := ⟨_, rfl⟩
      have HC : Hid (∀ w', Ext wr w' → Calls Try.prog 114 #[.agg #[.int .u32 (v 0 % 4294967296), .int .u32 (v 1 % 4294967296), .int .u32 (v 2 % 4294967296), .int .u32 (v 3 % 4294967296), .int .u32 (v 4 % 4294967296), .int .u32 (v 5 % 4294967296), .int .u32 (v 6 % 4294967296), .int .u32 (v 7 % 4294967296)], .slice (some ⟨g, off1, none⟩) 64 cap1] w' fun e w'' => e = .returned (.agg #[.int .u32 (v2 0), .int .u32 (v2 1), .int .u32 (v2 2), .int .u32 (v2 3), .int .u32 (v2 4), .int .u32 (v2 5), .int .u32 (v2 6), .int .u32 (v2 7)]) ∧ Ext w' w'') := fun w' he => by
        have := HBk.out v (fun i => b (64 * q + i)) (some ⟨g, off1, none⟩) g off1 cap1 w' ((Hs.out.of_all he).cut (by omega)) (by omega) hb1 (fun i hi => Hy.out _ (by omega))
        rw [hv, blocksV_step h b q 0, blocksV_step h b q 1, blocksV_step h b q 2, blocksV_step h b q 3, blocksV_step h b q 4, blocksV_step h b q 5, blocksV_step h b q 6, blocksV_step h b q 7] at this
        rw [hv, hv2]
        exact this
      have Hst : Hid (Arr wr w.heap.size 8 .u32 (fun i => v i % 4294967296)) := hide (by rw [hv]; exact Hat.out.st)
      clear hv HBk
      obtain ⟨X, hX⟩ : ∃ X : Nat → Prop, X = fun k => k = w.heap.size := ⟨_, rfl⟩
      have xS : X w.heap.size := by rw [hX]
      clear hX
      go_wp2
      refine anyK_begin X 5 rfl (by kernel_rfl) ?_
      refine anyK_take 1 2 3 rfl (by decide) (by kernel_rfl) (fun _ _ d _ _ h => by cases d <;> exact h) ?_
      repeat (refine headC_step (fun K hK => ?_); go_simp; first | (refine hK _ ?_; clear hK K) | (apply Exists.intro; refine ⟨fun _ => ?_, hK _ ?_⟩; (fail); clear hK K))
      refine headC_nil ?_
      refine anyK_one 0 (by kernel_rfl) ?_
      refine stepK_run rfl ?_
      intro w2 h2 K2 hK2
      have A2 := Hst.out.ext h2
      obtain ⟨c0, f0⟩ := A2 0 (by omega)
      obtain ⟨c1, f1⟩ := A2 1 (by omega)
      obtain ⟨c2, f2⟩ := A2 2 (by omega)
      obtain ⟨c3, f3⟩ := A2 3 (by omega)
      obtain ⟨c4, f4⟩ := A2 4 (by omega)
      obtain ⟨c5, f5⟩ := A2 5 (by omega)
      obtain ⟨c6, f6⟩ := A2 6 (by omega)
      obtain ⟨c7, f7⟩ := A2 7 (by omega)
      go_simp
      refine hK2 _ _ (.of_ext h2) ?_
      clear hK2 K2 c0 c1 c2 c3 c4 c5 c6 c7 f0 f1 f2 f3 f4 f5 f6 f7 A2
      refine anyK_one 3 (by kernel_rfl) ?_
      refine stepK_run rfl ?_
      intro w3 h3 K2 hK2
      replace h3 := h2.trans h3
      clear h2
      go_simp
      refine (HC.out _ h3).mono ?_
      rintro e w4 ⟨rfl, h4⟩
      replace h4 := h3.trans h4
      clear h3
      refine hK2 _ _ (.of_ext h4) ?_
      clear hK2 K2
      refine anyK_one 4 (by kernel_rfl) ?_
      refine stepK_run rfl ?_
      intro w5 h5 K2 hK2
      replace h5 := h4.trans h5
      clear h4
      have A5 := Hst.out.ext h5
      rw [if_pos (show _ = true by kernel_rfl)]
      refine wp_skip (w' := putL w.heap.size 0 [.int .u32 (v2 0), .int .u32 (v2 1), .int .u32 (v2 2), .int .u32 (v2 3), .int .u32 (v2 4), .int .u32 (v2 5), .int .u32 (v2 6), .int .u32 (v2 7)] w5) ?_ ?_
      · show ((do Instr.storeAt 113 (.pointer (some ⟨w.heap.size, 0, none⟩)) (.agg ([.int .u32 (v2 0), .int .u32 (v2 1), .int .u32 (v2 2), .int .u32 (v2 3), .int .u32 (v2 4), .int .u32 (v2 5), .int .u32 (v2 6), .int .u32 (v2 7)] : List Value).toArray); pure .skip : Sem Next)).run Try.prog w5 = _
        rw [Sem.run_bind, run_store8 [.int .u32 (v2 0), .int .u32 (v2 1), .int .u32 (v2 2), .int .u32 (v2 3), .int .u32 (v2 4), .int .u32 (v2 5), .int .u32 (v2 6), .int .u32 (v2 7)] rfl (fun v hv => by simp at hv; rcases hv with rfl | rfl | rfl | rfl | rfl | rfl | rfl | rfl <;> rfl) _ w5 (fun j hj => by rw [(A5 j hj).1]; rfl) (fun j hj => (A5 j hj).2)]
        rfl
      refine hK2 _ _ (Grw.putL xS _ _ _ (.of_ext h5)) ?_
      clear hK2 K2
      refine anyK_done (by kernel_rfl) ?_ 0
      intro w6 h6
      have HX : Hid (Ext w w6 ∧ Arr w6 w.heap.size 8 .u32 v2 ∧ Arr w6 (w.heap.size + 1) 8 .u32 (fun _ => 0) ∧ BSeg w6 (some ⟨g, off1, none⟩) g off1 L (fun i => b (64 * q + i))) := by
        have e6 : Ext w w6 := ((Hat.out.ext.trans h5).putL (Nat.le_refl _) _).trans h6
        refine hide ⟨e6, (Arr.of_blk8 (A5.blk8.put [.int .u32 (v2 0), .int .u32 (v2 1), .int .u32 (v2 2), .int .u32 (v2 3), .int .u32 (v2 4), .int .u32 (v2 5), .int .u32 (v2 6), .int .u32 (v2 7)] rfl)).ext h6, ((Hat.out.res.ext h5).putL_other (by omega) _).ext h6, ⟨fun _ => rfl, fun i hi => ?_⟩⟩
        rw [World.cell?_of_block (a := ⟨g, off1 + i, none⟩) (Below.block e6 g hgw), ← World.cell?_of_block (a := ⟨g, off1 + i, none⟩) (Below.block Hat.out.ext g hgw)]
        exact Hs.out.cell i hi
      clear h6 h5 A5 Hst HC
      go_wp2
      go_roundw
      case rel =>
        refine ⟨q + 1, ⟨by omega, ⟨_, off1 + 64, _, rfl, ?_, ?_, ?_⟩, HX.out.1, by rw [← hv2]; exact HX.out.2.1, HX.out.2.2.1⟩⟩
        · omega
        · omega
        · refine ⟨fun hp => ?_, fun i hi => ?_⟩
          · rw [if_neg (by omega)]
          · have := HX.out.2.2.2.cell (64 + i) (by omega)
            rw [show off1 + 64 + i = off1 + (64 + i) by omega, this, show 64 * (q + 1) + i = 64 * q + (64 + i) by omega]
      case measure => simp; omega
    · have Hat := hide hat
      have hq : q = N / 64 := by have := Hat.out.le; omega
      have hr : N - 64 * q = N % 64 := by omega
      subst hq
      obtain ⟨L, hL⟩ : ∃ L, L = N % 64 := ⟨_, rfl⟩
      rw [hr, ← hL] at hs1 hc1
      rw [hr, ← hL]
      have l64 : ¬ (64 : Int) ≤ (L : Int) := by omega
      have HL := hide hL
      clear hr hL
      have Hs := hide hs1
      obtain ⟨v, hv⟩ : ∃ v : Nat → Int, v = fun i => blocksV h b (N / 64) i % 4294967296 := ⟨_, rfl⟩
      have A1 : Arr wr w.heap.size 8 .u32 v := by rw [hv]; exact hat.st
      have Hv := hide hv
      clear hv
      have A2 := hat.res
      have H2 := hide A2
      have HE := hide hat.ext
      obtain ⟨c0, f0⟩ := A1 0 (by omega)
      obtain ⟨c1, f1⟩ := A1 1 (by omega)
      obtain ⟨c2, f2⟩ := A1 2 (by omega)
      obtain ⟨c3, f3⟩ := A1 3 (by omega)
      obtain ⟨c4, f4⟩ := A1 4 (by omega)
      obtain ⟨c5, f5⟩ := A1 5 (by omega)
      obtain ⟨c6, f6⟩ := A1 6 (by omega)
      obtain ⟨c7, f7⟩ := A1 7 (by omega)
      obtain ⟨z0, y0⟩ := A2 0 (by omega)
      obtain ⟨z1, y1⟩ := A2 1 (by omega)
      obtain ⟨z2, y2⟩ := A2 2 (by omega)
      obtain ⟨z3, y3⟩ := A2 3 (by omega)
      obtain ⟨z4, y4⟩ := A2 4 (by omega)
      obtain ⟨z5, y5⟩ := A2 5 (by omega)
      obtain ⟨z6, y6⟩ := A2 6 (by omega)
      obtain ⟨z7, y7⟩ := A2 7 (by omega)
      clear hat hs1 A1 A2
      go_wp2
      apply HK.out
      clear HK
      go_wp2
      have BR := H2.out.blk8.put [.int .u32 (v 0), .int .u32 (v 1), .int .u32 (v 2), .int .u32 (v 3), .int .u32 (v 4), .int .u32 (v 5), .int .u32 (v 6), .int .u32 (v 7)] rfl
      have hW := HE.out.putL (C := w.heap.size + 1) (by omega) [.int .u32 (v 0), .int .u32 (v 1), .int .u32 (v 2), .int .u32 (v 3), .int .u32 (v 4), .int .u32 (v 5), .int .u32 (v 6), .int .u32 (v 7)]
      have hS : BSeg (putL (w.heap.size + 1) 0 [.int .u32 (v 0), .int .u32 (v 1), .int .u32 (v 2), .int .u32 (v 3), .int .u32 (v 4), .int .u32 (v 5), .int .u32 (v 6), .int .u32 (v 7)] wr) a1 g off1 L (fun i => b (64 * (N / 64) + i)) := ⟨Hs.out.at', fun i hi => by
        have hp : 0 < N := by have := HL.out; omega
        rw [cell_putL_other _ _ _ _ _ (fun e => by have := hg hp; simp only at e; omega)]
        exact Hs.out.cell i hi⟩
      simp only [putL] at BR hW hS
      generalize World.setCell _ ⟨w.heap.size + 1, 7, none⟩ _ = WE at *
      have hl := run_load8 _ rfl _ _ (fun j v h => (BR j v h).1)
      have hl2 := hl
      rw [Hv.out] at hl2
      refine bodyPost_ret (v := .tuple #[.agg #[.int .u32 (blocksV h b (N / 64) 0 % 4294967296), .int .u32 (blocksV h b (N / 64) 1 % 4294967296), .int .u32 (blocksV h b (N / 64) 2 % 4294967296), .int .u32 (blocksV h b (N / 64) 3 % 4294967296), .int .u32 (blocksV h b (N / 64) 4 % 4294967296), .int .u32 (blocksV h b (N / 64) 5 % 4294967296), .int .u32 (blocksV h b (N / 64) 6 % 4294967296), .int .u32 (blocksV h b (N / 64) 7 % 4294967296)], .slice a1 L cap1]) ?_ rfl ?_
      · exact results_cell_tmp Try.results83 rfl rfl hl2
      · have hL := HL.out
        subst hL
        exact ⟨a1, off1, cap1, rfl, hS, hc1, hW⟩

end Go.Proofs.Ytjkojofpkeglpab
