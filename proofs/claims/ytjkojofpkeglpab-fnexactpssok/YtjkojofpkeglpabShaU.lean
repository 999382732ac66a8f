/- Walks: the program's Feed, of a right stream with room. -/
import Derived.Test.YtjkojofpkeglpabShaT
import Derived.Test.YtjkojofpkeglpabStrW
namespace Go.Proofs.Ytjkojofpkeglpab
set_option linter.unusedVariables false
set_option linter.unusedSimpArgs false
open Go.RowKit

/-- In mid-Feed: the stream's block, the answer's, both lists. -/
structure FeedAt (w wr : World) (h : Nat → Int) (r : Option Addr) (b off n cap : Nat) (f : Nat → Int) (many : Int) (da : Option Addr) (db doff m : Nat) (fd : Nat → Int) : Prop where
  ext : Ext w wr
  str : Blk wr w.heap.size [.int .i64 (h 0), .int .i64 (h 1), .int .i64 (h 2), .int .i64 (h 3), .int .i64 (h 4), .int .i64 (h 5), .int .i64 (h 6), .int .i64 (h 7), .slice r n cap, .int .i64 many]
  res : Blk wr (w.heap.size + 1) [.int .i64 0, .int .i64 0, .int .i64 0, .int .i64 0, .int .i64 0, .int .i64 0, .int .i64 0, .int .i64 0, .slice none 0 0, .int .i64 0]
  rest : BSeg wr r b off n f
  data : BSeg wr da db doff m fd
theorem FeedAt.up {w wr w' : World} {h : Nat → Int} {r : Option Addr} {b off n cap : Nat} {f : Nat → Int} {many : Int} {da : Option Addr} {db doff m : Nat} {fd : Nat → Int} (k : FeedAt w wr h r b off n cap f many da db doff m fd) (e : Ext wr w') : FeedAt w w' h r b off n cap f many da db doff m fd :=
  ⟨k.ext.trans e, k.str.ext e (World.block_lt_of_cell? _ _ (k.str 0 _ rfl).1), k.res.ext e (World.block_lt_of_cell? _ _ (k.res 0 _ rfl).1), k.rest.of_all e, k.data.of_all e⟩

theorem touch_putL' (C : Nat) : ∀ (vs : List Value) (i : Nat) (w0 w : World), Touch C w0 w → Touch C w0 (putL C i vs w)
  | [], _, _, _, h => h
  | v :: vs, i, w0, w, h => touch_putL' C vs (i + 1) w0 _ (h.set i v)
theorem owns_putL {w : World} {b : Nat} {v : Value} {n : Nat} {xs : List Value} (h : w.ownsRow b 5 1 v n xs) {C : Nat} (hC : C < b) (vs : List Value) : (putL C 0 vs w).ownsRow b 5 1 v n xs := by
  refine ⟨h.1, ?_⟩
  rcases h.2 with h | ⟨g, cap, cur, hv, hg, hr, hr'⟩
  · exact .inl h
  · refine .inr ⟨g, cap, cur, hv, hg, ?_, hr'⟩
    have hlt : g < w.heap.size := (Array.getElem?_eq_some_iff.1 hr).1
    rw [(touch_putL' C vs 0 w w (Touch.refl C w)).grown.block g hlt (by simp; omega)]
    exact hr

theorem run_load10 (cs : List Value) (hl : cs.length = 10) (b : Nat) (w : World) (hc : ∀ j v, cs[j]? = some v → w.cell? ⟨b, j, none⟩ = some v) :
    (loadVar 62 ⟨b, 0, none⟩).run Try.prog w = .ok (.agg cs.toArray) w := by
  have hs : (Go.sizeOf 62).run Try.prog w = .ok 10 w := by kernel_rfl
  have ha : (isAgg 62).run Try.prog w = .ok true w := by kernel_rfl
  have hld := run_loadCells_list (P := Try.prog) w ⟨b, 0, none⟩ cs (fun j v h => by
    have := hc j v h
    rwa [show (⟨b, 0, none⟩ : Addr).add j = ⟨b, j, none⟩ by unfold Addr.add; split <;> simp_all])
  rw [hl] at hld
  simp only [loadVar, Sem.run_bind, ha, Result.andThen_ok, if_true, hs, hld, Sem.run_pure]

set_option maxHeartbeats 6400000 in
set_option maxRecDepth 100000 in
theorem feed_yes (h : Nat → Int) (r : Option Addr) (b off n cap : Nat) (f : Nat → Int) (many : Int) (da : Option Addr) (db doff m dcap : Nat) (fd : Nat → Int) (w : World) (hok : StrOk h n many) (hm : (m : Int) ≤ 20000 - many) (hs : BSeg w r b off n f) (hd : BSeg w da db doff m fd) (hby : ∀ i, i < n → 0 ≤ f i ∧ f i < 256) (hdy : ∀ i, i < m → 0 ≤ fd i ∧ fd i < 256) :
    Calls Try.prog 47 #[.agg #[.int .i64 (h 0), .int .i64 (h 1), .int .i64 (h 2), .int .i64 (h 3), .int .i64 (h 4), .int .i64 (h 5), .int .i64 (h 6), .int .i64 (h 7), .slice r n cap, .int .i64 many], .slice da m dcap] w fun e w' => ∃ v, e = .returned (.tuple #[.agg #[.int .i64 (blocksV h (catF f n fd) ((n + m) / 64) 0 % 4294967296), .int .i64 (blocksV h (catF f n fd) ((n + m) / 64) 1 % 4294967296), .int .i64 (blocksV h (catF f n fd) ((n + m) / 64) 2 % 4294967296), .int .i64 (blocksV h (catF f n fd) ((n + m) / 64) 3 % 4294967296), .int .i64 (blocksV h (catF f n fd) ((n + m) / 64) 4 % 4294967296), .int .i64 (blocksV h (catF f n fd) ((n + m) / 64) 5 % 4294967296), .int .i64 (blocksV h (catF f n fd) ((n + m) / 64) 6 % 4294967296), .int .i64 (blocksV h (catF f n fd) ((n + m) / 64) 7 % 4294967296), v, .int .i64 (many + m)], .bool true]) ∧ w'.ownsRow w.heap.size 5 1 v ((n + m) % 64) (byts (fun i => catF f n fd (64 * ((n + m) / 64) + i)) ((n + m) % 64)) ∧ Ext w w' := by
  have hb := hok.2
  have n64 : n < 64 := by omega
  have HO := hide (implStreamOk_at h r n cap many true ⟨fun _ => hok, fun _ => rfl⟩)
  have hnm : ¬ (20000 - many < (m : Int)) := by omega
  have HSt := hide (stateOf_any h)
  go_enter Try.func47, Try.ntmps47
  go_wp2_with fail
  obtain ⟨V, hV⟩ : ∃ V, (w.alloc (.cells #[.int .i64 (h 0), .int .i64 (h 1), .int .i64 (h 2), .int .i64 (h 3), .int .i64 (h 4), .int .i64 (h 5), .int .i64 (h 6), .int .i64 (h 7), .slice r n cap, .int .i64 many] 62)).alloc (.cells #[.int .i64 0, .int .i64 0, .int .i64 0, .int .i64 0, .int .i64 0, .int .i64 0, .int .i64 0, .int .i64 0, .slice none 0 0, .int .i64 0] 62) = V := ⟨_, rfl⟩
  obtain ⟨B1, B2, hE, hz⟩ := box2 w [.int .i64 (h 0), .int .i64 (h 1), .int .i64 (h 2), .int .i64 (h 3), .int .i64 (h 4), .int .i64 (h 5), .int .i64 (h 6), .int .i64 (h 7), .slice r n cap, .int .i64 many] [.int .i64 0, .int .i64 0, .int .i64 0, .int .i64 0, .int .i64 0, .int .i64 0, .int .i64 0, .int .i64 0, .slice none 0 0, .int .i64 0] 62 62 (hV ▸ Ext.refl _ : Ext _ V)
  simp only [hV]
  clear hV
  refine (HO.out _).mono ?_
  rintro e w1 ⟨rfl, h1⟩
  have HF : Hid (FeedAt w w1 h r b off n cap f many da db doff m fd) := hide ⟨hE.trans h1, B1.ext h1 (by omega), B2.ext h1 (by omega), (hs.of_all hE).of_all h1, (hd.of_all hE).of_all h1⟩
  clear HO B1 B2 hE h1 hs hd hz
  have c0 := (HF.out.str 0 _ rfl).1
  have c1 := (HF.out.str 1 _ rfl).1
  have c2 := (HF.out.str 2 _ rfl).1
  have c3 := (HF.out.str 3 _ rfl).1
  have c4 := (HF.out.str 4 _ rfl).1
  have c5 := (HF.out.str 5 _ rfl).1
  have c6 := (HF.out.str 6 _ rfl).1
  have c7 := (HF.out.str 7 _ rfl).1
  have c8 := (HF.out.str 8 _ rfl).1
  have c9 := (HF.out.str 9 _ rfl).1
  have hmn := hb.1
  have hmx := hb.2.1
  go_wp2
  rename_i K hK
  obtain ⟨X, hX⟩ : ∃ X : Nat → Prop, X = fun k => w1.heap.size ≤ k := ⟨_, rfl⟩
  have x0 : ∀ k, k < w1.heap.size → ¬ X k := fun k h => by rw [hX]; simp; omega
  have x1 : ∀ k, w1.heap.size ≤ k → X k := fun k h => by rw [hX]; exact h
  clear hX
  have HY : Hid (∀ i, i < n + m → 0 ≤ catF f n fd i ∧ catF f n fd i < 256) := hide (fun i hi => by
    unfold catF
    split
    · exact hby i (by assumption)
    · exact hdy _ (by omega))
  have LEAF : ∀ (x0 x3 x5 x8 x9 x10 x11 x12 x13 x14 x15 x16 x17 x18 x19 x20 x21 x22 x23 x24 x25 x26 x27 x28 x29 x30 x31 x32 x33 x34 x35 x36 x37 x38 x39 x40 x41 x42 x43 x44 x45 x46 x47 x48 : Value) (T : Nat) (ra : Option Addr) (g roff rc : Nat) (w' : World), w1.heap.size ≤ T → FeedAt w w' h r b off n cap f many da db doff m fd → Blk w' T [.int .u32 (blocksV h (catF f n fd) ((n + m) / 64) 0 % 4294967296), .int .u32 (blocksV h (catF f n fd) ((n + m) / 64) 1 % 4294967296), .int .u32 (blocksV h (catF f n fd) ((n + m) / 64) 2 % 4294967296), .int .u32 (blocksV h (catF f n fd) ((n + m) / 64) 3 % 4294967296), .int .u32 (blocksV h (catF f n fd) ((n + m) / 64) 4 % 4294967296), .int .u32 (blocksV h (catF f n fd) ((n + m) / 64) 5 % 4294967296), .int .u32 (blocksV h (catF f n fd) ((n + m) / 64) 6 % 4294967296), .int .u32 (blocksV h (catF f n fd) ((n + m) / 64) 7 % 4294967296)] → BSeg w' ra g roff ((n + m) % 64) (fun i => catF f n fd (64 * ((n + m) / 64) + i)) → K { tmps := #[x0, .slice da m dcap, .pointer (some ⟨w.heap.size, 0, none⟩), x3, .pointer (some ⟨w.heap.size + 1, 0, none⟩), x5, .pointer (some ⟨T, 0, none⟩), .slice ra ((n + m) % 64) rc, x8, x9, x10, x11, x12, x13, x14, x15, x16, x17, x18, x19, x20, x21, x22, x23, x24, x25, x26, x27, x28, x29, x30, x31, x32, x33, x34, x35, x36, x37, x38, x39, x40, x41, x42, x43, x44, x45, x46, x47, x48], defers := [] } w' := by
    intro x0 x3 x5 x8 x9 x10 x11 x12 x13 x14 x15 x16 x17 x18 x19 x20 x21 x22 x23 x24 x25 x26 x27 x28 x29 x30 x31 x32 x33 x34 x35 x36 x37 x38 x39 x40 x41 x42 x43 x44 x45 x46 x47 x48 T ra g roff rc w' lT hF hT hB
    apply hK
    clear hK
    obtain ⟨L, hL⟩ : ∃ L, (n + m) % 64 = L := ⟨_, rfl⟩
    have hL2 : Hid (L ≤ n + m) := hide (by rw [← hL]; exact Nat.mod_le _ _)
    have HW := hide (words_any (blocksV h (catF f n fd) ((n + m) / 64)))
    obtain ⟨u, hu⟩ : ∃ u : Nat → Int, u = blocksV h (catF f n fd) ((n + m) / 64) := ⟨_, rfl⟩
    rw [← hu] at hT HW
    have HU := hide hu
    clear hu
    obtain ⟨fr, hfr⟩ : ∃ fr : Nat → Int, fr = (fun i => catF f n fd (64 * ((n + m) / 64) + i)) := ⟨_, rfl⟩
    rw [← hfr, hL] at hB
    rw [hL]
    have HFr := hide hfr
    have HL := hide hL
    clear hL hfr
    obtain ⟨X2, hX2⟩ : ∃ X : Nat → Prop, X = fun k => k = w.heap.size + 1 := ⟨_, rfl⟩
    have xA : X2 (w.heap.size + 1) := by rw [hX2]
    have xT : ¬ X2 T := by rw [hX2]; show ¬ _ = _; have := World.block_lt_of_cell? _ _ (HF.out.res 0 _ rfl).1; simp only at this; omega
    have xS : ¬ X2 w.heap.size := by rw [hX2]; show ¬ _ = _; omega
    clear hX2
    have k0 := cell_reC (X := X2) (hT 0 _ rfl).1 xT
    have k1 := cell_reC (X := X2) (hT 1 _ rfl).1 xT
    have k2 := cell_reC (X := X2) (hT 2 _ rfl).1 xT
    have k3 := cell_reC (X := X2) (hT 3 _ rfl).1 xT
    have k4 := cell_reC (X := X2) (hT 4 _ rfl).1 xT
    have k5 := cell_reC (X := X2) (hT 5 _ rfl).1 xT
    have k6 := cell_reC (X := X2) (hT 6 _ rfl).1 xT
    have k7 := cell_reC (X := X2) (hT 7 _ rfl).1 xT
    have km := cell_reC (X := X2) (hF.str 9 _ rfl).1 xS
    have HF2 := hide hF
    have HB2 := hide hB
    have Hmm : Hid (IntKind.i64.wrap (many + m) = many + m) := hide (by rw [IntKind.wrap_i64]; omega)
    have rmm := Hmm.out
    clear hF hT hB
    go_wp2
    refine anyK_begin X2 12 rfl (by kernel_rfl) ?_
    refine anyK_take 0 3 9 rfl (by decide) (by kernel_rfl) (fun _ _ d _ _ h => by cases d <;> exact h) ?_
    repeat (refine headC_step (fun K hK => ?_); go_simp; first | (refine hK _ ?_; clear hK K) | (apply Exists.intro; refine ⟨fun _ => ?_, hK _ ?_⟩; ((go_at_call 84; exact Calls.re_of (HW.out _))); clear hK K))
    refine headC_nil ?_
    refine anyK_take 4 5 4 rfl (by decide) (by kernel_rfl) (fun _ _ d _ _ h => by cases d <;> exact h) ?_
    repeat (refine headC_step (fun K hK => ?_); go_simp; first | (refine hK _ ?_; clear hK K) | (apply Exists.intro; refine ⟨fun _ => ?_, hK _ ?_⟩; (fail); clear hK K))
    refine headC_nil ?_
    clear k0 k1 k2 k3 k4 k5 k6 k7 km rmm
    refine anyK_one 3 (by kernel_rfl) ?_
    refine stepK_run rfl ?_
    intro w2 h2 K2 hK2
    go_simp
    refine (clone_any ra g roff L rc fr w2 (HB2.out.of_all h2) (by have := hL2.out; omega)).mono ?_
    rintro e w3 ⟨v, rfl, hO, h3⟩
    have hO3 := hO
    have hA2 : Hid (w.heap.size + 1 < w2.heap.size) := hide (Nat.lt_of_lt_of_le (World.block_lt_of_cell? _ _ (HF2.out.res 0 _ rfl).1) (Below.size h2))
    replace h3 := h2.trans h3
    clear hO h2
    refine hK2 _ _ (.of_ext h3) ?_
    clear hK2 K2
    obtain ⟨a2, g2, c2, rfl, -, -, -, -⟩ := owns_seg hO3
    refine anyK_take 9 1 2 rfl (by decide) (by kernel_rfl) (fun _ _ d _ _ h => by cases d <;> exact h) ?_
    repeat (refine headC_step (fun K hK => ?_); go_simp; first | (refine hK _ ?_; clear hK K) | (apply Exists.intro; refine ⟨fun _ => ?_, hK _ ?_⟩; (fail); clear hK K))
    refine headC_nil ?_
    refine anyK_one 10 (by kernel_rfl) ?_
    refine stepK_run rfl ?_
    intro w4 h4 K2 hK2
    have HR := HF2.out.up (h3.trans h4)
    obtain ⟨z0, y0⟩ := HR.res 0 _ rfl
    obtain ⟨z1, y1⟩ := HR.res 1 _ rfl
    obtain ⟨z2, y2⟩ := HR.res 2 _ rfl
    obtain ⟨z3, y3⟩ := HR.res 3 _ rfl
    obtain ⟨z4, y4⟩ := HR.res 4 _ rfl
    obtain ⟨z5, y5⟩ := HR.res 5 _ rfl
    obtain ⟨z6, y6⟩ := HR.res 6 _ rfl
    obtain ⟨z7, y7⟩ := HR.res 7 _ rfl
    obtain ⟨z8, y8⟩ := HR.res 8 _ rfl
    obtain ⟨z9, y9⟩ := HR.res 9 _ rfl
    go_simp
    refine hK2 _ _ (show Grw X2 w' (putL (w.heap.size + 1) 0 [.int .i64 (u 0 % 4294967296), .int .i64 (u 1 % 4294967296), .int .i64 (u 2 % 4294967296), .int .i64 (u 3 % 4294967296), .int .i64 (u 4 % 4294967296), .int .i64 (u 5 % 4294967296), .int .i64 (u 6 % 4294967296), .int .i64 (u 7 % 4294967296), .slice a2 L c2, .int .i64 (many + m)] w4) from Grw.putL xA _ _ _ (.of_ext (h3.trans h4))) ?_
    clear hK2 K2 z0 z1 z2 z3 z4 z5 z6 z7 z8 z9 y0 y1 y2 y3 y4 y5 y6 y7 y8 y9
    refine anyK_take 11 1 0 rfl (by decide) (by kernel_rfl) (fun _ _ d _ _ h => by cases d <;> exact h) ?_
    repeat (refine headC_step (fun K hK => ?_); go_simp; first | (refine hK _ ?_; clear hK K) | (apply Exists.intro; refine ⟨fun _ => ?_, hK _ ?_⟩; (fail); clear hK K))
    refine headC_nil ?_
    refine anyK_done (by kernel_rfl) ?_ 0
    intro w5 h5
    replace h5 : Ext (putL (w.heap.size + 1) 0 [.int .i64 (u 0 % 4294967296), .int .i64 (u 1 % 4294967296), .int .i64 (u 2 % 4294967296), .int .i64 (u 3 % 4294967296), .int .i64 (u 4 % 4294967296), .int .i64 (u 5 % 4294967296), .int .i64 (u 6 % 4294967296), .int .i64 (u 7 % 4294967296), .slice a2 L c2, .int .i64 (many + m)] w4) w5 := h5
    have hA : w.heap.size + 1 < w4.heap.size := World.block_lt_of_cell? _ _ (HR.res 0 _ rfl).1
    have HBl := hide ((HR.res.put [.int .i64 (u 0 % 4294967296), .int .i64 (u 1 % 4294967296), .int .i64 (u 2 % 4294967296), .int .i64 (u 3 % 4294967296), .int .i64 (u 4 % 4294967296), .int .i64 (u 5 % 4294967296), .int .i64 (u 6 % 4294967296), .int .i64 (u 7 % 4294967296), .slice a2 L c2, .int .i64 (many + m)] rfl).ext h5 (by rw [size_putL]; exact hA))
    have HEf : Hid (Ext w w5) := hide ((HR.ext.putL (by omega) _).trans h5)
    have HOf : Hid (w5.ownsRow w.heap.size 5 1 (.slice a2 L c2) L (byts fr L)) := by
      exact hide (owns_ext' (owns_mono (owns_putL (owns_ext' hO3 h4) hA2.out _) (Nat.le_of_lt (Nat.lt_of_succ_lt hA2.out))) h5)
    clear HR h3 h4 h5 hO3
    go_wp2
    have hl := run_load10 _ rfl _ _ (fun j v h => (HBl.out j v h).1)
    refine bodyPost_ret (v := .tuple #[.agg #[.int .i64 (u 0 % 4294967296), .int .i64 (u 1 % 4294967296), .int .i64 (u 2 % 4294967296), .int .i64 (u 3 % 4294967296), .int .i64 (u 4 % 4294967296), .int .i64 (u 5 % 4294967296), .int .i64 (u 6 % 4294967296), .int .i64 (u 7 % 4294967296), .slice a2 L c2, .int .i64 (many + m)], .bool true]) ?_ rfl ?_
    · exact results_cell_tmp Try.results47 rfl rfl hl
    · have hu := HU.out
      have hL := HL.out
      have hfr := HFr.out
      subst hu hL hfr
      exact ⟨_, rfl, HOf.out, HEf.out⟩
  have HF0 := HF
  have HLEAF := hide LEAF
  clear LEAF
  clear hK hby hdy
  have k0 := cell_reC (X := X) c0 (x0 _ (World.block_lt_of_cell? _ _ c0))
  have k1 := cell_reC (X := X) c1 (x0 _ (World.block_lt_of_cell? _ _ c1))
  have k2 := cell_reC (X := X) c2 (x0 _ (World.block_lt_of_cell? _ _ c2))
  have k3 := cell_reC (X := X) c3 (x0 _ (World.block_lt_of_cell? _ _ c3))
  have k4 := cell_reC (X := X) c4 (x0 _ (World.block_lt_of_cell? _ _ c4))
  have k5 := cell_reC (X := X) c5 (x0 _ (World.block_lt_of_cell? _ _ c5))
  have k6 := cell_reC (X := X) c6 (x0 _ (World.block_lt_of_cell? _ _ c6))
  have k7 := cell_reC (X := X) c7 (x0 _ (World.block_lt_of_cell? _ _ c7))
  have k8 := cell_reC (X := X) c8 (x0 _ (World.block_lt_of_cell? _ _ c8))
  have k9 := cell_reC (X := X) c9 (x0 _ (World.block_lt_of_cell? _ _ c9))
  clear c0 c1 c2 c3 c4 c5 c6 c7 c8 c9
  have HE : Hid (Ext w1 w1) := hide (Ext.refl _)
  refine anyK_begin X 15 rfl (by kernel_rfl) ?_
  refine anyK_take 0 6 9 rfl (by decide) (by kernel_rfl) (fun _ _ d _ _ h => by cases d <;> exact h) ?_
  repeat (refine headC_step (fun K hK => ?_); go_simp; first | (refine hK _ ?_; clear hK K) | (apply Exists.intro; refine ⟨fun _ => ?_, hK _ ?_⟩; ((go_at_call 82; exact Calls.re_of (HSt.out _))); clear hK K))
  refine headC_nil ?_
  clear k0 k1 k2 k3 k4 k5 k6 k7 k8 k9
  refine anyK_two 6 12 (by kernel_rfl) ?_ ?_
  · skip
    refine stepK_run rfl ?_
    intro w2 h2 K2 hK2
    replace HF := hide (HF.out.up h2)
    replace HE := hide (HE.out.trans h2)
    clear h2
    go_simp
    have e2 := Ext.alloc w2 (.cells #[.slice r n cap, .slice da m dcap] 22)
    refine hK2 _ _ (.of_ext (HE.out.trans e2)) ?_
    clear hK2 K2
    have HS := hide (Blk.alloc w2 [.slice r n cap, .slice da m dcap] 22)
    replace HF := hide (HF.out.up e2)
    replace HE := hide (HE.out.trans e2)
    clear e2
    generalize w2.alloc (.cells #[.slice r n cap, .slice da m dcap] 22) = w3 at *
    generalize w2.heap.size = S at *
    refine anyK_two 7 12 (by kernel_rfl) ?_ ?_
    · skip
      refine stepK_run rfl ?_
      intro w4 h4 K2 hK2
      replace HF := hide (HF.out.up h4)
      replace HE := hide (HE.out.trans h4)
      replace HS := hide (HS.out.ext h4 (World.block_lt_of_cell? _ _ (HS.out 0 _ rfl).1))
      clear h4
      go_simp
      refine (concat2_any S 2 r b off n cap f da db doff m dcap fd w4 HS.out HF.out.rest HF.out.data (by omega)).mono ?_
      rintro e w5 ⟨ca, cg, cc, rfl, hcg, hcc, hcb, hcO, e4⟩
      refine hK2 _ _ (.of_ext (HE.out.trans e4)) ?_
      clear hK2 K2
      replace HF := hide (HF.out.up e4)
      replace HE := hide (HE.out.trans e4)
      replace HS := hide (HS.out.ext e4 (World.block_lt_of_cell? _ _ (HS.out 0 _ rfl).1))
      have HC := hide hcO.toBSeg
      clear e4 hcO hcg
      refine anyK_two 8 12 (by kernel_rfl) ?_ ?_
      · skip
        refine stepK_run rfl ?_
        intro w6 h6 K2 hK2
        replace HF := hide (HF.out.up h6)
        replace HE := hide (HE.out.trans h6)
        replace HS := hide (HS.out.ext h6 (World.block_lt_of_cell? _ _ (HS.out 0 _ rfl).1))
        replace HC := hide (HC.out.of_all h6)
        clear h6
        go_simp
        refine (behind_any h (catF f n fd) ca cg 0 (n + m) cc w6 HC.out (by omega) hcc hcb HY.out).mono ?_
        rintro e w7 ⟨ra, roff, rc, rfl, hrB, hrc, e6⟩
        refine hK2 _ _ (.of_ext (HE.out.trans e6)) ?_
        clear hK2 K2
        replace HF := hide (HF.out.up e6)
        replace HE := hide (HE.out.trans e6)
        replace HS := hide (HS.out.ext e6 (World.block_lt_of_cell? _ _ (HS.out 0 _ rfl).1))
        replace HC := hide (HC.out.of_all e6)
        have HB := hide hrB
        clear e6 hrB
        refine anyK_take 9 3 3 rfl (by decide) (by kernel_rfl) (fun _ _ d _ _ h => by cases d <;> exact h) ?_
        repeat (refine headC_step (fun K hK => ?_); go_simp; first | (refine hK _ ?_; clear hK K) | (apply Exists.intro; refine ⟨fun _ => ?_, hK _ ?_⟩; (fail); clear hK K))
        refine headC_nil ?_
        refine anyK_one 12 (by kernel_rfl) ?_
        refine stepK_run rfl ?_
        intro w8 h8 K2 hK2
        replace HF := hide (HF.out.up h8)
        replace HE := hide (HE.out.trans h8)
        replace HS := hide (HS.out.ext h8 (World.block_lt_of_cell? _ _ (HS.out 0 _ rfl).1))
        replace HC := hide (HC.out.of_all h8)
        replace HB := hide (HB.out.of_all h8)
        clear h8
        rw [if_pos (show _ = true by kernel_rfl)]
        have e8 := Ext.alloc w8 (.cells (List.replicate 8 (.int .u32 0)).toArray 113)
        refine wp_value (v := .pointer (some ⟨w8.heap.size, 0, none⟩)) (w' := w8.alloc (.cells (List.replicate 8 (.int .u32 0)).toArray 113)) (by kernel_rfl) ?_
        refine hK2 _ _ (.of_ext (HE.out.trans e8)) ?_
        clear hK2 K2
        have HT := hide (Blk.alloc w8 (List.replicate 8 (.int .u32 0)) 113)
        have hT : Hid (w1.heap.size ≤ w8.heap.size) := hide (Below.size HE.out)
        have hD : Hid (0 < n + m → cg ≠ w8.heap.size) := hide (fun hp => by have := HC.out.lt hp; omega)
        replace HF := hide (HF.out.up e8)
        replace HE := hide (HE.out.trans e8)
        replace HS := hide (HS.out.ext e8 (World.block_lt_of_cell? _ _ (HS.out 0 _ rfl).1))
        replace HC := hide (HC.out.of_all e8)
        replace HB := hide (HB.out.of_all e8)
        clear e8
        generalize w8.alloc (.cells (List.replicate 8 (.int .u32 0)).toArray 113) = w9 at *
        generalize w8.heap.size = T at *
        refine anyK_one 13 (by kernel_rfl) ?_
        refine stepK_run rfl ?_
        intro w10 h10 K2 hK2
        replace HF := hide (HF.out.up h10)
        replace HE := hide (HE.out.trans h10)
        replace HS := hide (HS.out.ext h10 (World.block_lt_of_cell? _ _ (HS.out 0 _ rfl).1))
        replace HC := hide (HC.out.of_all h10)
        replace HB := hide (HB.out.of_all h10)
        replace HT := hide (HT.out.ext h10 (World.block_lt_of_cell? _ _ (HT.out 0 _ rfl).1))
        clear h10
        rw [if_pos (show _ = true by kernel_rfl)]
        refine wp_skip (w' := putL T 0 [.int .u32 (blocksV h (catF f n fd) ((n + m) / 64) 0 % 4294967296), .int .u32 (blocksV h (catF f n fd) ((n + m) / 64) 1 % 4294967296), .int .u32 (blocksV h (catF f n fd) ((n + m) / 64) 2 % 4294967296), .int .u32 (blocksV h (catF f n fd) ((n + m) / 64) 3 % 4294967296), .int .u32 (blocksV h (catF f n fd) ((n + m) / 64) 4 % 4294967296), .int .u32 (blocksV h (catF f n fd) ((n + m) / 64) 5 % 4294967296), .int .u32 (blocksV h (catF f n fd) ((n + m) / 64) 6 % 4294967296), .int .u32 (blocksV h (catF f n fd) ((n + m) / 64) 7 % 4294967296)] w10) ?_ ?_
        · show ((do Instr.storeAt 113 (.pointer (some ⟨T, 0, none⟩)) (.agg ([.int .u32 (blocksV h (catF f n fd) ((n + m) / 64) 0 % 4294967296), .int .u32 (blocksV h (catF f n fd) ((n + m) / 64) 1 % 4294967296), .int .u32 (blocksV h (catF f n fd) ((n + m) / 64) 2 % 4294967296), .int .u32 (blocksV h (catF f n fd) ((n + m) / 64) 3 % 4294967296), .int .u32 (blocksV h (catF f n fd) ((n + m) / 64) 4 % 4294967296), .int .u32 (blocksV h (catF f n fd) ((n + m) / 64) 5 % 4294967296), .int .u32 (blocksV h (catF f n fd) ((n + m) / 64) 6 % 4294967296), .int .u32 (blocksV h (catF f n fd) ((n + m) / 64) 7 % 4294967296)] : List Value).toArray); pure .skip : Sem Next)).run Try.prog w10 = _
          rw [Sem.run_bind, run_store8 [.int .u32 (blocksV h (catF f n fd) ((n + m) / 64) 0 % 4294967296), .int .u32 (blocksV h (catF f n fd) ((n + m) / 64) 1 % 4294967296), .int .u32 (blocksV h (catF f n fd) ((n + m) / 64) 2 % 4294967296), .int .u32 (blocksV h (catF f n fd) ((n + m) / 64) 3 % 4294967296), .int .u32 (blocksV h (catF f n fd) ((n + m) / 64) 4 % 4294967296), .int .u32 (blocksV h (catF f n fd) ((n + m) / 64) 5 % 4294967296), .int .u32 (blocksV h (catF f n fd) ((n + m) / 64) 6 % 4294967296), .int .u32 (blocksV h (catF f n fd) ((n + m) / 64) 7 % 4294967296)] rfl (fun v hv => by simp at hv; rcases hv with rfl | rfl | rfl | rfl | rfl | rfl | rfl | rfl <;> rfl) _ w10 (fun j hj => by rw [(HT.out j _ (zero_at hj _)).1]; rfl) (fun j hj => (HT.out j _ (zero_at hj _)).2)]
          rfl
        refine hK2 _ _ (Grw.putL (x1 _ hT.out) _ _ _ (.of_ext HE.out)) ?_
        clear hK2 K2
        refine anyK_take 14 1 0 rfl (by decide) (by kernel_rfl) (fun _ _ d _ _ h => by cases d <;> exact h) ?_
        repeat (refine headC_step (fun K hK => ?_); go_simp; first | (refine hK _ ?_; clear hK K) | (apply Exists.intro; refine ⟨fun _ => ?_, hK _ ?_⟩; (fail); clear hK K))
        refine headC_nil ?_
        refine anyK_done (by kernel_rfl) ?_ 0
        intro w11 h11
        have e9 : Ext w1 w11 := (HE.out.putL hT.out _).trans h11
        have hN : ((n + m) % 64 ≤ n + m) := Nat.mod_le _ _
        refine HLEAF.out _ _ _ _ _ _ _ _ _ _ _ _ _ _ _ _ _ _ _ _ _ _ _ _ _ _ _ _ _ _ _ _ _ _ _ _ _ _ _ _ _ _ _ _ T ra cg roff rc w11 hT.out (HF0.out.up e9) ((HT.out.put [.int .u32 (blocksV h (catF f n fd) ((n + m) / 64) 0 % 4294967296), .int .u32 (blocksV h (catF f n fd) ((n + m) / 64) 1 % 4294967296), .int .u32 (blocksV h (catF f n fd) ((n + m) / 64) 2 % 4294967296), .int .u32 (blocksV h (catF f n fd) ((n + m) / 64) 3 % 4294967296), .int .u32 (blocksV h (catF f n fd) ((n + m) / 64) 4 % 4294967296), .int .u32 (blocksV h (catF f n fd) ((n + m) / 64) 5 % 4294967296), .int .u32 (blocksV h (catF f n fd) ((n + m) / 64) 6 % 4294967296), .int .u32 (blocksV h (catF f n fd) ((n + m) / 64) 7 % 4294967296)] rfl).ext h11 (by rw [size_putL]; exact World.block_lt_of_cell? _ _ (HT.out 0 _ (zero_at (by omega) _)).1)) (BSeg.of_all ⟨HB.out.at', fun i hi => ?_⟩ h11)
        rw [cell_putL_other T _ _ _ _ (fun e => absurd e (hD.out (by omega)))]
        exact HB.out.cell i hi
      · skip
        refine stepK_run rfl ?_
        intro w6 h6 K2 hK2
        replace HF := hide (HF.out.up h6)
        replace HE := hide (HE.out.trans h6)
        replace HS := hide (HS.out.ext h6 (World.block_lt_of_cell? _ _ (HS.out 0 _ rfl).1))
        replace HC := hide (HC.out.of_all h6)
        clear h6
        rw [if_pos (show _ = true by kernel_rfl)]
        have e6 := Ext.alloc w6 (.cells (List.replicate 8 (.int .u32 0)).toArray 113)
        refine wp_value (v := .pointer (some ⟨w6.heap.size, 0, none⟩)) (w' := w6.alloc (.cells (List.replicate 8 (.int .u32 0)).toArray 113)) (by kernel_rfl) ?_
        refine hK2 _ _ (.of_ext (HE.out.trans e6)) ?_
        clear hK2 K2
        have HT := hide (Blk.alloc w6 (List.replicate 8 (.int .u32 0)) 113)
        have hT : Hid (w1.heap.size ≤ w6.heap.size) := hide (Below.size HE.out)
        have hD : Hid (0 < n + m → cg ≠ w6.heap.size) := hide (fun hp => by have := HC.out.lt hp; omega)
        replace HF := hide (HF.out.up e6)
        replace HE := hide (HE.out.trans e6)
        replace HS := hide (HS.out.ext e6 (World.block_lt_of_cell? _ _ (HS.out 0 _ rfl).1))
        replace HC := hide (HC.out.of_all e6)
        clear e6
        generalize w6.alloc (.cells (List.replicate 8 (.int .u32 0)).toArray 113) = w7 at *
        generalize w6.heap.size = T at *
        refine anyK_one 8 (by kernel_rfl) ?_
        refine stepK_run rfl ?_
        intro w8 h8 K2 hK2
        replace HF := hide (HF.out.up h8)
        replace HE := hide (HE.out.trans h8)
        replace HS := hide (HS.out.ext h8 (World.block_lt_of_cell? _ _ (HS.out 0 _ rfl).1))
        replace HC := hide (HC.out.of_all h8)
        replace HT := hide (HT.out.ext h8 (World.block_lt_of_cell? _ _ (HT.out 0 _ rfl).1))
        clear h8
        go_simp
        refine (behind_any h (catF f n fd) ca cg 0 (n + m) cc w8 HC.out (by omega) hcc hcb HY.out).mono ?_
        rintro e w9 ⟨ra, roff, rc, rfl, hrB, hrc, e8⟩
        refine hK2 _ _ (.of_ext (HE.out.trans e8)) ?_
        clear hK2 K2
        replace HF := hide (HF.out.up e8)
        replace HE := hide (HE.out.trans e8)
        replace HS := hide (HS.out.ext e8 (World.block_lt_of_cell? _ _ (HS.out 0 _ rfl).1))
        replace HC := hide (HC.out.of_all e8)
        replace HT := hide (HT.out.ext e8 (World.block_lt_of_cell? _ _ (HT.out 0 _ rfl).1))
        have HB := hide hrB
        clear e8 hrB
        refine anyK_take 9 3 2 rfl (by decide) (by kernel_rfl) (fun _ _ d _ _ h => by cases d <;> exact h) ?_
        repeat (refine headC_step (fun K hK => ?_); go_simp; first | (refine hK _ ?_; clear hK K) | (apply Exists.intro; refine ⟨fun _ => ?_, hK _ ?_⟩; (fail); clear hK K))
        refine headC_nil ?_
        refine anyK_one 13 (by kernel_rfl) ?_
        refine stepK_run rfl ?_
        intro w10 h10 K2 hK2
        replace HF := hide (HF.out.up h10)
        replace HE := hide (HE.out.trans h10)
        replace HS := hide (HS.out.ext h10 (World.block_lt_of_cell? _ _ (HS.out 0 _ rfl).1))
        replace HC := hide (HC.out.of_all h10)
        replace HT := hide (HT.out.ext h10 (World.block_lt_of_cell? _ _ (HT.out 0 _ rfl).1))
        replace HB := hide (HB.out.of_all h10)
        clear h10
        rw [if_pos (show _ = true by kernel_rfl)]
        refine wp_skip (w' := putL T 0 [.int .u32 (blocksV h (catF f n fd) ((n + m) / 64) 0 % 4294967296), .int .u32 (blocksV h (catF f n fd) ((n + m) / 64) 1 % 4294967296), .int .u32 (blocksV h (catF f n fd) ((n + m) / 64) 2 % 4294967296), .int .u32 (blocksV h (catF f n fd) ((n + m) / 64) 3 % 4294967296), .int .u32 (blocksV h (catF f n fd) ((n + m) / 64) 4 % 4294967296), .int .u32 (blocksV h (catF f n fd) ((n + m) / 64) 5 % 4294967296), .int .u32 (blocksV h (catF f n fd) ((n + m) / 64) 6 % 4294967296), .int .u32 (blocksV h (catF f n fd) ((n + m) / 64) 7 % 4294967296)] w10) ?_ ?_
        · show ((do Instr.storeAt 113 (.pointer (some ⟨T, 0, none⟩)) (.agg ([.int .u32 (blocksV h (catF f n fd) ((n + m) / 64) 0 % 4294967296), .int .u32 (blocksV h (catF f n fd) ((n + m) / 64) 1 % 4294967296), .int .u32 (blocksV h (catF f n fd) ((n + m) / 64) 2 % 4294967296), .int .u32 (blocksV h (catF f n fd) ((n + m) / 64) 3 % 4294967296), .int .u32 (blocksV h (catF f n fd) ((n + m) / 64) 4 % 4294967296), .int .u32 (blocksV h (catF f n fd) ((n + m) / 64) 5 % 4294967296), .int .u32 (blocksV h (catF f n fd) ((n + m) / 64) 6 % 4294967296), .int .u32 (blocksV h (catF f n fd) ((n + m) / 64) 7 % 4294967296)] : List Value).toArray); pure .skip : Sem Next)).run Try.prog w10 = _
          rw [Sem.run_bind, run_store8 [.int .u32 (blocksV h (catF f n fd) ((n + m) / 64) 0 % 4294967296), .int .u32 (blocksV h (catF f n fd) ((n + m) / 64) 1 % 4294967296), .int .u32 (blocksV h (catF f n fd) ((n + m) / 64) 2 % 4294967296), .int .u32 (blocksV h (catF f n fd) ((n + m) / 64) 3 % 4294967296), .int .u32 (blocksV h (catF f n fd) ((n + m) / 64) 4 % 4294967296), .int .u32 (blocksV h (catF f n fd) ((n + m) / 64) 5 % 4294967296), .int .u32 (blocksV h (catF f n fd) ((n + m) / 64) 6 % 4294967296), .int .u32 (blocksV h (catF f n fd) ((n + m) / 64) 7 % 4294967296)] rfl (fun v hv => by simp at hv; rcases hv with rfl | rfl | rfl | rfl | rfl | rfl | rfl | rfl <;> rfl) _ w10 (fun j hj => by rw [(HT.out j _ (zero_at hj _)).1]; rfl) (fun j hj => (HT.out j _ (zero_at hj _)).2)]
          rfl
        refine hK2 _ _ (Grw.putL (x1 _ hT.out) _ _ _ (.of_ext HE.out)) ?_
        clear hK2 K2
        refine anyK_take 14 1 0 rfl (by decide) (by kernel_rfl) (fun _ _ d _ _ h => by cases d <;> exact h) ?_
        repeat (refine headC_step (fun K hK => ?_); go_simp; first | (refine hK _ ?_; clear hK K) | (apply Exists.intro; refine ⟨fun _ => ?_, hK _ ?_⟩; (fail); clear hK K))
        refine headC_nil ?_
        refine anyK_done (by kernel_rfl) ?_ 0
        intro w11 h11
        have e9 : Ext w1 w11 := (HE.out.putL hT.out _).trans h11
        have hN : ((n + m) % 64 ≤ n + m) := Nat.mod_le _ _
        refine HLEAF.out _ _ _ _ _ _ _ _ _ _ _ _ _ _ _ _ _ _ _ _ _ _ _ _ _ _ _ _ _ _ _ _ _ _ _ _ _ _ _ _ _ _ _ _ T ra cg roff rc w11 hT.out (HF0.out.up e9) ((HT.out.put [.int .u32 (blocksV h (catF f n fd) ((n + m) / 64) 0 % 4294967296), .int .u32 (blocksV h (catF f n fd) ((n + m) / 64) 1 % 4294967296), .int .u32 (blocksV h (catF f n fd) ((n + m) / 64) 2 % 4294967296), .int .u32 (blocksV h (catF f n fd) ((n + m) / 64) 3 % 4294967296), .int .u32 (blocksV h (catF f n fd) ((n + m) / 64) 4 % 4294967296), .int .u32 (blocksV h (catF f n fd) ((n + m) / 64) 5 % 4294967296), .int .u32 (blocksV h (catF f n fd) ((n + m) / 64) 6 % 4294967296), .int .u32 (blocksV h (catF f n fd) ((n + m) / 64) 7 % 4294967296)] rfl).ext h11 (by rw [size_putL]; exact World.block_lt_of_cell? _ _ (HT.out 0 _ (zero_at (by omega) _)).1)) (BSeg.of_all ⟨HB.out.at', fun i hi => ?_⟩ h11)
        rw [cell_putL_other T _ _ _ _ (fun e => absurd e (hD.out (by omega)))]
        exact HB.out.cell i hi
    · skip
      refine stepK_run rfl ?_
      intro w4 h4 K2 hK2
      replace HF := hide (HF.out.up h4)
      replace HE := hide (HE.out.trans h4)
      replace HS := hide (HS.out.ext h4 (World.block_lt_of_cell? _ _ (HS.out 0 _ rfl).1))
      clear h4
      rw [if_pos (show _ = true by kernel_rfl)]
      have e4 := Ext.alloc w4 (.cells (List.replicate 8 (.int .u32 0)).toArray 113)
      refine wp_value (v := .pointer (some ⟨w4.heap.size, 0, none⟩)) (w' := w4.alloc (.cells (List.replicate 8 (.int .u32 0)).toArray 113)) (by kernel_rfl) ?_
      refine hK2 _ _ (.of_ext (HE.out.trans e4)) ?_
      clear hK2 K2
      have HT := hide (Blk.alloc w4 (List.replicate 8 (.int .u32 0)) 113)
      have hT : Hid (w1.heap.size ≤ w4.heap.size) := hide (Below.size HE.out)
      replace HF := hide (HF.out.up e4)
      replace HE := hide (HE.out.trans e4)
      replace HS := hide (HS.out.ext e4 (World.block_lt_of_cell? _ _ (HS.out 0 _ rfl).1))
      clear e4
      generalize w4.alloc (.cells (List.replicate 8 (.int .u32 0)).toArray 113) = w5 at *
      generalize w4.heap.size = T at *
      refine anyK_one 7 (by kernel_rfl) ?_
      refine stepK_run rfl ?_
      intro w6 h6 K2 hK2
      replace HF := hide (HF.out.up h6)
      replace HE := hide (HE.out.trans h6)
      replace HS := hide (HS.out.ext h6 (World.block_lt_of_cell? _ _ (HS.out 0 _ rfl).1))
      replace HT := hide (HT.out.ext h6 (World.block_lt_of_cell? _ _ (HT.out 0 _ rfl).1))
      clear h6
      go_simp
      refine (concat2_any S 2 r b off n cap f da db doff m dcap fd w6 HS.out HF.out.rest HF.out.data (by omega)).mono ?_
      rintro e w7 ⟨ca, cg, cc, rfl, hcg, hcc, hcb, hcO, e6⟩
      have hD : Hid (0 < n + m → cg ≠ T) := hide (fun _ => by have := World.block_lt_of_cell? _ _ (HT.out 0 _ (zero_at (by omega) _)).1; simp only at this; omega)
      refine hK2 _ _ (.of_ext (HE.out.trans e6)) ?_
      clear hK2 K2
      replace HF := hide (HF.out.up e6)
      replace HE := hide (HE.out.trans e6)
      replace HS := hide (HS.out.ext e6 (World.block_lt_of_cell? _ _ (HS.out 0 _ rfl).1))
      replace HT := hide (HT.out.ext e6 (World.block_lt_of_cell? _ _ (HT.out 0 _ rfl).1))
      have HC := hide hcO.toBSeg
      clear e6 hcO hcg
      refine anyK_one 8 (by kernel_rfl) ?_
      refine stepK_run rfl ?_
      intro w8 h8 K2 hK2
      replace HF := hide (HF.out.up h8)
      replace HE := hide (HE.out.trans h8)
      replace HS := hide (HS.out.ext h8 (World.block_lt_of_cell? _ _ (HS.out 0 _ rfl).1))
      replace HT := hide (HT.out.ext h8 (World.block_lt_of_cell? _ _ (HT.out 0 _ rfl).1))
      replace HC := hide (HC.out.of_all h8)
      clear h8
      go_simp
      refine (behind_any h (catF f n fd) ca cg 0 (n + m) cc w8 HC.out (by omega) hcc hcb HY.out).mono ?_
      rintro e w9 ⟨ra, roff, rc, rfl, hrB, hrc, e8⟩
      refine hK2 _ _ (.of_ext (HE.out.trans e8)) ?_
      clear hK2 K2
      replace HF := hide (HF.out.up e8)
      replace HE := hide (HE.out.trans e8)
      replace HS := hide (HS.out.ext e8 (World.block_lt_of_cell? _ _ (HS.out 0 _ rfl).1))
      replace HT := hide (HT.out.ext e8 (World.block_lt_of_cell? _ _ (HT.out 0 _ rfl).1))
      replace HC := hide (HC.out.of_all e8)
      have HB := hide hrB
      clear e8 hrB
      refine anyK_take 9 3 2 rfl (by decide) (by kernel_rfl) (fun _ _ d _ _ h => by cases d <;> exact h) ?_
      repeat (refine headC_step (fun K hK => ?_); go_simp; first | (refine hK _ ?_; clear hK K) | (apply Exists.intro; refine ⟨fun _ => ?_, hK _ ?_⟩; (fail); clear hK K))
      refine headC_nil ?_
      refine anyK_one 13 (by kernel_rfl) ?_
      refine stepK_run rfl ?_
      intro w10 h10 K2 hK2
      replace HF := hide (HF.out.up h10)
      replace HE := hide (HE.out.trans h10)
      replace HS := hide (HS.out.ext h10 (World.block_lt_of_cell? _ _ (HS.out 0 _ rfl).1))
      replace HT := hide (HT.out.ext h10 (World.block_lt_of_cell? _ _ (HT.out 0 _ rfl).1))
      replace HC := hide (HC.out.of_all h10)
      replace HB := hide (HB.out.of_all h10)
      clear h10
      rw [if_pos (show _ = true by kernel_rfl)]
      refine wp_skip (w' := putL T 0 [.int .u32 (blocksV h (catF f n fd) ((n + m) / 64) 0 % 4294967296), .int .u32 (blocksV h (catF f n fd) ((n + m) / 64) 1 % 4294967296), .int .u32 (blocksV h (catF f n fd) ((n + m) / 64) 2 % 4294967296), .int .u32 (blocksV h (catF f n fd) ((n + m) / 64) 3 % 4294967296), .int .u32 (blocksV h (catF f n fd) ((n + m) / 64) 4 % 4294967296), .int .u32 (blocksV h (catF f n fd) ((n + m) / 64) 5 % 4294967296), .int .u32 (blocksV h (catF f n fd) ((n + m) / 64) 6 % 4294967296), .int .u32 (blocksV h (catF f n fd) ((n + m) / 64) 7 % 4294967296)] w10) ?_ ?_
      · show ((do Instr.storeAt 113 (.pointer (some ⟨T, 0, none⟩)) (.agg ([.int .u32 (blocksV h (catF f n fd) ((n + m) / 64) 0 % 4294967296), .int .u32 (blocksV h (catF f n fd) ((n + m) / 64) 1 % 4294967296), .int .u32 (blocksV h (catF f n fd) ((n + m) / 64) 2 % 4294967296), .int .u32 (blocksV h (catF f n fd) ((n + m) / 64) 3 % 4294967296), .int .u32 (blocksV h (catF f n fd) ((n + m) / 64) 4 % 4294967296), .int .u32 (blocksV h (catF f n fd) ((n + m) / 64) 5 % 4294967296), .int .u32 (blocksV h (catF f n fd) ((n + m) / 64) 6 % 4294967296), .int .u32 (blocksV h (catF f n fd) ((n + m) / 64) 7 % 4294967296)] : List Value).toArray); pure .skip : Sem Next)).run Try.prog w10 = _
        rw [Sem.run_bind, run_store8 [.int .u32 (blocksV h (catF f n fd) ((n + m) / 64) 0 % 4294967296), .int .u32 (blocksV h (catF f n fd) ((n + m) / 64) 1 % 4294967296), .int .u32 (blocksV h (catF f n fd) ((n + m) / 64) 2 % 4294967296), .int .u32 (blocksV h (catF f n fd) ((n + m) / 64) 3 % 4294967296), .int .u32 (blocksV h (catF f n fd) ((n + m) / 64) 4 % 4294967296), .int .u32 (blocksV h (catF f n fd) ((n + m) / 64) 5 % 4294967296), .int .u32 (blocksV h (catF f n fd) ((n + m) / 64) 6 % 4294967296), .int .u32 (blocksV h (catF f n fd) ((n + m) / 64) 7 % 4294967296)] rfl (fun v hv => by simp at hv; rcases hv with rfl | rfl | rfl | rfl | rfl | rfl | rfl | rfl <;> rfl) _ w10 (fun j hj => by rw [(HT.out j _ (zero_at hj _)).1]; rfl) (fun j hj => (HT.out j _ (zero_at hj _)).2)]
        rfl
      refine hK2 _ _ (Grw.putL (x1 _ hT.out) _ _ _ (.of_ext HE.out)) ?_
      clear hK2 K2
      refine anyK_take 14 1 0 rfl (by decide) (by kernel_rfl) (fun _ _ d _ _ h => by cases d <;> exact h) ?_
      repeat (refine headC_step (fun K hK => ?_); go_simp; first | (refine hK _ ?_; clear hK K) | (apply Exists.intro; refine ⟨fun _ => ?_, hK _ ?_⟩; (fail); clear hK K))
      refine headC_nil ?_
      refine anyK_done (by kernel_rfl) ?_ 0
      intro w11 h11
      have e9 : Ext w1 w11 := (HE.out.putL hT.out _).trans h11
      have hN : ((n + m) % 64 ≤ n + m) := Nat.mod_le _ _
      refine HLEAF.out _ _ _ _ _ _ _ _ _ _ _ _ _ _ _ _ _ _ _ _ _ _ _ _ _ _ _ _ _ _ _ _ _ _ _ _ _ _ _ _ _ _ _ _ T ra cg roff rc w11 hT.out (HF0.out.up e9) ((HT.out.put [.int .u32 (blocksV h (catF f n fd) ((n + m) / 64) 0 % 4294967296), .int .u32 (blocksV h (catF f n fd) ((n + m) / 64) 1 % 4294967296), .int .u32 (blocksV h (catF f n fd) ((n + m) / 64) 2 % 4294967296), .int .u32 (blocksV h (catF f n fd) ((n + m) / 64) 3 % 4294967296), .int .u32 (blocksV h (catF f n fd) ((n + m) / 64) 4 % 4294967296), .int .u32 (blocksV h (catF f n fd) ((n + m) / 64) 5 % 4294967296), .int .u32 (blocksV h (catF f n fd) ((n + m) / 64) 6 % 4294967296), .int .u32 (blocksV h (catF f n fd) ((n + m) / 64) 7 % 4294967296)] rfl).ext h11 (by rw [size_putL]; exact World.block_lt_of_cell? _ _ (HT.out 0 _ (zero_at (by omega) _)).1)) (BSeg.of_all ⟨HB.out.at', fun i hi => ?_⟩ h11)
      rw [cell_putL_other T _ _ _ _ (fun e => absurd e (hD.out (by omega)))]
      exact HB.out.cell i hi
  · skip
    refine stepK_run rfl ?_
    intro w2 h2 K2 hK2
    replace HF := hide (HF.out.up h2)
    replace HE := hide (HE.out.trans h2)
    clear h2
    rw [if_pos (show _ = true by kernel_rfl)]
    have e2 := Ext.alloc w2 (.cells (List.replicate 8 (.int .u32 0)).toArray 113)
    refine wp_value (v := .pointer (some ⟨w2.heap.size, 0, none⟩)) (w' := w2.alloc (.cells (List.replicate 8 (.int .u32 0)).toArray 113)) (by kernel_rfl) ?_
    refine hK2 _ _ (.of_ext (HE.out.trans e2)) ?_
    clear hK2 K2
    have HT := hide (Blk.alloc w2 (List.replicate 8 (.int .u32 0)) 113)
    have hT : Hid (w1.heap.size ≤ w2.heap.size) := hide (Below.size HE.out)
    replace HF := hide (HF.out.up e2)
    replace HE := hide (HE.out.trans e2)
    clear e2
    generalize w2.alloc (.cells (List.replicate 8 (.int .u32 0)).toArray 113) = w3 at *
    generalize w2.heap.size = T at *
    refine anyK_one 6 (by kernel_rfl) ?_
    refine stepK_run rfl ?_
    intro w4 h4 K2 hK2
    replace HF := hide (HF.out.up h4)
    replace HE := hide (HE.out.trans h4)
    replace HT := hide (HT.out.ext h4 (World.block_lt_of_cell? _ _ (HT.out 0 _ rfl).1))
    clear h4
    go_simp
    have e4 := Ext.alloc w4 (.cells #[.slice r n cap, .slice da m dcap] 22)
    refine hK2 _ _ (.of_ext (HE.out.trans e4)) ?_
    clear hK2 K2
    have HS := hide (Blk.alloc w4 [.slice r n cap, .slice da m dcap] 22)
    replace HF := hide (HF.out.up e4)
    replace HE := hide (HE.out.trans e4)
    replace HT := hide (HT.out.ext e4 (World.block_lt_of_cell? _ _ (HT.out 0 _ rfl).1))
    clear e4
    generalize w4.alloc (.cells #[.slice r n cap, .slice da m dcap] 22) = w5 at *
    generalize w4.heap.size = S at *
    refine anyK_one 7 (by kernel_rfl) ?_
    refine stepK_run rfl ?_
    intro w6 h6 K2 hK2
    replace HF := hide (HF.out.up h6)
    replace HE := hide (HE.out.trans h6)
    replace HT := hide (HT.out.ext h6 (World.block_lt_of_cell? _ _ (HT.out 0 _ rfl).1))
    replace HS := hide (HS.out.ext h6 (World.block_lt_of_cell? _ _ (HS.out 0 _ rfl).1))
    clear h6
    go_simp
    refine (concat2_any S 2 r b off n cap f da db doff m dcap fd w6 HS.out HF.out.rest HF.out.data (by omega)).mono ?_
    rintro e w7 ⟨ca, cg, cc, rfl, hcg, hcc, hcb, hcO, e6⟩
    have hD : Hid (0 < n + m → cg ≠ T) := hide (fun _ => by have := World.block_lt_of_cell? _ _ (HT.out 0 _ (zero_at (by omega) _)).1; simp only at this; omega)
    refine hK2 _ _ (.of_ext (HE.out.trans e6)) ?_
    clear hK2 K2
    replace HF := hide (HF.out.up e6)
    replace HE := hide (HE.out.trans e6)
    replace HT := hide (HT.out.ext e6 (World.block_lt_of_cell? _ _ (HT.out 0 _ rfl).1))
    replace HS := hide (HS.out.ext e6 (World.block_lt_of_cell? _ _ (HS.out 0 _ rfl).1))
    have HC := hide hcO.toBSeg
    clear e6 hcO hcg
    refine anyK_one 8 (by kernel_rfl) ?_
    refine stepK_run rfl ?_
    intro w8 h8 K2 hK2
    replace HF := hide (HF.out.up h8)
    replace HE := hide (HE.out.trans h8)
    replace HT := hide (HT.out.ext h8 (World.block_lt_of_cell? _ _ (HT.out 0 _ rfl).1))
    replace HS := hide (HS.out.ext h8 (World.block_lt_of_cell? _ _ (HS.out 0 _ rfl).1))
    replace HC := hide (HC.out.of_all h8)
    clear h8
    go_simp
    refine (behind_any h (catF f n fd) ca cg 0 (n + m) cc w8 HC.out (by omega) hcc hcb HY.out).mono ?_
    rintro e w9 ⟨ra, roff, rc, rfl, hrB, hrc, e8⟩
    refine hK2 _ _ (.of_ext (HE.out.trans e8)) ?_
    clear hK2 K2
    replace HF := hide (HF.out.up e8)
    replace HE := hide (HE.out.trans e8)
    replace HT := hide (HT.out.ext e8 (World.block_lt_of_cell? _ _ (HT.out 0 _ rfl).1))
    replace HS := hide (HS.out.ext e8 (World.block_lt_of_cell? _ _ (HS.out 0 _ rfl).1))
    replace HC := hide (HC.out.of_all e8)
    have HB := hide hrB
    clear e8 hrB
    refine anyK_take 9 3 2 rfl (by decide) (by kernel_rfl) (fun _ _ d _ _ h => by cases d <;> exact h) ?_
    repeat (refine headC_step (fun K hK => ?_); go_simp; first | (refine hK _ ?_; clear hK K) | (apply Exists.intro; refine ⟨fun _ => ?_, hK _ ?_⟩; (fail); clear hK K))
    refine headC_nil ?_
    refine anyK_one 13 (by kernel_rfl) ?_
    refine stepK_run rfl ?_
    intro w10 h10 K2 hK2
    replace HF := hide (HF.out.up h10)
    replace HE := hide (HE.out.trans h10)
    replace HT := hide (HT.out.ext h10 (World.block_lt_of_cell? _ _ (HT.out 0 _ rfl).1))
    replace HS := hide (HS.out.ext h10 (World.block_lt_of_cell? _ _ (HS.out 0 _ rfl).1))
    replace HC := hide (HC.out.of_all h10)
    replace HB := hide (HB.out.of_all h10)
    clear h10
    rw [if_pos (show _ = true by kernel_rfl)]
    refine wp_skip (w' := putL T 0 [.int .u32 (blocksV h (catF f n fd) ((n + m) / 64) 0 % 4294967296), .int .u32 (blocksV h (catF f n fd) ((n + m) / 64) 1 % 4294967296), .int .u32 (blocksV h (catF f n fd) ((n + m) / 64) 2 % 4294967296), .int .u32 (blocksV h (catF f n fd) ((n + m) / 64) 3 % 4294967296), .int .u32 (blocksV h (catF f n fd) ((n + m) / 64) 4 % 4294967296), .int .u32 (blocksV h (catF f n fd) ((n + m) / 64) 5 % 4294967296), .int .u32 (blocksV h (catF f n fd) ((n + m) / 64) 6 % 4294967296), .int .u32 (blocksV h (catF f n fd) ((n + m) / 64) 7 % 4294967296)] w10) ?_ ?_
    · show ((do Instr.storeAt 113 (.pointer (some ⟨T, 0, none⟩)) (.agg ([.int .u32 (blocksV h (catF f n fd) ((n + m) / 64) 0 % 4294967296), .int .u32 (blocksV h (catF f n fd) ((n + m) / 64) 1 % 4294967296), .int .u32 (blocksV h (catF f n fd) ((n + m) / 64) 2 % 4294967296), .int .u32 (blocksV h (catF f n fd) ((n + m) / 64) 3 % 4294967296), .int .u32 (blocksV h (catF f n fd) ((n + m) / 64) 4 % 4294967296), .int .u32 (blocksV h (catF f n fd) ((n + m) / 64) 5 % 4294967296), .int .u32 (blocksV h (catF f n fd) ((n + m) / 64) 6 % 4294967296), .int .u32 (blocksV h (catF f n fd) ((n + m) / 64) 7 % 4294967296)] : List Value).toArray); pure .skip : Sem Next)).run Try.prog w10 = _
      rw [Sem.run_bind, run_store8 [.int .u32 (blocksV h (catF f n fd) ((n + m) / 64) 0 % 4294967296), .int .u32 (blocksV h (catF f n fd) ((n + m) / 64) 1 % 4294967296), .int .u32 (blocksV h (catF f n fd) ((n + m) / 64) 2 % 4294967296), .int .u32 (blocksV h (catF f n fd) ((n + m) / 64) 3 % 4294967296), .int .u32 (blocksV h (catF f n fd) ((n + m) / 64) 4 % 4294967296), .int .u32 (blocksV h (catF f n fd) ((n + m) / 64) 5 % 4294967296), .int .u32 (blocksV h (catF f n fd) ((n + m) / 64) 6 % 4294967296), .int .u32 (blocksV h (catF f n fd) ((n + m) / 64) 7 % 4294967296)] rfl (fun v hv => by simp at hv; rcases hv with rfl | rfl | rfl | rfl | rfl | rfl | rfl | rfl <;> rfl) _ w10 (fun j hj => by rw [(HT.out j _ (zero_at hj _)).1]; rfl) (fun j hj => (HT.out j _ (zero_at hj _)).2)]
      rfl
    refine hK2 _ _ (Grw.putL (x1 _ hT.out) _ _ _ (.of_ext HE.out)) ?_
    clear hK2 K2
    refine anyK_take 14 1 0 rfl (by decide) (by kernel_rfl) (fun _ _ d _ _ h => by cases d <;> exact h) ?_
    repeat (refine headC_step (fun K hK => ?_); go_simp; first | (refine hK _ ?_; clear hK K) | (apply Exists.intro; refine ⟨fun _ => ?_, hK _ ?_⟩; (fail); clear hK K))
    refine headC_nil ?_
    refine anyK_done (by kernel_rfl) ?_ 0
    intro w11 h11
    have e9 : Ext w1 w11 := (HE.out.putL hT.out _).trans h11
    have hN : ((n + m) % 64 ≤ n + m) := Nat.mod_le _ _
    refine HLEAF.out _ _ _ _ _ _ _ _ _ _ _ _ _ _ _ _ _ _ _ _ _ _ _ _ _ _ _ _ _ _ _ _ _ _ _ _ _ _ _ _ _ _ _ _ T ra cg roff rc w11 hT.out (HF0.out.up e9) ((HT.out.put [.int .u32 (blocksV h (catF f n fd) ((n + m) / 64) 0 % 4294967296), .int .u32 (blocksV h (catF f n fd) ((n + m) / 64) 1 % 4294967296), .int .u32 (blocksV h (catF f n fd) ((n + m) / 64) 2 % 4294967296), .int .u32 (blocksV h (catF f n fd) ((n + m) / 64) 3 % 4294967296), .int .u32 (blocksV h (catF f n fd) ((n + m) / 64) 4 % 4294967296), .int .u32 (blocksV h (catF f n fd) ((n + m) / 64) 5 % 4294967296), .int .u32 (blocksV h (catF f n fd) ((n + m) / 64) 6 % 4294967296), .int .u32 (blocksV h (catF f n fd) ((n + m) / 64) 7 % 4294967296)] rfl).ext h11 (by rw [size_putL]; exact World.block_lt_of_cell? _ _ (HT.out 0 _ (zero_at (by omega) _)).1)) (BSeg.of_all ⟨HB.out.at', fun i hi => ?_⟩ h11)
    rw [cell_putL_other T _ _ _ _ (fun e => absurd e (hD.out (by omega)))]
    exact HB.out.cell i hi

end Go.Proofs.Ytjkojofpkeglpab
