/- Walks: the program's Feed, where it refuses. -/
import Derived.Test.YtjkojofpkeglpabShaU
namespace Go.Proofs.Ytjkojofpkeglpab
set_option linter.unusedVariables false
set_option linter.unusedSimpArgs false
open Go.RowKit

set_option maxHeartbeats 6400000 in
set_option maxRecDepth 100000 in
theorem feed_wrong (h : Nat → Int) (r : Option Addr) (b off n cap : Nat) (f : Nat → Int) (many : Int) (da : Option Addr) (db doff m dcap : Nat) (fd : Nat → Int) (w : World) (hok : ¬ StrOk h n many) (hs : BSeg w r b off n f) (hd : BSeg w da db doff m fd) (hn : n ≤ 1048576) (hmm : m ≤ 1048576) :
    Calls Try.prog 47 #[.agg #[.int .i64 (h 0), .int .i64 (h 1), .int .i64 (h 2), .int .i64 (h 3), .int .i64 (h 4), .int .i64 (h 5), .int .i64 (h 6), .int .i64 (h 7), .slice r n cap, .int .i64 many], .slice da m dcap] w fun e w' => ∃ v, e = .returned (.tuple #[.agg #[.int .i64 (h 0), .int .i64 (h 1), .int .i64 (h 2), .int .i64 (h 3), .int .i64 (h 4), .int .i64 (h 5), .int .i64 (h 6), .int .i64 (h 7), v, .int .i64 many], .bool false]) ∧ w'.ownsRow w.heap.size 5 1 v n (byts f n) ∧ Ext w w' := by
  have HO := hide (implStreamOk_at h r n cap many false ⟨(fun e => by cases e), fun e => absurd e hok⟩)
  go_enter Try.func47, Try.ntmps47
  go_wp2_with fail
  obtain ⟨V, hV⟩ : ∃ V, (w.alloc (.cells #[.int .i64 (h 0), .int .i64 (h 1), .int .i64 (h 2), .int .i64 (h 3), .int .i64 (h 4), .int .i64 (h 5), .int .i64 (h 6), .int .i64 (h 7), .slice r n cap, .int .i64 many] 62)).alloc (.cells #[.int .i64 0, .int .i64 0, .int .i64 0, .int .i64 0, .int .i64 0, .int .i64 0, .int .i64 0, .int .i64 0, .slice none 0 0, .int .i64 0] 62) = V := ⟨_, rfl⟩
  obtain ⟨B1, B2, hE, hz⟩ := box2 w [.int .i64 (h 0), .int .i64 (h 1), .int .i64 (h 2), .int .i64 (h 3), .int .i64 (h 4), .int .i64 (h 5), .int .i64 (h 6), .int .i64 (h 7), .slice r n cap, .int .i64 many] [.int .i64 0, .int .i64 0, .int .i64 0, .int .i64 0, .int .i64 0, .int .i64 0, .int .i64 0, .int .i64 0, .slice none 0 0, .int .i64 0] 62 62 (hV ▸ Ext.refl _ : Ext _ V)
  simp only [hV]
  clear hV
  refine (HO.out _).mono ?_
  rintro e w1 ⟨rfl, h1⟩
  have HF : Hid (FeedAt w w1 h r b off n cap f many da db doff m fd) := hide ⟨hE.trans h1, B1.ext h1 (by omega), B2.ext h1 (by omega), (hs.of_all hE).of_all h1, (hd.of_all hE).of_all h1⟩
  clear HO B1 B2 hE h1 hs hd hz
  have c0 := (HF.out.str 0 _ rfl).1
  have c1 := (HF.out.str 1 _ rfl).1
  have c2 := (HF.out.str 2 _ rfl).1
  have c3 := (HF.out.str 3 _ rfl).1
  have c4 := (HF.out.str 4 _ rfl).1
  have c5 := (HF.out.str 5 _ rfl).1
  have c6 := (HF.out.str 6 _ rfl).1
  have c7 := (HF.out.str 7 _ rfl).1
  have c8 := (HF.out.str 8 _ rfl).1
  have c9 := (HF.out.str 9 _ rfl).1
  go_wp2
  obtain ⟨X, hX⟩ : ∃ X : Nat → Prop, X = fun k => k = w.heap.size + 1 := ⟨_, rfl⟩
  have xA : X (w.heap.size + 1) := by rw [hX]
  have xS : ¬ X w.heap.size := by rw [hX]; show ¬ _ = _; omega
  clear hX
  have k0 := cell_reC (X := X) c0 xS
  have k1 := cell_reC (X := X) c1 xS
  have k2 := cell_reC (X := X) c2 xS
  have k3 := cell_reC (X := X) c3 xS
  have k4 := cell_reC (X := X) c4 xS
  have k5 := cell_reC (X := X) c5 xS
  have k6 := cell_reC (X := X) c6 xS
  have k7 := cell_reC (X := X) c7 xS
  have k8 := cell_reC (X := X) c8 xS
  have k9 := cell_reC (X := X) c9 xS
  clear c0 c1 c2 c3 c4 c5 c6 c7 c8 c9
  refine anyK_begin X 10 rfl (by kernel_rfl) ?_
  refine anyK_take 0 4 6 rfl (by decide) (by kernel_rfl) (fun _ _ d _ _ h => by cases d <;> exact h) ?_
  repeat (refine headC_step (fun K hK => ?_); go_simp; first | (refine hK _ ?_; clear hK K) | (apply Exists.intro; refine ⟨fun _ => ?_, hK _ ?_⟩; (fail); clear hK K))
  refine headC_nil ?_
  refine anyK_take 5 2 4 rfl (by decide) (by kernel_rfl) (fun _ _ d _ _ h => by cases d <;> exact h) ?_
  repeat (refine headC_step (fun K hK => ?_); go_simp; first | (refine hK _ ?_; clear hK K) | (apply Exists.intro; refine ⟨fun _ => ?_, hK _ ?_⟩; (fail); clear hK K))
  refine headC_nil ?_
  clear k0 k1 k2 k3 k4 k5 k6 k7 k8 k9
  refine anyK_one 4 (by kernel_rfl) ?_
  refine stepK_run rfl ?_
  intro w2 h2 K2 hK2
  go_simp
  refine (clone_any r b off n cap f w2 (HF.out.rest.of_all h2) (by omega)).mono ?_
  rintro e w3 ⟨v, rfl, hO, h3⟩
  have hO3 := hO
  have hA2 : Hid (w.heap.size + 1 < w2.heap.size) := hide (Nat.lt_of_lt_of_le (World.block_lt_of_cell? _ _ (HF.out.res 0 _ rfl).1) (Below.size h2))
  replace h3 := h2.trans h3
  clear hO h2
  refine hK2 _ _ (.of_ext h3) ?_
  clear hK2 K2
  obtain ⟨a2, g2, c2, rfl, -, -, -, -⟩ := owns_seg hO3
  refine anyK_take 7 1 2 rfl (by decide) (by kernel_rfl) (fun _ _ d _ _ h => by cases d <;> exact h) ?_
  repeat (refine headC_step (fun K hK => ?_); go_simp; first | (refine hK _ ?_; clear hK K) | (apply Exists.intro; refine ⟨fun _ => ?_, hK _ ?_⟩; (fail); clear hK K))
  refine headC_nil ?_
  refine anyK_one 8 (by kernel_rfl) ?_
  refine stepK_run rfl ?_
  intro w4 h4 K2 hK2
  have HR := HF.out.up (h3.trans h4)
  obtain ⟨z0, y0⟩ := HR.res 0 _ rfl
  obtain ⟨z1, y1⟩ := HR.res 1 _ rfl
  obtain ⟨z2, y2⟩ := HR.res 2 _ rfl
  obtain ⟨z3, y3⟩ := HR.res 3 _ rfl
  obtain ⟨z4, y4⟩ := HR.res 4 _ rfl
  obtain ⟨z5, y5⟩ := HR.res 5 _ rfl
  obtain ⟨z6, y6⟩ := HR.res 6 _ rfl
  obtain ⟨z7, y7⟩ := HR.res 7 _ rfl
  obtain ⟨z8, y8⟩ := HR.res 8 _ rfl
  obtain ⟨z9, y9⟩ := HR.res 9 _ rfl
  go_simp
  refine hK2 _ _ (show Grw X w1 (putL (w.heap.size + 1) 0 [.int .i64 (h 0), .int .i64 (h 1), .int .i64 (h 2), .int .i64 (h 3), .int .i64 (h 4), .int .i64 (h 5), .int .i64 (h 6), .int .i64 (h 7), .slice a2 n c2, .int .i64 many] w4) from Grw.putL xA _ _ _ (.of_ext (h3.trans h4))) ?_
  clear hK2 K2 z0 z1 z2 z3 z4 z5 z6 z7 z8 z9 y0 y1 y2 y3 y4 y5 y6 y7 y8 y9
  refine anyK_take 9 1 0 rfl (by decide) (by kernel_rfl) (fun _ _ d _ _ h => by cases d <;> exact h) ?_
  repeat (refine headC_step (fun K hK => ?_); go_simp; first | (refine hK _ ?_; clear hK K) | (apply Exists.intro; refine ⟨fun _ => ?_, hK _ ?_⟩; (fail); clear hK K))
  refine headC_nil ?_
  refine anyK_done (by kernel_rfl) ?_ 0
  intro w5 h5
  replace h5 : Ext (putL (w.heap.size + 1) 0 [.int .i64 (h 0), .int .i64 (h 1), .int .i64 (h 2), .int .i64 (h 3), .int .i64 (h 4), .int .i64 (h 5), .int .i64 (h 6), .int .i64 (h 7), .slice a2 n c2, .int .i64 many] w4) w5 := h5
  have hA : w.heap.size + 1 < w4.heap.size := World.block_lt_of_cell? _ _ (HR.res 0 _ rfl).1
  have HBl := hide ((HR.res.put [.int .i64 (h 0), .int .i64 (h 1), .int .i64 (h 2), .int .i64 (h 3), .int .i64 (h 4), .int .i64 (h 5), .int .i64 (h 6), .int .i64 (h 7), .slice a2 n c2, .int .i64 many] rfl).ext h5 (by rw [size_putL]; exact hA))
  have HEf : Hid (Ext w w5) := hide ((HR.ext.putL (by omega) _).trans h5)
  have HOf : Hid (w5.ownsRow w.heap.size 5 1 (.slice a2 n c2) n (byts f n)) :=
    hide (owns_ext' (owns_mono (owns_putL (owns_ext' hO3 h4) hA2.out _) (Nat.le_of_lt (Nat.lt_of_succ_lt hA2.out))) h5)
  clear HR h3 h4 h5 hO3 HF
  go_wp2
  have hl := run_load10 _ rfl _ _ (fun j v h => (HBl.out j v h).1)
  refine bodyPost_ret (v := .tuple #[.agg #[.int .i64 (h 0), .int .i64 (h 1), .int .i64 (h 2), .int .i64 (h 3), .int .i64 (h 4), .int .i64 (h 5), .int .i64 (h 6), .int .i64 (h 7), .slice a2 n c2, .int .i64 many], .bool false]) ?_ rfl ?_
  · exact results_cell_tmp Try.results47 rfl rfl hl
  · exact ⟨_, rfl, HOf.out, HEf.out⟩

set_option maxHeartbeats 6400000 in
set_option maxRecDepth 100000 in
theorem feed_long (h : Nat → Int) (r : Option Addr) (b off n cap : Nat) (f : Nat → Int) (many : Int) (da : Option Addr) (db doff m dcap : Nat) (fd : Nat → Int) (w : World) (hok : StrOk h n many) (hm : 20000 - many < (m : Int)) (hs : BSeg w r b off n f) (hd : BSeg w da db doff m fd) (hn : n ≤ 1048576) (hmm : m ≤ 1048576) :
    Calls Try.prog 47 #[.agg #[.int .i64 (h 0), .int .i64 (h 1), .int .i64 (h 2), .int .i64 (h 3), .int .i64 (h 4), .int .i64 (h 5), .int .i64 (h 6), .int .i64 (h 7), .slice r n cap, .int .i64 many], .slice da m dcap] w fun e w' => ∃ v, e = .returned (.tuple #[.agg #[.int .i64 (h 0), .int .i64 (h 1), .int .i64 (h 2), .int .i64 (h 3), .int .i64 (h 4), .int .i64 (h 5), .int .i64 (h 6), .int .i64 (h 7), v, .int .i64 many], .bool false]) ∧ w'.ownsRow w.heap.size 5 1 v n (byts f n) ∧ Ext w w' := by
  have HO := hide (implStreamOk_at h r n cap many true ⟨fun _ => hok, fun _ => rfl⟩)
  have hb := hok.2
  have hb0 := hb.1
  have hb1 := hb.2.1
  clear hok hb
  go_enter Try.func47, Try.ntmps47
  go_wp2_with fail
  obtain ⟨V, hV⟩ : ∃ V, (w.alloc (.cells #[.int .i64 (h 0), .int .i64 (h 1), .int .i64 (h 2), .int .i64 (h 3), .int .i64 (h 4), .int .i64 (h 5), .int .i64 (h 6), .int .i64 (h 7), .slice r n cap, .int .i64 many] 62)).alloc (.cells #[.int .i64 0, .int .i64 0, .int .i64 0, .int .i64 0, .int .i64 0, .int .i64 0, .int .i64 0, .int .i64 0, .slice none 0 0, .int .i64 0] 62) = V := ⟨_, rfl⟩
  obtain ⟨B1, B2, hE, hz⟩ := box2 w [.int .i64 (h 0), .int .i64 (h 1), .int .i64 (h 2), .int .i64 (h 3), .int .i64 (h 4), .int .i64 (h 5), .int .i64 (h 6), .int .i64 (h 7), .slice r n cap, .int .i64 many] [.int .i64 0, .int .i64 0, .int .i64 0, .int .i64 0, .int .i64 0, .int .i64 0, .int .i64 0, .int .i64 0, .slice none 0 0, .int .i64 0] 62 62 (hV ▸ Ext.refl _ : Ext _ V)
  simp only [hV]
  clear hV
  refine (HO.out _).mono ?_
  rintro e w1 ⟨rfl, h1⟩
  have HF : Hid (FeedAt w w1 h r b off n cap f many da db doff m fd) := hide ⟨hE.trans h1, B1.ext h1 (by omega), B2.ext h1 (by omega), (hs.of_all hE).of_all h1, (hd.of_all hE).of_all h1⟩
  clear HO B1 B2 hE h1 hs hd hz
  have c0 := (HF.out.str 0 _ rfl).1
  have c1 := (HF.out.str 1 _ rfl).1
  have c2 := (HF.out.str 2 _ rfl).1
  have c3 := (HF.out.str 3 _ rfl).1
  have c4 := (HF.out.str 4 _ rfl).1
  have c5 := (HF.out.str 5 _ rfl).1
  have c6 := (HF.out.str 6 _ rfl).1
  have c7 := (HF.out.str 7 _ rfl).1
  have c8 := (HF.out.str 8 _ rfl).1
  have c9 := (HF.out.str 9 _ rfl).1
  go_wp2
  obtain ⟨X, hX⟩ : ∃ X : Nat → Prop, X = fun k => k = w.heap.size + 1 := ⟨_, rfl⟩
  have xA : X (w.heap.size + 1) := by rw [hX]
  have xS : ¬ X w.heap.size := by rw [hX]; show ¬ _ = _; omega
  clear hX
  have k0 := cell_reC (X := X) c0 xS
  have k1 := cell_reC (X := X) c1 xS
  have k2 := cell_reC (X := X) c2 xS
  have k3 := cell_reC (X := X) c3 xS
  have k4 := cell_reC (X := X) c4 xS
  have k5 := cell_reC (X := X) c5 xS
  have k6 := cell_reC (X := X) c6 xS
  have k7 := cell_reC (X := X) c7 xS
  have k8 := cell_reC (X := X) c8 xS
  have k9 := cell_reC (X := X) c9 xS
  clear c0 c1 c2 c3 c4 c5 c6 c7 c8 c9
  refine anyK_begin X 10 rfl (by kernel_rfl) ?_
  refine anyK_take 0 4 6 rfl (by decide) (by kernel_rfl) (fun _ _ d _ _ h => by cases d <;> exact h) ?_
  repeat (refine headC_step (fun K hK => ?_); go_simp; first | (refine hK _ ?_; clear hK K) | (apply Exists.intro; refine ⟨fun _ => ?_, hK _ ?_⟩; (fail); clear hK K))
  refine headC_nil ?_
  refine anyK_take 5 2 4 rfl (by decide) (by kernel_rfl) (fun _ _ d _ _ h => by cases d <;> exact h) ?_
  repeat (refine headC_step (fun K hK => ?_); go_simp; first | (refine hK _ ?_; clear hK K) | (apply Exists.intro; refine ⟨fun _ => ?_, hK _ ?_⟩; (fail); clear hK K))
  refine headC_nil ?_
  clear k0 k1 k2 k3 k4 k5 k6 k7 k8 k9
  refine anyK_one 4 (by kernel_rfl) ?_
  refine stepK_run rfl ?_
  intro w2 h2 K2 hK2
  go_simp
  refine (clone_any r b off n cap f w2 (HF.out.rest.of_all h2) (by omega)).mono ?_
  rintro e w3 ⟨v, rfl, hO, h3⟩
  have hO3 := hO
  have hA2 : Hid (w.heap.size + 1 < w2.heap.size) := hide (Nat.lt_of_lt_of_le (World.block_lt_of_cell? _ _ (HF.out.res 0 _ rfl).1) (Below.size h2))
  replace h3 := h2.trans h3
  clear hO h2
  refine hK2 _ _ (.of_ext h3) ?_
  clear hK2 K2
  obtain ⟨a2, g2, c2, rfl, -, -, -, -⟩ := owns_seg hO3
  refine anyK_take 7 1 2 rfl (by decide) (by kernel_rfl) (fun _ _ d _ _ h => by cases d <;> exact h) ?_
  repeat (refine headC_step (fun K hK => ?_); go_simp; first | (refine hK _ ?_; clear hK K) | (apply Exists.intro; refine ⟨fun _ => ?_, hK _ ?_⟩; (fail); clear hK K))
  refine headC_nil ?_
  refine anyK_one 8 (by kernel_rfl) ?_
  refine stepK_run rfl ?_
  intro w4 h4 K2 hK2
  have HR := HF.out.up (h3.trans h4)
  obtain ⟨z0, y0⟩ := HR.res 0 _ rfl
  obtain ⟨z1, y1⟩ := HR.res 1 _ rfl
  obtain ⟨z2, y2⟩ := HR.res 2 _ rfl
  obtain ⟨z3, y3⟩ := HR.res 3 _ rfl
  obtain ⟨z4, y4⟩ := HR.res 4 _ rfl
  obtain ⟨z5, y5⟩ := HR.res 5 _ rfl
  obtain ⟨z6, y6⟩ := HR.res 6 _ rfl
  obtain ⟨z7, y7⟩ := HR.res 7 _ rfl
  obtain ⟨z8, y8⟩ := HR.res 8 _ rfl
  obtain ⟨z9, y9⟩ := HR.res 9 _ rfl
  go_simp
  refine hK2 _ _ (show Grw X w1 (putL (w.heap.size + 1) 0 [.int .i64 (h 0), .int .i64 (h 1), .int .i64 (h 2), .int .i64 (h 3), .int .i64 (h 4), .int .i64 (h 5), .int .i64 (h 6), .int .i64 (h 7), .slice a2 n c2, .int .i64 many] w4) from Grw.putL xA _ _ _ (.of_ext (h3.trans h4))) ?_
  clear hK2 K2 z0 z1 z2 z3 z4 z5 z6 z7 z8 z9 y0 y1 y2 y3 y4 y5 y6 y7 y8 y9
  refine anyK_take 9 1 0 rfl (by decide) (by kernel_rfl) (fun _ _ d _ _ h => by cases d <;> exact h) ?_
  repeat (refine headC_step (fun K hK => ?_); go_simp; first | (refine hK _ ?_; clear hK K) | (apply Exists.intro; refine ⟨fun _ => ?_, hK _ ?_⟩; (fail); clear hK K))
  refine headC_nil ?_
  refine anyK_done (by kernel_rfl) ?_ 0
  intro w5 h5
  replace h5 : Ext (putL (w.heap.size + 1) 0 [.int .i64 (h 0), .int .i64 (h 1), .int .i64 (h 2), .int .i64 (h 3), .int .i64 (h 4), .int .i64 (h 5), .int .i64 (h 6), .int .i64 (h 7), .slice a2 n c2, .int .i64 many] w4) w5 := h5
  have hA : w.heap.size + 1 < w4.heap.size := World.block_lt_of_cell? _ _ (HR.res 0 _ rfl).1
  have HBl := hide ((HR.res.put [.int .i64 (h 0), .int .i64 (h 1), .int .i64 (h 2), .int .i64 (h 3), .int .i64 (h 4), .int .i64 (h 5), .int .i64 (h 6), .int .i64 (h 7), .slice a2 n c2, .int .i64 many] rfl).ext h5 (by rw [size_putL]; exact hA))
  have HEf : Hid (Ext w w5) := hide ((HR.ext.putL (by omega) _).trans h5)
  have HOf : Hid (w5.ownsRow w.heap.size 5 1 (.slice a2 n c2) n (byts f n)) :=
    hide (owns_ext' (owns_mono (owns_putL (owns_ext' hO3 h4) hA2.out _) (Nat.le_of_lt (Nat.lt_of_succ_lt hA2.out))) h5)
  clear HR h3 h4 h5 hO3 HF
  go_wp2
  have hl := run_load10 _ rfl _ _ (fun j v h => (HBl.out j v h).1)
  refine bodyPost_ret (v := .tuple #[.agg #[.int .i64 (h 0), .int .i64 (h 1), .int .i64 (h 2), .int .i64 (h 3), .int .i64 (h 4), .int .i64 (h 5), .int .i64 (h 6), .int .i64 (h 7), .slice a2 n c2, .int .i64 many], .bool false]) ?_ rfl ?_
  · exact results_cell_tmp Try.results47 rfl rfl hl
  · exact ⟨_, rfl, HOf.out, HEf.out⟩

end Go.Proofs.Ytjkojofpkeglpab
