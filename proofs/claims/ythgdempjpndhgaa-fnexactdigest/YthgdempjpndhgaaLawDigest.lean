/- Proved: at every stream the law FnExactDigest answers true: the program's Digest answers as the model's, writes into no argument, and its answer owns its memory, behind another call too (a stream with more than 1048576 bytes of rest: the law itself answers true at once). No other condition. -/
import Derived.Test.YthgdempjpndhgaaRows
import Derived.WalkKit
import Derived.ProofKit
import Derived.OpenShut
import Derived.ShutString
import Derived.ChangeOld
import Derived.Below
import Derived.Test.YthgdempjpndhgaaShaH
namespace Go.Proofs.Ythgdempjpndhgaa.fnExactDigest
open Go.ChangeShapes Go.WideShapes Go.ChangeAt Go.RowKit
open Go.ChangeMaps (open_string shut_string)
set_option linter.unusedVariables false
set_option linter.unusedSimpArgs false

theorem own : ownKnob Try.prog.godebug = none := by kernel_rfl
theorem laidOut : laidOutB Try.prog = true := by kernel_rfl

/-- A slice of integers that came in: nil, or a row of cap cells, the numbers zs. -/
def IsRow (k : IntKind) (w : World) (a : Option Addr) (len cap : Nat) (zs : List Int) : Prop :=
  (a = none ∧ len = 0 ∧ cap = 0 ∧ zs = []) ∨
  ∃ x, a = some x ∧ len ≤ cap ∧ cap ≤ maxLen ∧ zs.length = cap ∧ (∀ i, i < zs.length → w.cell? (x.add i) = some (.int k (zs.getD i 0))) ∧ ∀ n ∈ zs, (Lit.int k n).wf = true

set_option maxHeartbeats 6400000 in
set_option maxRecDepth 100000 in
theorem law (h0 h1 h2 h3 h4 h5 h6 h7 : Int) (r : Option Addr) (b off n cap : Nat) (f : Nat → Int) (many : Int) (w : World) (hs : BSeg w r b off n f) (hn : n ≤ 1048576) (hby : ∀ i, i < n → 0 ≤ f i ∧ f i < 256) :
    Calls Try.prog 7 #[.agg #[.int .i64 h0, .int .i64 h1, .int .i64 h2, .int .i64 h3, .int .i64 h4, .int .i64 h5, .int .i64 h6, .int .i64 h7, .slice r n cap, .int .i64 many]] w fun e w' => e = .returned (.bool true) ∧ Below w.heap.size w w' := by
  obtain ⟨ok, hk⟩ : ∃ ok : Bool, ok = true ↔ StrOk (fun i => if i = 0 then h0 else if i = 1 then h1 else if i = 2 then h2 else if i = 3 then h3 else if i = 4 then h4 else if i = 5 then h5 else if i = 6 then h6 else h7) n many := by
    by_cases q : StrOk (fun i => if i = 0 then h0 else if i = 1 then h1 else if i = 2 then h2 else if i = 3 then h3 else if i = 4 then h4 else if i = 5 then h5 else if i = 6 then h6 else h7) n many
    · exact ⟨true, fun _ => q, fun _ => rfl⟩
    · exact ⟨false, fun e => (by cases e), fun e => absurd e q⟩
  obtain ⟨M, hMe⟩ : ∃ M, digN ok = M := ⟨_, rfl⟩
  obtain ⟨F, hFe⟩ : ∃ F, stB (endV (fun i => if i = 0 then h0 else if i = 1 then h1 else if i = 2 then h2 else if i = 3 then h3 else if i = 4 then h4 else if i = 5 then h5 else if i = 6 then h6 else h7) f n many.toNat) = F := ⟨_, rfl⟩
  have hM : M ≤ 1048576 := by rw [← hMe]; unfold digN; split <;> omega
  have HSp : Hid (∀ (g : Nat) (W : World), BSeg W (some ⟨g, 0, none⟩) g 0 n f → Calls Try.prog 33 #[.agg #[.int .i64 h0, .int .i64 h1, .int .i64 h2, .int .i64 h3, .int .i64 h4, .int .i64 h5, .int .i64 h6, .int .i64 h7, .slice (some ⟨g, 0, none⟩) n n, .int .i64 many]] W fun e w' => GivesBs W M F e w') := hide (fun g W hb => by have := specDigest_at (fun i => if i = 0 then h0 else if i = 1 then h1 else if i = 2 then h2 else if i = 3 then h3 else if i = 4 then h4 else if i = 5 then h5 else if i = 6 then h6 else h7) (some ⟨g, 0, none⟩) g 0 n n f many ok hk W hb hby; rw [hMe, hFe] at this; exact this)
  have HIm : Hid (∀ (g : Nat) (W : World), BSeg W (some ⟨g, 0, none⟩) g 0 n f → Calls Try.prog 34 #[.agg #[.int .i64 h0, .int .i64 h1, .int .i64 h2, .int .i64 h3, .int .i64 h4, .int .i64 h5, .int .i64 h6, .int .i64 h7, .slice (some ⟨g, 0, none⟩) n n, .int .i64 many]] W fun e w' => GivesBs W M F e w') := hide (fun g W hb => by have := implDigest_at (fun i => if i = 0 then h0 else if i = 1 then h1 else if i = 2 then h2 else if i = 3 then h3 else if i = 4 then h4 else if i = 5 then h5 else if i = 6 then h6 else h7) (some ⟨g, 0, none⟩) g 0 n n f many ok hk W hb hby; rw [hMe, hFe] at this; exact this)
  have HSz := hide (fun w => szStream_at h0 h1 h2 h3 h4 h5 h6 h7 r n cap many w hn)
  have HTo : Hid (∀ W : World, Ext w W → Calls Try.prog 28 #[.agg #[.int .i64 h0, .int .i64 h1, .int .i64 h2, .int .i64 h3, .int .i64 h4, .int .i64 h5, .int .i64 h6, .int .i64 h7, .slice r n cap, .int .i64 many]] W fun e w' => GivesStr h0 h1 h2 h3 h4 h5 h6 h7 n f many W e w') := fun W e => toStream_any h0 h1 h2 h3 h4 h5 h6 h7 r b off n cap f many W (hs.of_all e) hn
  have Hn := hide hn
  clear hk hs hby hMe hFe
  have hnn : ¬ (1048576 - (n : Int) < 0) := by omega
  go_enter Try.func7, Try.ntmps7
  go_wp2_with fail
  refine (HSz.out _).mono ?_
  rintro e w1 ⟨rfl, hw1⟩
  obtain ⟨B0, hE, hz⟩ := box1 w [.int .i64 h0, .int .i64 h1, .int .i64 h2, .int .i64 h3, .int .i64 h4, .int .i64 h5, .int .i64 h6, .int .i64 h7, .slice r n cap, .int .i64 many] 37 hw1
  clear hw1 HSz
  have k0 := (B0 0 _ rfl).1
  have k1 := (B0 1 _ rfl).1
  have k2 := (B0 2 _ rfl).1
  have k3 := (B0 3 _ rfl).1
  have k4 := (B0 4 _ rfl).1
  have k5 := (B0 5 _ rfl).1
  have k6 := (B0 6 _ rfl).1
  have k7 := (B0 7 _ rfl).1
  have k8 := (B0 8 _ rfl).1
  have k9 := (B0 9 _ rfl).1
  go_wp2_with fail
  clear k0 k1 k2 k3 k4 k5 k6 k7 k8 k9
  refine (HTo.out _ hE).mono ?_
  rintro e w2 ⟨g, rfl, R2, hg, hg2, hw2⟩
  replace B0 := B0.ext hw2 (by omega)
  replace hE := hE.trans hw2
  have hz2 : w.heap.size + 1 ≤ w2.heap.size := Nat.le_trans hz (Below.size hw2)
  clear hw2 hz hg hg2
  go_wp2_with fail
  refine (HSp.out g _ R2.toBSeg).mono ?_
  rintro e w3 ⟨a3, g3, c3, rfl, hg3, hO3, hw3⟩
  replace B0 := B0.ext hw3 (by omega)
  replace hE := hE.trans hw3
  have hz3 : w.heap.size + 1 ≤ w3.heap.size := Nat.le_trans hz2 (Below.size hw3)
  have lt3 : Hid (0 < M → g3 < w3.heap.size) := hide (fun h => hO3.toBSeg.lt h)
  have s3 := hide hO3.toBSeg
  clear hw3 hz2 HSp R2 hO3 hg3
  have k0 := (B0 0 _ rfl).1
  have k1 := (B0 1 _ rfl).1
  have k2 := (B0 2 _ rfl).1
  have k3 := (B0 3 _ rfl).1
  have k4 := (B0 4 _ rfl).1
  have k5 := (B0 5 _ rfl).1
  have k6 := (B0 6 _ rfl).1
  have k7 := (B0 7 _ rfl).1
  have k8 := (B0 8 _ rfl).1
  have k9 := (B0 9 _ rfl).1
  go_wp2_with fail
  clear k0 k1 k2 k3 k4 k5 k6 k7 k8 k9
  refine (HTo.out _ hE).mono ?_
  rintro e w4 ⟨g4, rfl, R4, hg4, hg4', hw4⟩
  have X4 := Ext.alloc w4 (.cells #[.int .i64 h0, .int .i64 h1, .int .i64 h2, .int .i64 h3, .int .i64 h4, .int .i64 h5, .int .i64 h6, .int .i64 h7, .slice (some ⟨g4, 0, none⟩) n n, .int .i64 many] 39)
  have T4 : Blk (w4.alloc (.cells #[.int .i64 h0, .int .i64 h1, .int .i64 h2, .int .i64 h3, .int .i64 h4, .int .i64 h5, .int .i64 h6, .int .i64 h7, .slice (some ⟨g4, 0, none⟩) n n, .int .i64 many] 39)) w4.heap.size [.int .i64 h0, .int .i64 h1, .int .i64 h2, .int .i64 h3, .int .i64 h4, .int .i64 h5, .int .i64 h6, .int .i64 h7, .slice (some ⟨g4, 0, none⟩) n n, .int .i64 many] := Blk.alloc w4 [.int .i64 h0, .int .i64 h1, .int .i64 h2, .int .i64 h3, .int .i64 h4, .int .i64 h5, .int .i64 h6, .int .i64 h7, .slice (some ⟨g4, 0, none⟩) n n, .int .i64 many] 39
  have h44 := hw4.trans X4
  replace B0 := B0.ext h44 (by omega)
  replace hE := hE.trans h44
  replace R4 := R4.of_all X4
  replace s3 := hide (s3.out.of_all h44)
  have hz4 : w.heap.size + 1 ≤ w4.heap.size := Nat.le_trans hz3 (Below.size hw4)
  have ne34 : Hid (0 < M → ¬ g3 = g4) := hide (fun h => by have := lt3.out h; omega)
  have ne04 : Hid (¬ w.heap.size = g4) := hide (by omega)
  have hg4w : Hid (w.heap.size ≤ g4) := hide (by omega)
  replace lt3 : Hid (0 < M → g3 < w4.heap.size) := hide (fun h => Nat.lt_of_lt_of_le (lt3.out h) (Below.size hw4))
  clear hw4 X4 h44 hz3
  have t0 := (T4 0 _ rfl).1
  have t1 := (T4 1 _ rfl).1
  have t2 := (T4 2 _ rfl).1
  have t3 := (T4 3 _ rfl).1
  have t4 := (T4 4 _ rfl).1
  have t5 := (T4 5 _ rfl).1
  have t6 := (T4 6 _ rfl).1
  have t7 := (T4 7 _ rfl).1
  have t8 := (T4 8 _ rfl).1
  have t9 := (T4 9 _ rfl).1
  go_wp2_with fail
  clear t0 t1 t2 t3 t4 t5 t6 t7 t8 t9
  refine (HIm.out g4 _ R4.toBSeg).mono ?_
  rintro e w5 ⟨a6, g6, c6, rfl, hg6, hO6, hw5⟩
  replace B0 := B0.ext hw5 (by simp; omega)
  replace T4 := T4.ext hw5 (by simp)
  replace hE := hE.trans hw5
  replace R4 := hide (R4.of_all hw5)
  replace s3 := hide (s3.out.of_all hw5)
  have hz5 : w4.heap.size < w5.heap.size := by have := Below.size hw5; simp at this; omega
  have ne64 : Hid (¬ g6 = g4) := hide (by simp at hg6; omega)
  have ne06 : Hid (¬ w.heap.size = g6) := hide (by simp at hg6; omega)
  have hg6w : Hid (w.heap.size ≤ g6) := hide (by simp at hg6; omega)
  have ne36 : Hid (0 < M → ¬ g3 = g6) := hide (fun h => by have := lt3.out h; simp at hg6; omega)
  clear hw5 hg6 lt3
  generalize w4.heap.size = S at *
  have ne0S : ¬ w.heap.size = S := by omega
  go_wp2_with fail
  refine (eqByteS_any a6 g6 0 M c6 F a3 g3 0 M c3 F _ hO6.toBSeg s3.out hM).mono ?_
  rintro e w7 ⟨rfl, q, rfl⟩
  rw [alike_refl]
  have D : Ext w5 (w5.drewN q) := below_drewN (Below.refl _ _) q
  replace B0 := B0.ext D (by omega)
  replace T4 := T4.ext D hz5
  replace hE := hE.trans D
  replace R4 := hide (R4.out.of_all D)
  replace s3 := hide (s3.out.of_all D)
  have z6 := hide (hO6.of_all D)
  replace hz5 : S < (w5.drewN q).heap.size := Nat.lt_of_lt_of_le hz5 (Below.size D)
  clear D hO6
  generalize w5.drewN q = w7 at *
  go_wp2
  obtain ⟨X, hX⟩ : ∃ X : Nat → Prop, X = fun _ => False := ⟨_, rfl⟩
  have x0 : ∀ k, k < w7.heap.size → ¬ X k := fun k h => by rw [hX]; exact fun e => e
  clear hX
  have k0 := cell_reC (B0 0 _ rfl).1 (x0 _ (by first | omega | (simp only; omega)))
  have k1 := cell_reC (B0 1 _ rfl).1 (x0 _ (by first | omega | (simp only; omega)))
  have k2 := cell_reC (B0 2 _ rfl).1 (x0 _ (by first | omega | (simp only; omega)))
  have k3 := cell_reC (B0 3 _ rfl).1 (x0 _ (by first | omega | (simp only; omega)))
  have k4 := cell_reC (B0 4 _ rfl).1 (x0 _ (by first | omega | (simp only; omega)))
  have k5 := cell_reC (B0 5 _ rfl).1 (x0 _ (by first | omega | (simp only; omega)))
  have k6 := cell_reC (B0 6 _ rfl).1 (x0 _ (by first | omega | (simp only; omega)))
  have k7 := cell_reC (B0 7 _ rfl).1 (x0 _ (by first | omega | (simp only; omega)))
  have k8 := cell_reC (B0 8 _ rfl).1 (x0 _ (by first | omega | (simp only; omega)))
  have k9 := cell_reC (B0 9 _ rfl).1 (x0 _ (by first | omega | (simp only; omega)))
  have t0 := cell_reC (T4 0 _ rfl).1 (x0 _ (by first | omega | (simp only; omega)))
  have t1 := cell_reC (T4 1 _ rfl).1 (x0 _ (by first | omega | (simp only; omega)))
  have t2 := cell_reC (T4 2 _ rfl).1 (x0 _ (by first | omega | (simp only; omega)))
  have t3 := cell_reC (T4 3 _ rfl).1 (x0 _ (by first | omega | (simp only; omega)))
  have t4 := cell_reC (T4 4 _ rfl).1 (x0 _ (by first | omega | (simp only; omega)))
  have t5 := cell_reC (T4 5 _ rfl).1 (x0 _ (by first | omega | (simp only; omega)))
  have t6 := cell_reC (T4 6 _ rfl).1 (x0 _ (by first | omega | (simp only; omega)))
  have t7 := cell_reC (T4 7 _ rfl).1 (x0 _ (by first | omega | (simp only; omega)))
  have t8 := cell_reC (T4 8 _ rfl).1 (x0 _ (by first | omega | (simp only; omega)))
  have t9 := cell_reC (T4 9 _ rfl).1 (x0 _ (by first | omega | (simp only; omega)))
  refine anyK_begin X 5 rfl (by kernel_rfl) ?_
  refine anyK_take 0 2 3 rfl (by decide) (by kernel_rfl) (fun _ _ d _ _ h => by cases d <;> exact h) ?_
  repeat (refine headC_step (fun K hK => ?_); go_simp; first | (refine hK _ ?_; clear hK K) | (apply Exists.intro; refine ⟨fun _ => ?_, hK _ ?_⟩; (fail); clear hK K))
  refine headC_nil ?_
  clear k0 k1 k2 k3 k4 k5 k6 k7 k8 k9 t0 t1 t2 t3 t4 t5 t6 t7 t8 t9
  refine anyK_one 2 (by kernel_rfl) ?_
  refine stepK_run rfl ?_
  intro wa ha K hK
  go_simp
  refine (HTo.out _ (hE.trans ha)).mono ?_
  rintro e wb ⟨g2, rfl, R6, -, -, hb⟩
  have hx := ha.trans hb
  replace R6 := hide R6
  go_simp
  refine hK _ _ (.of_ext hx) ?_
  clear hK K ha hb
  refine anyK_one 3 (by kernel_rfl) ?_
  refine stepK_run rfl ?_
  intro wc hc K hK
  go_simp
  refine (eqStream_same h0 h1 h2 h3 h4 h5 h6 h7 g4 g2 n f many _ (R4.out.of_all (hx.trans hc)).toBSeg (R6.out.of_all hc).toBSeg Hn.out).mono ?_
  rintro e wd ⟨rfl, hd⟩
  have hx2 := hx.trans (hc.trans hd)
  go_simp
  refine hK _ _ (.of_ext hx2) ?_
  clear hK K hc hd hx R6
  refine anyK_take 4 1 0 rfl (by decide) (by kernel_rfl) (fun _ _ d _ _ h => by cases d <;> exact h) ?_
  repeat (refine headC_step (fun K hK => ?_); go_simp; first | (refine hK _ ?_; clear hK K) | (apply Exists.intro; refine ⟨fun _ => ?_, hK _ ?_⟩; (fail); clear hK K))
  refine headC_nil ?_
  refine anyK_done (by kernel_rfl) ?_ 0
  intro we he
  replace hx2 := hx2.trans he
  clear he
  replace B0 := B0.ext hx2 (by omega)
  replace T4 := T4.ext hx2 hz5
  replace hE := hE.trans hx2
  replace R4 := hide (R4.out.of_all hx2)
  replace s3 := hide (s3.out.of_all hx2)
  replace z6 := hide (z6.out.of_all hx2)
  have hze : S < we.heap.size := Nat.lt_of_lt_of_le hz5 (Below.size hx2)
  have hg4e : Hid (g4 < we.heap.size) := hide (by omega)
  clear hx2 hz5 x0
  have t0 := (T4 0 _ rfl).1
  have t1 := (T4 1 _ rfl).1
  have t2 := (T4 2 _ rfl).1
  have t3 := (T4 3 _ rfl).1
  have t4 := (T4 4 _ rfl).1
  have t5 := (T4 5 _ rfl).1
  have t6 := (T4 6 _ rfl).1
  have t7 := (T4 7 _ rfl).1
  have t8 := (T4 8 _ rfl).1
  have t9 := (T4 9 _ rfl).1
  go_wp2_with fail
  clear t0 t1 t2 t3 t4 t5 t6 t7 t8 t9
  refine (markStream_any h0 h1 h2 h3 h4 h5 h6 h7 g4 n f many _ R4.out hg4e.out Hn.out).mono ?_
  rintro e w12 ⟨rfl, hG⟩
  replace B0 := B0.grw hG (by omega) ne04.out
  replace s3 := hide (s3.out.grw hG ne34.out)
  replace z6 := hide (z6.out.grw hG (fun _ => ne64.out))
  replace hE : Ext w w12 := Below.trans hE ⟨hG.os, hG.tape, hG.output, hG.size, fun k hk => hG.block k (by omega) (by intro e; subst e; have := hg4w.out; omega)⟩
  have hz12 : w.heap.size + 1 ≤ w12.heap.size := Nat.le_trans (by omega) hG.size
  clear hG R4 T4 hze hg4e
  have hk0 : ¬ (1 + (n : Int) < 0) := by omega
  go_wp2_with fail
  refine (eqByteS_any a6 g6 0 M c6 F a3 g3 0 M c3 F _ z6.out.toBSeg s3.out hM).mono ?_
  rintro e w14 ⟨rfl, q, rfl⟩
  rw [alike_refl]
  have D : Ext w12 (w12.drewN q) := below_drewN (Below.refl _ _) q
  replace B0 := B0.ext D (by omega)
  replace hE := hE.trans D
  replace s3 := hide (s3.out.of_all D)
  replace z6 := hide (z6.out.of_all D)
  replace hz12 : w.heap.size + 1 ≤ (w12.drewN q).heap.size := Nat.le_trans hz12 (Below.size D)
  clear D
  generalize w12.drewN q = w14 at *
  go_wp2_with fail
  refine (markByteS_any a6 g6 0 M c6 F 1 _ z6.out hM (by omega) (by omega)).mono ?_
  rintro e w15 ⟨rfl, z15, hT⟩
  have hG : Grw (fun k => k = g6) w14 w15 := Grw.of_touch hT rfl
  replace B0 := B0.grw hG (by omega) ne06.out
  replace s3 := hide (s3.out.grw hG ne36.out)
  replace hE : Ext w w15 := Below.trans hE ⟨hG.os, hG.tape, hG.output, hG.size, fun k hk => hG.block k (by omega) (by intro e; subst e; have := hg6w.out; omega)⟩
  replace hz12 : w.heap.size + 1 ≤ w15.heap.size := Nat.le_trans hz12 hG.size
  replace z6 := hide z15
  clear hG hT z15
  go_wp2_with fail
  refine (heldByteS_any a6 g6 0 M c6 1 _ z6.out.toBSeg hM (by omega) (by omega)).mono ?_
  rintro e w16 ⟨rfl, hw⟩
  obtain rfl := hw.symm
  have hp : ¬ (1 + (M : Int) < 0) := by omega
  have k0 := (B0 0 _ rfl).1
  have k1 := (B0 1 _ rfl).1
  have k2 := (B0 2 _ rfl).1
  have k3 := (B0 3 _ rfl).1
  have k4 := (B0 4 _ rfl).1
  have k5 := (B0 5 _ rfl).1
  have k6 := (B0 6 _ rfl).1
  have k7 := (B0 7 _ rfl).1
  have k8 := (B0 8 _ rfl).1
  have k9 := (B0 9 _ rfl).1
  go_wp2_with fail
  clear k0 k1 k2 k3 k4 k5 k6 k7 k8 k9
  refine (HTo.out _ hE).mono ?_
  rintro e w17 ⟨g17, rfl, R17, -, -, hw17⟩
  replace s3 := hide (s3.out.of_all hw17)
  replace z6 := hide (z6.out.of_all hw17)
  replace hE := hE.trans hw17
  clear hw17 B0 HTo
  go_wp2_with fail
  refine (HIm.out g17 _ R17.toBSeg).mono ?_
  rintro e w19 ⟨a19, g19, c19, rfl, -, hO19, hw19⟩
  replace s3 := hide (s3.out.of_all hw19)
  replace z6 := hide (z6.out.of_all hw19)
  replace hE := hE.trans hw19
  clear hw19 R17 HIm
  go_wp2_with fail
  refine (eqByteS_any a19 g19 0 M c19 F a3 g3 0 M c3 F _ hO19.toBSeg s3.out hM).mono ?_
  rintro e w20 ⟨rfl, q, rfl⟩
  rw [alike_refl]
  go_wp2_with fail
  refine (heldByteS_any a6 g6 0 M c6 1 _ (z6.out.toBSeg.of_all (below_drewN (Below.refl _ _) q)) hM (by omega) (by omega)).mono ?_
  rintro e w21 ⟨rfl, hw⟩
  obtain rfl := hw.symm
  go_wp2
  go_ret
  exact ⟨rfl, below_drewN hE q⟩

set_option maxRecDepth 100000 in
theorem law_long (h0 h1 h2 h3 h4 h5 h6 h7 : Int) (r : Option Addr) (n cap : Nat) (many : Int) (w : World) (hn : ¬ n ≤ 1048576) (hm : n ≤ 9223372036854775807) :
    Calls Try.prog 7 #[.agg #[.int .i64 h0, .int .i64 h1, .int .i64 h2, .int .i64 h3, .int .i64 h4, .int .i64 h5, .int .i64 h6, .int .i64 h7, .slice r n cap, .int .i64 many]] w fun e w' => e = .returned (.bool true) ∧ Below w.heap.size w w' := by
  have HSz := hide (fun w => szStream_long h0 h1 h2 h3 h4 h5 h6 h7 r n cap many w hn hm)
  go_enter Try.func7, Try.ntmps7
  go_wp2_with fail
  refine (HSz.out _).mono ?_
  rintro e w1 ⟨rfl, hw1⟩
  obtain ⟨B0, hE, hz⟩ := box1 w [.int .i64 h0, .int .i64 h1, .int .i64 h2, .int .i64 h3, .int .i64 h4, .int .i64 h5, .int .i64 h6, .int .i64 h7, .slice r n cap, .int .i64 many] 37 hw1
  go_wp2
  go_ret
  exact ⟨rfl, hE⟩

theorem row_bseg {w : World} {a : Option Addr} {len cap : Nat} {zs : List Int} (h : IsRow .u8 w a len cap zs) : ∃ b off, BSeg w a b off len (fun i => zs.getD i 0) ∧ len ≤ maxLen ∧ ∀ i, i < len → 0 ≤ zs.getD i 0 ∧ zs.getD i 0 < 256 := by
  rcases h with ⟨rfl, rfl, rfl, rfl⟩ | ⟨x, rfl, hl, hm, hz, hcell, hwz⟩
  · exact ⟨0, 0, ⟨fun h => absurd h (Nat.lt_irrefl _), fun i hi => absurd hi (Nat.not_lt_zero _)⟩, Nat.zero_le _, fun i hi => absurd hi (Nat.not_lt_zero _)⟩
  · obtain ⟨b, off, spot⟩ := x
    by_cases h0 : len = 0
    · subst h0
      exact ⟨0, 0, ⟨fun h => absurd h (Nat.lt_irrefl _), fun i hi => absurd hi (Nat.not_lt_zero _)⟩, Nat.zero_le _, fun i hi => absurd hi (Nat.not_lt_zero _)⟩
    · have hspot : spot = none := by simpa [Addr.add] using World.cell?_spot (hcell 0 (by omega))
      subst hspot
      exact ⟨b, off, ⟨fun _ => rfl, fun i hi => by
        have h := hcell i (by omega)
        have e : Addr.add ⟨b, off, none⟩ i = ⟨b, off + i, none⟩ := by
          by_cases h0 : i = 0
          · subst h0; simp [Addr.add]
          · simp [Addr.add, h0]
        rwa [e] at h⟩, Nat.le_trans hl hm, fun i hi => by
        have hmm : zs.getD i 0 ∈ zs := by
          rw [List.getD_eq_getElem?_getD, List.getElem?_eq_getElem (show i < zs.length by omega)]
          exact List.getElem_mem _
        have := bounds_u8 (hwz _ hmm)
        omega⟩

theorem walk (h0 h1 h2 h3 h4 h5 h6 h7 : Int) (r : Option Addr) (len cap : Nat) (z : List Int) (many : Int) (w : World) (hw : IsRow .u8 w r len cap z) :
    Calls Try.prog 7 #[.agg #[.int .i64 h0, .int .i64 h1, .int .i64 h2, .int .i64 h3, .int .i64 h4, .int .i64 h5, .int .i64 h6, .int .i64 h7, .slice r len cap, .int .i64 many]] w fun e w' => e = .returned (.bool true) ∧ Below w.heap.size w w' := by
  obtain ⟨b, off, hs, hm, hby⟩ := row_bseg hw
  by_cases hn : len ≤ 1048576
  · exact law h0 h1 h2 h3 h4 h5 h6 h7 r b off len cap _ many w hs hn hby
  · exact law_long h0 h1 h2 h3 h4 h5 h6 h7 r len cap many w hn (Nat.le_trans hm (by decide))

theorem cellsStream : Try.prog.cellsOf 37 = 10 := by kernel_rfl
theorem cellsA8 : Try.prog.cellsOf 35 = 8 := by kernel_rfl
theorem cellsInt : Try.prog.cellsOf 3 = 1 := by kernel_rfl
theorem cellsBs : Try.prog.cellsOf 22 = 1 := by kernel_rfl

theorem array10 {α : Type} {cs : Array α} (h : cs.size = 10) : ∃ c0 c1 c2 c3 c4 c5 c6 c7 c8 c9, cs = #[c0, c1, c2, c3, c4, c5, c6, c7, c8, c9] := by
  obtain ⟨l⟩ := cs
  match l, h with
  | [c0, c1, c2, c3, c4, c5, c6, c7, c8, c9], _ => exact ⟨c0, c1, c2, c3, c4, c5, c6, c7, c8, c9, rfl⟩

theorem list3 {α : Type} {l : List α} (h : l.length = 3) : ∃ c0 c1 c2, l = [c0, c1, c2] := by
  match l, h with
  | [c0, c1, c2], _ => exact ⟨c0, c1, c2, rfl⟩

theorem list8 {α : Type} {l : List α} (h : l.length = 8) : ∃ c0 c1 c2 c3 c4 c5 c6 c7, l = [c0, c1, c2, c3, c4, c5, c6, c7] := by
  match l, h with
  | [c0, c1, c2, c3, c4, c5, c6, c7], _ => exact ⟨c0, c1, c2, c3, c4, c5, c6, c7, rfl⟩

section
variable {H : Type} {enc : TypeId × Value → H} {w : World} {base : Nat} {held : Bool}

set_option maxRecDepth 100000 in
theorem open_stream {r : Reach} {b0 : Nat} {v : Value} {d : DataW H} {p : List MemPlace} (hv : Value.okWide Try.prog w r b0 37 v) (h : DataW.Trod enc Try.prog w base (fun _ => true) held 37 v d p) :
    ∃ (h0 h1 h2 h3 h4 h5 h6 h7 many : Int) (a : Option Addr) (len cap : Nat) (zs : List Int), v = .agg #[.int .i64 h0, .int .i64 h1, .int .i64 h2, .int .i64 h3, .int .i64 h4, .int .i64 h5, .int .i64 h6, .int .i64 h7, .slice a len cap, .int .i64 many] ∧ IsRow .u8 w a len cap zs := by
  obtain ⟨cs, rfl, hsz⟩ := okWide_struct Try.underlying37 hv
  obtain ⟨c0, c1, c2, c3, c4, c5, c6, c7, c8, c9, rfl⟩ := array10 (hsz.trans cellsStream)
  obtain ⟨fuel, hf⟩ := h
  obtain ⟨xs, n, _, hx, _, hlen, hel⟩ := DataW.trod_struct Try.underlying37 hf
  obtain ⟨y0, y1, y2, rfl⟩ := list3 hlen
  have e0 := hel 0 _ rfl
  have e1 := hel 1 _ rfl
  have e2 := hel 2 _ rfl
  simp only [Value.cells] at e0 e1 e2
  simp [cellsA8, cellsInt, cellsBs] at e0 e1 e2
  obtain ⟨zs, m, _, _, _, hl8, ha⟩ := DataW.trod_array Try.underlying35 e0
  obtain ⟨x0, x1, x2, x3, x4, x5, x6, x7, rfl⟩ := list8 hl8
  have a0 := ha 0 (by omega)
  have a1 := ha 1 (by omega)
  have a2 := ha 2 (by omega)
  have a3 := ha 3 (by omega)
  have a4 := ha 4 (by omega)
  have a5 := ha 5 (by omega)
  have a6 := ha 6 (by omega)
  have a7 := ha 7 (by omega)
  simp [cellsInt] at a0 a1 a2 a3 a4 a5 a6 a7
  obtain ⟨h0, q0, _, _⟩ := DataW.trod_int Try.underlying3 a0
  obtain ⟨h1, q1, _, _⟩ := DataW.trod_int Try.underlying3 a1
  obtain ⟨h2, q2, _, _⟩ := DataW.trod_int Try.underlying3 a2
  obtain ⟨h3, q3, _, _⟩ := DataW.trod_int Try.underlying3 a3
  obtain ⟨h4, q4, _, _⟩ := DataW.trod_int Try.underlying3 a4
  obtain ⟨h5, q5, _, _⟩ := DataW.trod_int Try.underlying3 a5
  obtain ⟨h6, q6, _, _⟩ := DataW.trod_int Try.underlying3 a6
  obtain ⟨h7, q7, _, _⟩ := DataW.trod_int Try.underlying3 a7
  obtain ⟨many, q9, _, _⟩ := DataW.trod_int Try.underlying3 e2
  simp at q0 q1 q2 q3 q4 q5 q6 q7 q9
  subst q0 q1 q2 q3 q4 q5 q6 q7 q9
  rcases open_ints Try.underlying22 Try.underlying5 (by kernel_rfl) e1 with ⟨hcs, _⟩ | ⟨x, l, c, zs, hcs, _, hl, hm, hz, _, hcell, hwz⟩
  · simp at hcs
    subst hcs
    exact ⟨h0, h1, h2, h3, h4, h5, h6, h7, many, none, 0, 0, [], rfl, .inl ⟨rfl, rfl, rfl, rfl⟩⟩
  · simp at hcs
    subst hcs
    exact ⟨h0, h1, h2, h3, h4, h5, h6, h7, many, some x, l, c, zs, rfl, .inr ⟨_, rfl, hl, hm, by simpa using hz, hcell, hwz⟩⟩

end

/-! ### THE ROW's STEP -/
set_option maxRecDepth 100000 in
theorem lifted (os : Os) (started : os.Started) (H : Type) (enc : TypeId × Value → H) :
    ReturnsInHanded {} Try.checked os 7 .any (Rows.fnExactDigestSpec.pre6 enc Try.prog Try.f7 Rows.fnExactDigestRow.domain false) (Rows.fnExactDigestSpec.post enc Try.prog Try.f7 false true false false) := by
  refine returnsInHanded_of_change (C := Try.checked) own started (by kernel_rfl) Try.func7
    (ChangeSpec.witness6 (enc := enc) (C := Try.checked) false ⟨#[], #[.agg #[.int .i64 0, .int .i64 0, .int .i64 0, .int .i64 0, .int .i64 0, .int .i64 0, .int .i64 0, .int .i64 0, .slice none 0 0, .int .i64 0]], []⟩ 8 (by kernel_rfl) (by kernel_rfl) (by kernel_rfl) (by kernel_rfl)) ?_
  intro W base args ds gs before hval0 hW hcnd _
  have hval : ∀ (j : Nat) t v, Try.f7.params[j]? = some t → args[j]? = some v → Value.okWide Try.prog W .any base t v := hval0
  have hW' := hW
  obtain ⟨p, q, hA0, hV, rfl, hfz, hnd⟩ := hW
  have hA : DataW.TrodAll enc Try.prog W 0 (fun _ => true) true Try.f7.params.toList args.toList ds p := hA0
  rw [Try.params7] at hA hval
  obtain ⟨v0, vs0, d0, ds0, p0, q0, hargs, rfl, rfl, h0, r0⟩ := trodAll_cons hA
  obtain ⟨rfl, rfl, rfl⟩ := trodAll_nil r0
  obtain rfl : args = #[v0] := by cases args; simp_all
  obtain ⟨rfl, rfl⟩ := trodVars_none hV
  have k0 := h0
  have lt0 : ∀ x ∈ p0, x.block < W.heap.size := by obtain ⟨m, hm⟩ := k0; exact DataW.trod_lt m _ _ _ hm
  obtain ⟨g0, g1, g2, g3, g4, g5, g6, g7, many, a, len, cap, zs, rfl, hrow⟩ := open_stream (hval 0 37 v0 rfl rfl) h0
  clear hA0 hval0
  refine (walk g0 g1 g2 g3 g4 g5 g6 g7 a len cap zs many W hrow).mono fun e W' ⟨he, bel⟩ => ?_
  subst he
  exact ⟨_, rfl, _, _, _, [], _, [], hW', trodAll_mk1 (shut_bool Try.underlying4 _), (trodAll_cons_mk (Below.trod laidOut (by kernel_rfl) (of_decide_eq_true (by kernel_rfl)) k0 bel lt0) trodAll_mk0), rfl, bel.frame _, fun h => by cases h⟩

theorem over : Rows.fnExactDigestRow.holds Try.pinned (OpenSpec.ofChange Rows.fnExactDigestSpec) :=
  OpenClaim.holds_of_wide 7 Try.f7 rfl rfl rfl rfl rfl rfl rfl ⟨rfl, rfl, rfl, rfl, rfl⟩ rfl rfl rfl rfl rfl (by kernel_rfl) Try.func7 (by kernel_rfl)
    (of_decide_eq_true (by kernel_rfl)) (by unfold Func.isWrapper; first | (rw [if_pos (by decide +kernel)]; kernel_rfl) | (rw [if_neg (by decide +kernel)]; exact ⟨rfl, rfl⟩))
    (fun os started H enc _ => lifted os started H enc)

theorem proved : Rows.FnExactDigestSaid := over
end Go.Proofs.Ythgdempjpndhgaa.fnExactDigest

namespace Go.Proofs.Ythgdempjpndhgaa
/-- The given statement. -/
theorem fnExactDigest_holds : Rows.FnExactDigestSaid := fnExactDigest.proved
#print axioms fnExactDigest_holds
end Go.Proofs.Ythgdempjpndhgaa
