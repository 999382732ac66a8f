/- Walks: CrlTbs and WriteCrl of both (written by mkclt.py). -/
import Derived.Test.YtkogbinfhoiggaaGreatDoorCx37
namespace Go.Proofs.YtkogbinfhoiggaaGreatDoor
set_option linter.unusedVariables false
set_option linter.unusedSimpArgs false
open Go.RowKit
theorem SmK.app {C D : List Ic} (h1 : ∀ c ∈ C, c.bd.length ≤ 1000 ∧ c.kid ≤ 1000) (h2 : ∀ c ∈ D, c.bd.length ≤ 1000 ∧ c.kid ≤ 1000) : ∀ c ∈ C ++ D, c.bd.length ≤ 1000 ∧ c.kid ≤ 1000 := fun c hc => by
 rcases List.mem_append.1 hc with h | h
 ·exact h1 c h
 ·exact h2 c h
theorem SmK.cons {x : Ic} {C : List Ic} (h1 : x.bd.length ≤ 1000 ∧ x.kid ≤ 1000) (h2 : ∀ c ∈ C, c.bd.length ≤ 1000 ∧ c.kid ≤ 1000) : ∀ c ∈ x :: C, c.bd.length ≤ 1000 ∧ c.kid ≤ 1000 := fun c hc => by
 rcases List.mem_cons.1 hc with rfl | h
 ·exact h1
 ·exact h2 c h
theorem SmK.nil : ∀ c ∈ ([] : List Ic), c.bd.length ≤ 1000 ∧ c.kid ≤ 1000 := fun c hc => by simp at hc
theorem intC_sm {n : Int} (h0 : -9223372036854775808 ≤ n) (h1 : n ≤ 9223372036854775807) : (intC n).bd.length ≤ 1000 ∧ (intC n).kid ≤ 1000 := ⟨by have := ibL_len n h0 h1; show (ibL n).length ≤ 1000; omega, by show (0 : Int) ≤ 1000; omega⟩
theorem nmC_sm {n : Nat} {f : Nat → ByteArray} (hn : n ≤ 4) (hf : ∀ i, i < n → (f i).size ≤ 40) : ∀ c ∈ nmC n f, c.bd.length ≤ 1000 ∧ c.kid ≤ 1000 :=
 SmK.cons ⟨Nat.zero_le _, by show (n : Int) ≤ 1000; omega⟩ (fun c hc => by
  obtain ⟨i, hi, rfl⟩ := List.mem_map.1 hc
  rw [List.mem_range] at hi
  refine ⟨?_, by show (0 : Int) ≤ 1000; omega⟩
  show ((List.range (f i).size).map _).length ≤ 1000
  rw [List.length_map, List.length_range]
  have := hf i hi
  omega)
theorem tiC_sm (g : Int → Nat × Nat × Nat × Nat) (t : Int) : (tiC g t).bd.length ≤ 1000 ∧ (tiC g t).kid ≤ 1000 := ⟨by have := tiC_len g t; omega, by
 unfold tiC
 split <;> (show (0 : Int) ≤ 1000; omega)⟩
theorem tmC_sm (g : Int → Nat × Nat × Nat × Nat) (fr to : Int) : ∀ c ∈ tmC g fr to, c.bd.length ≤ 1000 ∧ c.kid ≤ 1000 := SmK.cons ⟨Nat.zero_le _, by show (2 : Int) ≤ 1000; omega⟩ (SmK.app (SmK.cons (tiC_sm g fr) SmK.nil) (SmK.cons (tiC_sm g to) SmK.nil))
theorem nsC_sm {n : Nat} {f : Nat → Int} (hn : n ≤ 1000) (hf : ∀ i, i < n → -9223372036854775808 ≤ f i ∧ f i ≤ 9223372036854775807) : ∀ c ∈ nsC n f, c.bd.length ≤ 1000 ∧ c.kid ≤ 1000 :=
 SmK.cons ⟨Nat.zero_le _, by show (n : Int) ≤ 1000; omega⟩ (fun c hc => by
  obtain ⟨i, hi, rfl⟩ := List.mem_map.1 hc
  rw [List.mem_range] at hi
  exact intC_sm (hf i hi).1 (hf i hi).2)
theorem clC_sm {g : Int → Nat × Nat × Nat × Nat} {c : Cl} (h : ClOk c) : (clC g c).length ≤ 60 ∧ ∀ x ∈ clC g c, x.bd.length ≤ 1000 ∧ x.kid ≤ 1000 := by
 refine ⟨?_, SmK.cons ⟨Nat.zero_le _, by show (4 : Int) ≤ 1000; omega⟩ (SmK.app (SmK.cons (intC_sm (by have := h.alg; omega) (by have := h.alg; omega)) SmK.nil) (SmK.app (nmC_sm h.ni h.fi) (SmK.app (tmC_sm g _ _) (nsC_sm (by have := h.nv; omega) (fun i hi => by have := h.fv i hi; omega)))))⟩
 have h1 := h.ni
 have h2 := h.nv
 unfold clC nmC tmC nsC
 simp
 omega
theorem seC_sm {C : List Ic} {n : Nat} {f : Nat → Int} (h : C.length ≤ 90 ∧ ∀ x ∈ C, x.bd.length ≤ 1000 ∧ x.kid ≤ 1000) (hn : n ≤ 64) : SmK (seC C n f) := by
 have h3 : ∀ x ∈ seC C n f, x.bd.length ≤ 1000 ∧ x.kid ≤ 1000 := SmK.cons ⟨Nat.zero_le _, by show (2 : Int) ≤ 1000; omega⟩ (SmK.app h.2 (SmK.cons ⟨by simp; omega, by show (0 : Int) ≤ 1000; omega⟩ SmK.nil))
 exact ⟨⟨by have := h.1; unfold seC; simp; omega, fun x hx => (h3 x hx).1⟩, fun x hx => (h3 x hx).2⟩
def ansL (ok : Bool) (C : List Ic) : List Int := if ok then wtL C else []
def ansB (ok : Bool) (C : List Ic) : Bool := if ok then wtB C else false
def GivesAn (w : World) (ok : Bool) (C : List Ic) (e : Ending) (w' : World) : Prop := GivesKb w (ansL ok C).length (fun i => (ansL ok C).getD i 0) (ansB ok C) e w'
theorem GivesAn.no (w0 w : World) (hE : Ext w0 w) (C : List Ic) : GivesAn w0 false C (.returned (.tuple #[.slice (some ⟨w.heap.size, 0, none⟩) 0 0, .bool false])) (w.alloc (.cells #[] 5)) :=
 ⟨_, w.heap.size, 0, rfl, Below.size hE, ⟨⟨fun h => absurd h (Nat.lt_irrefl _), fun i hi => absurd hi (Nat.not_lt_zero _)⟩, fun i hi => absurd hi (Nat.not_lt_zero _)⟩, hE.trans (Ext.alloc _ _)⟩
theorem GivesAn.yes {w0 w w' : World} {C : List Ic} {e : Ending} (hE : Ext w0 w) (h : GivesKb w (wtL C).length (fun i => (wtL C).getD i 0) (wtB C) e w') : GivesAn w0 true C e w' := by
 obtain ⟨a, g, cap, rfl, hg, hO, hE2⟩ := h
 exact ⟨a, g, cap, rfl, Nat.le_trans (Below.size hE) hg, hO, hE.trans hE2⟩
theorem GivesAn.ext {w0 w w' : World} {ok : Bool} {C : List Ic} {e : Ending} (h : GivesAn w0 ok C e w) (hE : Ext w w') : GivesAn w0 ok C e w' := by
 obtain ⟨a, g, cap, h1, h2, h3, h4⟩ := h
 exact ⟨a, g, cap, h1, h2, h3.of_all hE, h4.trans hE⟩
theorem blk_reB {w : World} {C B : Nat} {vs : List Value} (h : Blk w C vs) (h0 : C < w.heap.size) (h1 : C < B) (q : ReC (fun k => B ≤ k) w) : Blk q.val C vs := h.of_heap (q.ok.block C h0 (by omega))
theorem ItsC.split {w6 : World} {v : Value} {L : List It} (h : ∀ W, Ext w6 W → ItsC v W L) : ∃ (tag : Int) (a : Option Addr) (n cap : Nat),
  (v = .iface 140 (.agg #[.int .i64 tag, .slice a n cap]) ∧ ∀ W, Ext w6 W → Calls Tryz.prog 211 #[.agg #[.int .i64 tag, .slice a n cap]] W (GivesRw W L)) ∨
  (v = .iface 133 (.agg #[.int .i64 tag, .slice a n cap]) ∧ ∀ W, Ext w6 W → Calls Tryz.prog 209 #[.agg #[.int .i64 tag, .slice a n cap]] W (GivesRw W L)) := by
 obtain ⟨tg, aa, nn, cc, h1 | h1⟩ := h w6 (Ext.refl _)
 ·refine ⟨tg, aa, nn, cc, .inl ⟨h1.1, fun W hW => ?_⟩⟩
  obtain ⟨tg', aa', nn', cc', h2 | h2⟩ := h W hW
  ·have e := h1.1.symm.trans h2.1
   simp at e
   obtain ⟨rfl, rfl, rfl, rfl⟩ := e
   exact h2.2
  ·have e := h1.1.symm.trans h2.1
   simp at e
 ·refine ⟨tg, aa, nn, cc, .inr ⟨h1.1, fun W hW => ?_⟩⟩
  obtain ⟨tg', aa', nn', cc', h2 | h2⟩ := h W hW
  ·have e := h1.1.symm.trans h2.1
   simp at e
  ·have e := h1.1.symm.trans h2.1
   simp at e
   obtain ⟨rfl, rfl, rfl, rfl⟩ := e
   exact h2.2
set_option maxHeartbeats 6400000 in
set_option maxRecDepth 100000 in
theorem implWriteCrl_at (g : Int → Nat × Nat × Nat × Nat) (hg : DayG g) (c : Cl) (m : ClPl) (w : World) (hI : ClIn w c m) (hS : ClSm c 1048576) (hT : MTab w) (hP : TabP w) :
  Calls Tryz.prog 28 #[.agg (clL c m).toArray] w fun e w' => GivesAn w (clB c) (seC (clC g c) c.ng c.fg) e w' := by
 obtain ⟨V, hV⟩ : ∃ V, w.alloc (.cells (clL c m).toArray 26) = V := ⟨_, rfl⟩
 obtain ⟨B0, hE, -⟩ := box1 w (clL c m) 26 (w1 := V) (by rw [← hV]; exact Ext.refl _)
 have HBk := hide B0
 have HE := hide hE
 have HL0 : Hid (w.heap.size < V.heap.size) := hide (Blk.lt B0 (by simp [clL]))
 have HK := hide (implCrlOk_at c m V (hI.ext hE) hS)
 have HL : Hid (clB c = true → ∀ W, Ext w W → Calls Tryz.prog 59 #[.agg (clL c m).toArray] W fun e w' => GivesPc W (clC g c) e w') := fun h W hW => crlTbsPiece_any g hg c m W (hI.ext hW) (ClOk.of h) (hT.ext hW) (hP.ext hW)
 have HSm : Hid (clB c = true → SmK (seC (clC g c) c.ng c.fg) ∧ (clC g c).length ≤ 90000) := fun h => ⟨seC_sm ⟨by have := (clC_sm (g := g) (ClOk.of h)).1; omega, (clC_sm (g := g) (ClOk.of h)).2⟩ (ClOk.of h).ng, by have := (clC_sm (g := g) (ClOk.of h)).1; omega⟩
 have Hld : Hid (∀ W, Blk W w.heap.size (clL c m) → (loadVar 26 ⟨w.heap.size, 0, none⟩).run Tryz.prog W = .ok (.agg (clL c m).toArray) W) := fun W hB => run_ld (P := Tryz.prog) 26 (clL c m) W (by kernel_rfl) (by kernel_rfl) w.heap.size 0 (Blk.ld hB 0 _ (fun j v h => by rw [Nat.zero_add]; exact h))
 have hld := Hld.out V HBk.out
 have HIg := hide (hI.g.of_all hE)
 have Hng : Hid (clB c = true → c.ng ≤ 64 ∧ 1 ≤ c.ng) := fun h => ⟨(ClOk.of h).ng, (ClOk.of h).ng1⟩
 generalize clC g c = C at *
 have Hc5 : Hid (∀ W, Blk W w.heap.size (clL c m) → W.cell? ⟨w.heap.size, 5, none⟩ = some (.slice m.g.ad c.ng m.g.cap)) := fun W h => (h 5 _ rfl).1
 have HAn : Hid (0 < (clL c m).length) := hide (by simp [clL])
 obtain ⟨A, hA⟩ : ∃ A, clL c m = A := ⟨_, rfl⟩
 rw [hA] at HK HL Hld HBk hld hV Hc5 HAn ⊢
 obtain ⟨ok, hok⟩ : ∃ b, clB c = b := ⟨_, rfl⟩
 rw [hok] at HK HL HSm Hng ⊢
 clear hA hok hE B0 hI hS hT hP
 go_enter Tryz.func28, Tryz.ntmps28
 go_wp2_with (refine wpList_ld (by first | rfl | simp [Region.wanted, yielded]) 26 _ rfl _ rfl _ hld ?_)
 refine HK.out.mono ?_
 rintro e w1 ⟨rfl, hE1⟩
 replace HBk := hide (Blk.ext HBk.out hE1 HL0.out)
 replace HIg := hide (HIg.out.of_all hE1)
 have HwX : Hid (w.heap.size < w1.heap.size) := hide (Blk.lt HBk.out HAn.out)
 replace HE := hide (HE.out.trans hE1)
 clear hE1 HK hld
 cases ok
 ·go_wp2
  go_ret2
  exact GivesAn.no w w1 HE.out _
 have HL2 := hide (HL.out rfl)
 have HS2 := hide (HSm.out rfl)
 have Hn2 := hide (Hng.out rfl)
 clear HL HSm Hng
 have c5 := Hc5.out w1 HBk.out
 have c5' := fun p : ReC (fun q => w1.heap.size ≤ q) w1 => cell_reC c5 (by show ¬ w1.heap.size ≤ w.heap.size; have := HwX.out; omega) p
 go_wp2_with fail
 refine anyK_begin (fun q => w1.heap.size ≤ q) 11 rfl (by kernel_rfl) ?_
 refine anyK_take 0 1 10 rfl (by decide) (by kernel_rfl) (fun _ _ d _ _ h => by cases d <;> exact h) ?_
 refine head_ld (by first | rfl | simp [Region.wanted, yielded]) rfl rfl (fun q => Hld.out _ (blk_reB HBk.out HwX.out HwX.out q)) ?_
 refine headC_nil ?_
 refine anyK_take 2 2 8 rfl (by decide) (by kernel_rfl) (fun _ _ d _ _ h => by cases d <;> exact h) ?_
 repeat (refine headC_step (fun K hK => ?_); go_simp; refine hK _ ?_; clear hK K)
 refine headC_nil ?_
 clear c5 c5'
 refine anyK_one 1 (by kernel_rfl) ?_
 refine stepK_run rfl ?_
 intro w3 hw3 K2 hK2
 have Xw3 : Hid (Ext w1 w3) := hide hw3
 go_simp
 refine (HL2.out w3 (HE.out.trans hw3)).mono ?_
 rintro r3 w4 ⟨v2, L2, rfl, h2, h2c, h2E⟩
 have H2 := hide h2
 have H2c := hide h2c
 have Xw4 : Hid (Ext w1 w4) := hide (hw3.trans h2E)
 have H34 := hide (Below.size h2E)
 refine hK2 _ _ (.of_ext Xw4.out) ?_
 clear hK2 K2 h2 h2c h2E hw3 HL2
 refine anyK_one 4 (by kernel_rfl) ?_
 refine stepK_run rfl ?_
 intro w5 hw5 K2 hK2
 have Xw5 : Hid (Ext w1 w5) := hide (Xw4.out.trans hw5)
 go_simp
 refine (sealedPiece_any v2 L2 C m.g.ad m.g.b m.g.off c.ng m.g.cap c.fg w3.heap.size w5 ((H2.out.ext hw5).wide (Nat.le_refl _) (Below.size hw5) (Nat.le_refl _)) H2c.out (Nat.le_trans H34.out (Below.size hw5)) (HIg.out.of_all Xw5.out) (by have := Hn2.out.1; omega) HS2.out.2).mono ?_
 rintro r5 w6 ⟨v6, L6, rfl, h6, h6c, h6E⟩
 have H6 := hide h6
 have H6c := hide h6c
 have Xw6 : Hid (Ext w1 w6) := hide (Xw5.out.trans h6E)
 have H36 : Hid (w3.heap.size ≤ w6.heap.size) := hide (Nat.le_trans H34.out (Nat.le_trans (Below.size hw5) (Below.size h6E)))
 refine hK2 _ _ (.of_ext Xw6.out) ?_
 clear hK2 K2 h6 h6c h6E hw5 H2 H2c
 obtain ⟨tg, aa, nn, cc, h6 | h6⟩ := ItsC.split (w6 := w6) (fun W hW => (H6.out.ext hW).its W (Agr.refl _ _ _))
 ·obtain ⟨rfl, hcl⟩ := h6
  have HItm := hide hcl
  have hm := @Tryz.methLeaf tg aa nn cc
  clear hcl
  refine anyK_one 5 (by kernel_rfl) ?_
  refine stepK_run rfl ?_
  intro w7 hw7 K2 hK2
  have Xw7 : Hid (Ext w1 w7) := hide (Xw6.out.trans hw7)
  have HCl := hide (HItm.out w7 hw7)
  go_simp
  refine HCl.out.mono ?_
  rintro r7 w8 ⟨u8, rfl, h8, h8E⟩
  have HA8 := hide (LAcc.of_its (H6.out.ext hw7) h8 h8E (Nat.le_trans H36.out (Below.size hw7)))
  obtain ⟨a8, c8, rfl⟩ := ownsRow_slc h8
  have Xw8 : Hid (Ext w1 w8) := hide (Xw7.out.trans h8E)
  refine hK2 _ _ (.of_ext Xw8.out) ?_
  clear hK2 K2 h8 h8E hw7 HCl HItm hm
  obtain ⟨N8, hN8⟩ : ∃ N, L6.length = N := ⟨_, rfl⟩
  rw [hN8] at HA8 ⊢
  clear hN8
  refine anyK_one 6 (by kernel_rfl) ?_
  refine stepK_run rfl ?_
  intro w9 hw9 K2 hK2
  have Xw9 : Hid (Ext w1 w9) := hide (Xw8.out.trans hw9)
  go_simp
  refine (implDer_C (HA8.out.ext hw9) H6c.out HS2.out.1).mono ?_
  rintro r9 w10 h10
  have HG := hide (GivesAn.yes (HE.out.trans Xw9.out) h10)
  obtain ⟨a10, g10, c10, rfl, -, -, h10E⟩ := h10
  have Xw10 : Hid (Ext w1 w10) := hide (Xw9.out.trans h10E)
  refine hK2 _ _ (.of_ext Xw10.out) ?_
  clear hK2 K2 hw9 h10E HA8
  generalize (wtL (seC C c.ng c.fg)).length = M10 at *
  generalize wtB (seC C c.ng c.fg) = B10 at *
  refine anyK_take 7 4 0 rfl (by decide) (by kernel_rfl) (fun _ _ d _ _ h => by cases d <;> exact h) ?_
  repeat (refine headC_step (fun K hK => ?_); go_simp; refine hK _ ?_; clear hK K)
  refine headC_nil ?_
  refine anyK_done (by kernel_rfl) ?_ 0
  intro w13 hw13
  have HG2 := hide (HG.out.ext hw13)
  clear HG
  go_wp2
  go_ret2
  exact HG2.out
 ·obtain ⟨rfl, hcl⟩ := h6
  have HItm := hide hcl
  have hm := @Tryz.methKnot tg aa nn cc
  clear hcl
  refine anyK_one 5 (by kernel_rfl) ?_
  refine stepK_run rfl ?_
  intro w7 hw7 K2 hK2
  have Xw7 : Hid (Ext w1 w7) := hide (Xw6.out.trans hw7)
  have HCl := hide (HItm.out w7 hw7)
  go_simp
  refine HCl.out.mono ?_
  rintro r7 w8 ⟨u8, rfl, h8, h8E⟩
  have HA8 := hide (LAcc.of_its (H6.out.ext hw7) h8 h8E (Nat.le_trans H36.out (Below.size hw7)))
  obtain ⟨a8, c8, rfl⟩ := ownsRow_slc h8
  have Xw8 : Hid (Ext w1 w8) := hide (Xw7.out.trans h8E)
  refine hK2 _ _ (.of_ext Xw8.out) ?_
  clear hK2 K2 h8 h8E hw7 HCl HItm hm
  obtain ⟨N8, hN8⟩ : ∃ N, L6.length = N := ⟨_, rfl⟩
  rw [hN8] at HA8 ⊢
  clear hN8
  refine anyK_one 6 (by kernel_rfl) ?_
  refine stepK_run rfl ?_
  intro w9 hw9 K2 hK2
  have Xw9 : Hid (Ext w1 w9) := hide (Xw8.out.trans hw9)
  go_simp
  refine (implDer_C (HA8.out.ext hw9) H6c.out HS2.out.1).mono ?_
  rintro r9 w10 h10
  have HG := hide (GivesAn.yes (HE.out.trans Xw9.out) h10)
  obtain ⟨a10, g10, c10, rfl, -, -, h10E⟩ := h10
  have Xw10 : Hid (Ext w1 w10) := hide (Xw9.out.trans h10E)
  refine hK2 _ _ (.of_ext Xw10.out) ?_
  clear hK2 K2 hw9 h10E HA8
  generalize (wtL (seC C c.ng c.fg)).length = M10 at *
  generalize wtB (seC C c.ng c.fg) = B10 at *
  refine anyK_take 7 4 0 rfl (by decide) (by kernel_rfl) (fun _ _ d _ _ h => by cases d <;> exact h) ?_
  repeat (refine headC_step (fun K hK => ?_); go_simp; refine hK _ ?_; clear hK K)
  refine headC_nil ?_
  refine anyK_done (by kernel_rfl) ?_ 0
  intro w13 hw13
  have HG2 := hide (HG.out.ext hw13)
  clear HG
  go_wp2
  go_ret2
  exact HG2.out
set_option maxHeartbeats 6400000 in
set_option maxRecDepth 100000 in
theorem specWriteCrl_at (g : Int → Nat × Nat × Nat × Nat) (hg : DayG g) (c : Cl) (m : ClPl) (w : World) (hI : ClIn w c m) (hS : ClSm c 1048576) :
  Calls Tryz.prog 18 #[.agg (clL c m).toArray] w fun e w' => GivesAn w (clB c) (seC (clC g c) c.ng c.fg) e w' := by
 obtain ⟨V, hV⟩ : ∃ V, w.alloc (.cells (clL c m).toArray 26) = V := ⟨_, rfl⟩
 obtain ⟨B0, hE, -⟩ := box1 w (clL c m) 26 (w1 := V) (by rw [← hV]; exact Ext.refl _)
 have HBk := hide B0
 have HE := hide hE
 have HL0 : Hid (w.heap.size < V.heap.size) := hide (Blk.lt B0 (by simp [clL]))
 have HK := hide (specCrlOk_at c m V (hI.ext hE) hS)
 have HL : Hid (clB c = true → ∀ W, Ext w W → Calls Tryz.prog 44 #[.agg (clL c m).toArray] W fun e w' => GivesIs W.heap.size W (clC g c) e w') := fun h W hW => l13Tree_any g hg c m W (hI.ext hW) (ClOk.of h)
 have HSm : Hid (clB c = true → SmK (seC (clC g c) c.ng c.fg) ∧ (clC g c).length ≤ 90000) := fun h => ⟨seC_sm ⟨by have := (clC_sm (g := g) (ClOk.of h)).1; omega, (clC_sm (g := g) (ClOk.of h)).2⟩ (ClOk.of h).ng, by have := (clC_sm (g := g) (ClOk.of h)).1; omega⟩
 have Hld : Hid (∀ W, Blk W w.heap.size (clL c m) → (loadVar 26 ⟨w.heap.size, 0, none⟩).run Tryz.prog W = .ok (.agg (clL c m).toArray) W) := fun W hB => run_ld (P := Tryz.prog) 26 (clL c m) W (by kernel_rfl) (by kernel_rfl) w.heap.size 0 (Blk.ld hB 0 _ (fun j v h => by rw [Nat.zero_add]; exact h))
 have hld := Hld.out V HBk.out
 have HIg := hide (hI.g.of_all hE)
 have Hng : Hid (clB c = true → c.ng ≤ 64 ∧ 1 ≤ c.ng) := fun h => ⟨(ClOk.of h).ng, (ClOk.of h).ng1⟩
 generalize clC g c = C at *
 have Hc5 : Hid (∀ W, Blk W w.heap.size (clL c m) → W.cell? ⟨w.heap.size, 5, none⟩ = some (.slice m.g.ad c.ng m.g.cap)) := fun W h => (h 5 _ rfl).1
 have HAn : Hid (0 < (clL c m).length) := hide (by simp [clL])
 obtain ⟨A, hA⟩ : ∃ A, clL c m = A := ⟨_, rfl⟩
 rw [hA] at HK HL Hld HBk hld hV Hc5 HAn ⊢
 obtain ⟨ok, hok⟩ : ∃ b, clB c = b := ⟨_, rfl⟩
 rw [hok] at HK HL HSm Hng ⊢
 clear hA hok hE B0 hI hS
 go_enter Tryz.func18, Tryz.ntmps18
 go_wp2_with (refine wpList_ld (by first | rfl | simp [Region.wanted, yielded]) 26 _ rfl _ rfl _ hld ?_)
 refine HK.out.mono ?_
 rintro e w1 ⟨rfl, hE1⟩
 replace HBk := hide (Blk.ext HBk.out hE1 HL0.out)
 replace HIg := hide (HIg.out.of_all hE1)
 have HwX : Hid (w.heap.size < w1.heap.size) := hide (Blk.lt HBk.out HAn.out)
 replace HE := hide (HE.out.trans hE1)
 clear hE1 HK hld
 cases ok
 ·go_wp2
  go_ret2
  exact GivesAn.no w w1 HE.out _
 have HL2 := hide (HL.out rfl)
 have HS2 := hide (HSm.out rfl)
 have Hn2 := hide (Hng.out rfl)
 clear HL HSm Hng
 have c5 := Hc5.out w1 HBk.out
 have c5' := fun p : ReC (fun q => w1.heap.size ≤ q) w1 => cell_reC c5 (by show ¬ w1.heap.size ≤ w.heap.size; have := HwX.out; omega) p
 go_wp2_with fail
 refine anyK_begin (fun q => w1.heap.size ≤ q) 14 rfl (by kernel_rfl) ?_
 refine anyK_take 0 1 13 rfl (by decide) (by kernel_rfl) (fun _ _ d _ _ h => by cases d <;> exact h) ?_
 refine head_ld (by first | rfl | simp [Region.wanted, yielded]) rfl rfl (fun q => Hld.out _ (blk_reB HBk.out HwX.out HwX.out q)) ?_
 refine headC_nil ?_
 refine anyK_take 3 2 11 rfl (by decide) (by kernel_rfl) (fun _ _ d _ _ h => by cases d <;> exact h) ?_
 repeat (refine headC_step (fun K hK => ?_); go_simp; refine hK _ ?_; clear hK K)
 refine headC_nil ?_
 clear c5 c5'
 refine anyK_two 1 2 (by kernel_rfl) ?_ ?_
 ·refine stepK_run rfl ?_
  intro w3 hw3 K2 hK2
  go_simp
  refine (HL2.out w3 (HE.out.trans (hw3))).mono ?_
  rintro r3 w4 ⟨v2, L2, rfl, h2, h2c, h2E⟩
  have H2 := hide (h2.low (Below.size (hw3)))
  have H2c := hide h2c
  have Xw4 : Hid (Ext w1 w4) := hide ((hw3).trans h2E)
  refine hK2 _ _ (.of_ext Xw4.out) ?_
  clear hK2 K2 h2 h2c h2E hw3 HL2
  refine anyK_one 2 (by kernel_rfl) ?_
  refine stepK_run rfl ?_
  intro w5 hw5 K2 hK2
  go_simp
  have hc0 : (w5.alloc (.cells #[.int .u8 0] 5)).cell? ⟨w5.heap.size, 0, none⟩ = some (.int .u8 0) := World.cell?_alloc_new _ _ _ _
  have Xz : Hid (Ext w1 (w5.alloc (.cells #[.int .u8 0] 5))) := hide (Xw4.out.trans (hw5.trans (Ext.alloc _ _)))
  replace H2 := hide (H2.out.ext (hw5.trans (Ext.alloc w5 (.cells #[.int .u8 0] 5))))
  have Hc0 := hide hc0
  refine hK2 _ _ (.of_ext Xz.out) ?_
  clear hK2 K2 hw5 hc0 Xw4
  generalize w5.alloc (.cells #[.int .u8 0] 5) = wz at *
  generalize w5.heap.size = R at *
  refine anyK_one 5 (by kernel_rfl) ?_
  refine stepK_run rfl ?_
  intro w7 hw7 K2 hK2
  rw [if_pos (show _ = true by kernel_rfl)]
  refine wp_append_bsF _ _ rfl R 1 (byts (fun _ => 0) 1) rfl rfl (fun j u hj => by
   cases j with
   | zero =>
    obtain rfl : Value.int .u8 0 = u := by simpa [byts] using hj
    exact (Below.cell hw7 (p := ⟨R, 0, none⟩) (World.block_lt_of_cell? _ _ Hc0.out)).trans Hc0.out
   | succ j => simp [byts] at hj) m.g.ad m.g.b m.g.off c.ng m.g.cap c.fg rfl (HIg.out.of_all (Xz.out.trans hw7)) Hn2.out.2 (by have := Hn2.out.1; omega) ?_
  intro v8 w8 h1 h2
  rw [byts_cons, Nat.add_comm] at h1
  obtain ⟨xa, xg, xc, rfl, hxg, -, -, hxB⟩ := owns_seg h1
  have HX := hide hxB
  have Xz7 : Hid (Ext wz w7) := hide hw7
  have X78 : Hid (Ext w7 w8) := hide h2
  refine hK2 _ _ (.of_ext (Xz.out.trans (hw7.trans h2))) ?_
  clear hK2 K2 h1 h2 hxB hw7 Hc0
  refine anyK_one 6 (by kernel_rfl) ?_
  refine stepK_run rfl ?_
  intro w9 hw9 K2 hK2
  go_simp
  have HIt := hide (l10Item_any 3 xa xg 0 (c.ng + 1) xc (consF 0 c.fg) w7.heap.size w9 (HX.out.of_all hw9) hxg (Nat.le_trans (Below.size X78.out) (Below.size hw9)))
  rw [consF_map] at HIt
  refine HIt.out.mono ?_
  rintro r9 w10 ⟨v10, L10, rfl, h10, h10c, h10E⟩
  have H10 := hide h10
  have H10c := hide h10c
  have Xz10 : Hid (Ext wz w10) := hide (Xz7.out.trans (X78.out.trans (hw9.trans h10E)))
  refine hK2 _ _ (.of_ext (Xz.out.trans Xz10.out)) ?_
  clear hK2 K2 h10 h10c h10E hw9 HIt HX X78
  refine anyK_one 7 (by kernel_rfl) ?_
  refine stepK_run rfl ?_
  intro w11 hw11 K2 hK2
  rw [if_pos (show _ = true by kernel_rfl)]
  have e0 : Ext wz w11 := Xz10.out.trans hw11
  have lat := H2.out.later e0 ((H10.out.bods.low (Below.size Xz7.out)).ext hw11) (Below.size Xz.out)
  have hll : L2.length + L10.length ≤ 100000 := by
   have h1 := map_len H2c.out
   have h2 := map_len H10c.out
   have := HS2.out.2
   simp at h2
   omega
  refine wp_appL _ _ rfl w1.heap.size w7.heap.size wz v2 v10 L2 L10 rfl H2.out e0 rfl (ownsRow_ext H10.out.row hw11) lat.1 lat.2 (by omega) (Below.size Xz.out) ?_
  intro v12 w12 hA3 hB3
  have HA12 := hide hA3
  have Xw12 : Hid (Ext w1 w12) := hide (Below.trans (Xz.out.trans e0) (hB3 _ (fun j hj => (H2.out.row.lt j hj).1) (Nat.le_trans (Below.size Xz.out) (Below.size e0))))
  have Hll := hide hll
  refine hK2 _ _ (.of_ext Xw12.out) ?_
  clear hK2 K2 hA3 hB3 lat e0 hll hw11
  refine anyK_one 8 (by kernel_rfl) ?_
  refine stepK_run rfl ?_
  intro w13 hw13 K2 hK2
  go_simp
  refine (l10Made_any 48 2 v12 (L2 ++ L10) w1.heap.size w13 (HA12.out.ext hw13) (by rw [List.length_append]; exact Hll.out) (Nat.le_trans (Below.size Xw12.out) (Below.size hw13))).mono ?_
  rintro r13 w14 ⟨v14, L14, rfl, h14, h14c, h14E⟩
  have H14 := hide h14
  have H14c : Hid (L14.map ct = seC C c.ng c.fg) := hide (by rw [h14c, List.map_append, H2c.out, H10c.out]; rfl)
  have Xw14 : Hid (Ext w1 w14) := hide (Xw12.out.trans (hw13.trans h14E))
  refine hK2 _ _ (.of_ext Xw14.out) ?_
  clear hK2 K2 h14 h14c h14E hw13
  refine anyK_one 9 (by kernel_rfl) ?_
  refine stepK_run rfl ?_
  intro w15 hw15 K2 hK2
  go_simp
  have Xw15 : Hid (Ext w1 w15) := hide (Xw14.out.trans hw15)
  refine (specDer_C (H14.out.ext hw15) H14c.out HS2.out.1).mono ?_
  rintro r15 w16 h16
  have HG := hide (GivesAn.yes (HE.out.trans Xw15.out) h16)
  obtain ⟨a16, g16, c16, rfl, -, -, h16E⟩ := h16
  have Xw16 : Hid (Ext w1 w16) := hide (Xw15.out.trans h16E)
  refine hK2 _ _ (.of_ext Xw16.out) ?_
  clear hK2 K2 hw15 h16E
  generalize (wtL (seC C c.ng c.fg)).length = M16 at *
  generalize wtB (seC C c.ng c.fg) = B16 at *
  refine anyK_take 10 4 0 rfl (by decide) (by kernel_rfl) (fun _ _ d _ _ h => by cases d <;> exact h) ?_
  repeat (refine headC_step (fun K hK => ?_); go_simp; refine hK _ ?_; clear hK K)
  refine headC_nil ?_
  refine anyK_done (by kernel_rfl) ?_ 0
  intro w17 hw17
  have HG2 := hide (HG.out.ext hw17)
  clear HG
  go_wp2
  go_ret2
  exact HG2.out
 ·refine stepK_run rfl ?_
  intro w5 hw5 K2 hK2
  go_simp
  have hc0 : (w5.alloc (.cells #[.int .u8 0] 5)).cell? ⟨w5.heap.size, 0, none⟩ = some (.int .u8 0) := World.cell?_alloc_new _ _ _ _
  have Xw6 : Hid (Ext w1 (w5.alloc (.cells #[.int .u8 0] 5))) := hide (hw5.trans (Ext.alloc _ _))
  have Hc0 := hide hc0
  refine hK2 _ _ (.of_ext Xw6.out) ?_
  clear hK2 K2 hw5 hc0
  generalize w5.alloc (.cells #[.int .u8 0] 5) = w6 at *
  generalize w5.heap.size = R at *
  refine anyK_one 1 (by kernel_rfl) ?_
  refine stepK_run rfl ?_
  intro w3 hw3 K2 hK2
  go_simp
  refine (HL2.out w3 (HE.out.trans (Xw6.out.trans hw3))).mono ?_
  rintro r3 w4 ⟨v2, L2, rfl, h2, h2c, h2E⟩
  have H2 := hide (h2.low (Below.size (Xw6.out.trans hw3)))
  have H2c := hide h2c
  have Xw4 : Hid (Ext w1 w4) := hide ((Xw6.out.trans hw3).trans h2E)
  replace Hc0 := hide ((Below.cell (hw3.trans h2E) (p := ⟨R, 0, none⟩) (World.block_lt_of_cell? _ _ Hc0.out)).trans Hc0.out)
  have Xz := Xw4
  refine hK2 _ _ (.of_ext Xw4.out) ?_
  clear hK2 K2 h2 h2c h2E hw3 HL2 Xw4 Xw6
  generalize w4 = wz at *
  refine anyK_one 5 (by kernel_rfl) ?_
  refine stepK_run rfl ?_
  intro w7 hw7 K2 hK2
  rw [if_pos (show _ = true by kernel_rfl)]
  refine wp_append_bsF _ _ rfl R 1 (byts (fun _ => 0) 1) rfl rfl (fun j u hj => by
   cases j with
   | zero =>
    obtain rfl : Value.int .u8 0 = u := by simpa [byts] using hj
    exact (Below.cell hw7 (p := ⟨R, 0, none⟩) (World.block_lt_of_cell? _ _ Hc0.out)).trans Hc0.out
   | succ j => simp [byts] at hj) m.g.ad m.g.b m.g.off c.ng m.g.cap c.fg rfl (HIg.out.of_all (Xz.out.trans hw7)) Hn2.out.2 (by have := Hn2.out.1; omega) ?_
  intro v8 w8 h1 h2
  rw [byts_cons, Nat.add_comm] at h1
  obtain ⟨xa, xg, xc, rfl, hxg, -, -, hxB⟩ := owns_seg h1
  have HX := hide hxB
  have Xz7 : Hid (Ext wz w7) := hide hw7
  have X78 : Hid (Ext w7 w8) := hide h2
  refine hK2 _ _ (.of_ext (Xz.out.trans (hw7.trans h2))) ?_
  clear hK2 K2 h1 h2 hxB hw7 Hc0
  refine anyK_one 6 (by kernel_rfl) ?_
  refine stepK_run rfl ?_
  intro w9 hw9 K2 hK2
  go_simp
  have HIt := hide (l10Item_any 3 xa xg 0 (c.ng + 1) xc (consF 0 c.fg) w7.heap.size w9 (HX.out.of_all hw9) hxg (Nat.le_trans (Below.size X78.out) (Below.size hw9)))
  rw [consF_map] at HIt
  refine HIt.out.mono ?_
  rintro r9 w10 ⟨v10, L10, rfl, h10, h10c, h10E⟩
  have H10 := hide h10
  have H10c := hide h10c
  have Xz10 : Hid (Ext wz w10) := hide (Xz7.out.trans (X78.out.trans (hw9.trans h10E)))
  refine hK2 _ _ (.of_ext (Xz.out.trans Xz10.out)) ?_
  clear hK2 K2 h10 h10c h10E hw9 HIt HX X78
  refine anyK_one 7 (by kernel_rfl) ?_
  refine stepK_run rfl ?_
  intro w11 hw11 K2 hK2
  rw [if_pos (show _ = true by kernel_rfl)]
  have e0 : Ext wz w11 := Xz10.out.trans hw11
  have lat := H2.out.later e0 ((H10.out.bods.low (Below.size Xz7.out)).ext hw11) (Below.size Xz.out)
  have hll : L2.length + L10.length ≤ 100000 := by
   have h1 := map_len H2c.out
   have h2 := map_len H10c.out
   have := HS2.out.2
   simp at h2
   omega
  refine wp_appL _ _ rfl w1.heap.size w7.heap.size wz v2 v10 L2 L10 rfl H2.out e0 rfl (ownsRow_ext H10.out.row hw11) lat.1 lat.2 (by omega) (Below.size Xz.out) ?_
  intro v12 w12 hA3 hB3
  have HA12 := hide hA3
  have Xw12 : Hid (Ext w1 w12) := hide (Below.trans (Xz.out.trans e0) (hB3 _ (fun j hj => (H2.out.row.lt j hj).1) (Nat.le_trans (Below.size Xz.out) (Below.size e0))))
  have Hll := hide hll
  refine hK2 _ _ (.of_ext Xw12.out) ?_
  clear hK2 K2 hA3 hB3 lat e0 hll hw11
  refine anyK_one 8 (by kernel_rfl) ?_
  refine stepK_run rfl ?_
  intro w13 hw13 K2 hK2
  go_simp
  refine (l10Made_any 48 2 v12 (L2 ++ L10) w1.heap.size w13 (HA12.out.ext hw13) (by rw [List.length_append]; exact Hll.out) (Nat.le_trans (Below.size Xw12.out) (Below.size hw13))).mono ?_
  rintro r13 w14 ⟨v14, L14, rfl, h14, h14c, h14E⟩
  have H14 := hide h14
  have H14c : Hid (L14.map ct = seC C c.ng c.fg) := hide (by rw [h14c, List.map_append, H2c.out, H10c.out]; rfl)
  have Xw14 : Hid (Ext w1 w14) := hide (Xw12.out.trans (hw13.trans h14E))
  refine hK2 _ _ (.of_ext Xw14.out) ?_
  clear hK2 K2 h14 h14c h14E hw13
  refine anyK_one 9 (by kernel_rfl) ?_
  refine stepK_run rfl ?_
  intro w15 hw15 K2 hK2
  go_simp
  have Xw15 : Hid (Ext w1 w15) := hide (Xw14.out.trans hw15)
  refine (specDer_C (H14.out.ext hw15) H14c.out HS2.out.1).mono ?_
  rintro r15 w16 h16
  have HG := hide (GivesAn.yes (HE.out.trans Xw15.out) h16)
  obtain ⟨a16, g16, c16, rfl, -, -, h16E⟩ := h16
  have Xw16 : Hid (Ext w1 w16) := hide (Xw15.out.trans h16E)
  refine hK2 _ _ (.of_ext Xw16.out) ?_
  clear hK2 K2 hw15 h16E
  generalize (wtL (seC C c.ng c.fg)).length = M16 at *
  generalize wtB (seC C c.ng c.fg) = B16 at *
  refine anyK_take 10 4 0 rfl (by decide) (by kernel_rfl) (fun _ _ d _ _ h => by cases d <;> exact h) ?_
  repeat (refine headC_step (fun K hK => ?_); go_simp; refine hK _ ?_; clear hK K)
  refine headC_nil ?_
  refine anyK_done (by kernel_rfl) ?_ 0
  intro w17 hw17
  have HG2 := hide (HG.out.ext hw17)
  clear HG
  go_wp2
  go_ret2
  exact HG2.out
end Go.Proofs.YtkogbinfhoiggaaGreatDoor
