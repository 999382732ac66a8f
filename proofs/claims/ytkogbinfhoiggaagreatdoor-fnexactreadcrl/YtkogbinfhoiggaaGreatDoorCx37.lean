/- Walks: a list of what is void as a piece; what is sealed (written by mkclp.py). Walks: the model's tree of a list of what is void (written by mkclq.py). An append of bytes onto a full row: all that lay there stays. -/
import Derived.Test.YtkogbinfhoiggaaGreatDoorCx36
import Derived.ArgAppend
namespace Go.Proofs.YtkogbinfhoiggaaGreatDoor
set_option linter.unusedVariables false
set_option linter.unusedSimpArgs false
section
open Go.RowKit
structure ClOk (c : Cl) : Prop where
 ni : c.ni ≤ 4
 fi : ∀ i, i < c.ni → (c.fi i).size ≤ 40
 fr : inT c.fr
 to : inT c.to
 alg : 1 ≤ c.alg ∧ c.alg ≤ 4
 nv : c.nv ≤ 20
 fv : ∀ i, i < c.nv → 1 ≤ c.fv i ∧ c.fv i ≤ 1000000000000000
 ng : c.ng ≤ 64
 ng1 : 1 ≤ c.ng
theorem inB_iff {x lo hi : Int} : inB x lo hi = true ↔ lo ≤ x ∧ x ≤ hi := by unfold inB; simp
theorem tmB_in {t : Int} (h : tmB t = true) : inT t := by
 unfold tmB at h
 have := inB_iff.1 h
 exact this
theorem nmB_in {n : Nat} {f : Nat → ByteArray} (h : nmB n f = true) : n ≤ 4 ∧ ∀ i, i < n → (f i).size ≤ 40 := by
 unfold nmB at h
 rw [Bool.and_eq_true] at h
 refine ⟨by have := inB_iff.1 h.1; omega, fun i hi => ?_⟩
 have := allB_iff.1 h.2 i hi
 unfold txB at this
 rw [Bool.and_eq_true] at this
 have := inB_iff.1 this.1
 omega
theorem ClOk.of {c : Cl} (h : clB c = true) : ClOk c := by
 unfold clB tsB slB lvB at h
 simp only [Bool.and_eq_true, decide_eq_true_eq] at h
 obtain ⟨h1, ⟨h2, h3, h4⟩, ⟨h5, h6⟩, ⟨h7, h8⟩, h9⟩ := h
 exact ⟨(nmB_in h1).1, (nmB_in h1).2, tmB_in h2, tmB_in h3, inB_iff.1 h5, h7, fun i hi => inB_iff.1 (allB_iff.1 h8 i hi), by have := inB_iff.1 h6; omega, by have := inB_iff.1 h6; omega⟩
def nsC (n : Nat) (f : Nat → Int) : List Ic := ⟨48, n, []⟩ :: (List.range n).map (fun i => intC (f i))
def clC (g : Int → Nat × Nat × Nat × Nat) (c : Cl) : List Ic := ⟨48, 4, []⟩ :: ([intC c.alg] ++ (nmC c.ni c.fi ++ (tmC g c.fr c.to ++ nsC c.nv c.fv)))
set_option maxHeartbeats 6400000 in
set_option maxRecDepth 100000 in
theorem crlTbsPiece_any (g : Int → Nat × Nat × Nat × Nat) (hg : DayG g) (c : Cl) (m : ClPl) (w : World) (hI : ClIn w c m) (hO : ClOk c) (hT : MTab w) (hP : TabP w) :
  Calls Tryz.prog 59 #[.agg (clL c m).toArray] w fun e w' => GivesPc w (clC g c) e w' := by
 obtain ⟨V, hV⟩ : ∃ V, w.alloc (.cells (clL c m).toArray 26) = V := ⟨_, rfl⟩
 obtain ⟨B0, hE, hsz⟩ := box1 w (clL c m) 26 (w1 := V) (by rw [← hV]; exact Ext.refl _)
 have HE := hide hE
 have hwV : w.heap.size < V.heap.size := Blk.lt B0 (by simp [clL])
 have c0 := (B0 0 _ rfl).1
 have c1 := (B0 1 _ rfl).1
 have c2 := (B0 2 _ rfl).1
 have c3 := (B0 3 _ rfl).1
 have c4 := (B0 4 _ rfl).1
 have HI1 : Hid (∀ W, Calls Tryz.prog 103 #[.int .i64 c.alg] W fun e w' => GivesPc W [intC c.alg] e w') := fun W => intPiece_any c.alg W (by have := hO.alg; omega) (by have := hO.alg; omega)
 have HI2 : Hid (∀ W, Ext w W → Calls Tryz.prog 104 #[.slice m.i.ad c.ni m.i.cap] W fun e w' => GivesPc W (nmC c.ni c.fi) e w') := fun W h => namePiece_any m.i.ad m.i.b m.i.off c.ni m.i.cap c.fi W (hI.i.of_all h) (by have := hO.ni; omega)
 have HI3 : Hid (∀ W, Ext w W → Calls Tryz.prog 105 #[.int .i64 c.fr, .int .i64 c.to] W fun e w' => GivesPc W (tmC g c.fr c.to) e w') := fun W h => timesPiece_any g hg c.fr c.to hO.fr hO.to W (hT.ext h) (hP.ext h)
 have HI4 : Hid (∀ W, Ext w W → Calls Tryz.prog 106 #[.slice m.v.ad c.nv m.v.cap] W fun e w' => GivesPs W ((List.range c.nv).map (fun i => [intC (c.fv i)])) e w') := fun W h => intPieces_any m.v.ad m.v.b m.v.off c.nv m.v.cap c.fv W (hI.v.of_all h) (by have := hO.nv; omega) (fun i hi => by have := hO.fv i hi; omega)
 have HR : Hid (clC g c = ⟨48, 4, []⟩ :: ([intC c.alg] ++ (nmC c.ni c.fi ++ (tmC g c.fr c.to ++ nsC c.nv c.fv)))) := rfl
 have HN1 : Hid ([intC c.alg].length ≤ 30) := hide (by simp)
 have HN2 : Hid ((nmC c.ni c.fi).length ≤ 30) := hide (by have := hO.ni; unfold nmC; simp; omega)
 have HN3 : Hid ((tmC g c.fr c.to).length ≤ 30) := hide (by unfold tmC; simp)
 have hnv : c.nv ≤ 20 := hO.nv
 have HS : Hid (nsC c.nv c.fv = ⟨48, c.nv, []⟩ :: (List.range c.nv).map (fun i => intC (c.fv i))) := rfl
 generalize clC g c = C at *
 generalize [intC c.alg] = C1 at *
 generalize nmC c.ni c.fi = C2 at *
 generalize tmC g c.fr c.to = C3 at *
 generalize nsC c.nv c.fv = C4 at *
 clear hI hO hT hP B0 hE
 have c0' := fun p : ReC (fun q => V.heap.size ≤ q) V => cell_reC c0 (by show ¬ V.heap.size ≤ w.heap.size; omega) p
 have c1' := fun p : ReC (fun q => V.heap.size ≤ q) V => cell_reC c1 (by show ¬ V.heap.size ≤ w.heap.size; omega) p
 have c2' := fun p : ReC (fun q => V.heap.size ≤ q) V => cell_reC c2 (by show ¬ V.heap.size ≤ w.heap.size; omega) p
 have c3' := fun p : ReC (fun q => V.heap.size ≤ q) V => cell_reC c3 (by show ¬ V.heap.size ≤ w.heap.size; omega) p
 have c4' := fun p : ReC (fun q => V.heap.size ≤ q) V => cell_reC c4 (by show ¬ V.heap.size ≤ w.heap.size; omega) p
 go_enter Tryz.func59, Tryz.ntmps59
 go_wp2_with fail
 refine anyK_begin (fun q => V.heap.size ≤ q) 18 rfl (by kernel_rfl) ?_
 refine anyK_take 0 2 16 rfl (by decide) (by kernel_rfl) (fun _ _ d _ _ h => by cases d <;> exact h) ?_
 repeat (refine headC_step (fun K hK => ?_); go_simp; refine hK _ ?_; clear hK K)
 refine headC_nil ?_
 refine anyK_take 3 2 14 rfl (by decide) (by kernel_rfl) (fun _ _ d _ _ h => by cases d <;> exact h) ?_
 repeat (refine headC_step (fun K hK => ?_); go_simp; refine hK _ ?_; clear hK K)
 refine headC_nil ?_
 refine anyK_take 6 4 10 rfl (by decide) (by kernel_rfl) (fun _ _ d _ _ h => by cases d <;> exact h) ?_
 repeat (refine headC_step (fun K hK => ?_); go_simp; refine hK _ ?_; clear hK K)
 refine headC_nil ?_
 refine anyK_take 11 2 8 rfl (by decide) (by kernel_rfl) (fun _ _ d _ _ h => by cases d <;> exact h) ?_
 repeat (refine headC_step (fun K hK => ?_); go_simp; refine hK _ ?_; clear hK K)
 refine headC_nil ?_
 have XV : Hid (Ext V V) := Ext.refl _
 have hwV2 : w.heap.size ≤ V.heap.size := by omega
 clear c0' c1' c2' c3' c4' c0 c1 c2 c3 c4
 refine anyK_one 2 (by kernel_rfl) ?_
 refine stepK_run rfl ?_
 intro w1 hw1 K2 hK2
 have Xw1 : Hid (Ext V w1) := hide (XV.out.trans hw1)
 go_simp
 refine (HI1.out w1).mono ?_
 rintro r1 w2 ⟨v1, L1, rfl, hL1, hC1, hE1⟩
 obtain ⟨T1, t1, a1, n1, c1, rfl⟩ := hL1.form
 have HL1 := hide hL1
 have HC1 := hide hC1
 have HE1 := hide hE1
 have Xw2 : Hid (Ext V w2) := hide (Xw1.out.trans hE1)
 refine hK2 _ _ (.of_ext Xw2.out) ?_
 clear hK2 K2 hL1 hC1 hE1
 refine anyK_one 5 (by kernel_rfl) ?_
 refine stepK_run rfl ?_
 intro w3 hw3 K2 hK2
 have Xw3 : Hid (Ext V w3) := hide (Xw2.out.trans hw3)
 go_simp
 refine (HI2.out w3 (HE.out.trans Xw3.out)).mono ?_
 rintro r2 w4 ⟨v2, L2, rfl, hL2, hC2, hE2⟩
 obtain ⟨T2, t2, a2, n2, c2, rfl⟩ := hL2.form
 have HL2 := hide hL2
 have HC2 := hide hC2
 have HE2 := hide hE2
 have Xw4 : Hid (Ext V w4) := hide (Xw3.out.trans hE2)
 refine hK2 _ _ (.of_ext Xw4.out) ?_
 clear hK2 K2 hL2 hC2 hE2
 refine anyK_one 10 (by kernel_rfl) ?_
 refine stepK_run rfl ?_
 intro w5 hw5 K2 hK2
 have Xw5 : Hid (Ext V w5) := hide (Xw4.out.trans hw5)
 go_simp
 refine (HI3.out w5 (HE.out.trans Xw5.out)).mono ?_
 rintro r3 w6 ⟨v3, L3, rfl, hL3, hC3, hE3⟩
 obtain ⟨T3, t3, a3, n3, c3, rfl⟩ := hL3.form
 have HL3 := hide hL3
 have HC3 := hide hC3
 have HE3 := hide hE3
 have Xw6 : Hid (Ext V w6) := hide (Xw5.out.trans hE3)
 refine hK2 _ _ (.of_ext Xw6.out) ?_
 clear hK2 K2 hL3 hC3 hE3
 refine anyK_one 13 (by kernel_rfl) ?_
 refine stepK_run rfl ?_
 intro w7 hw7 K2 hK2
 have Xw7 : Hid (Ext V w7) := hide (Xw6.out.trans hw7)
 go_simp
 refine (HI4.out w7 (HE.out.trans Xw7.out)).mono ?_
 rintro r7 w8 ⟨P, rfl, h1, h2, h3, h4⟩
 have hl : P.length = c.nv := by have := map_len h3; simpa using this
 have hf := flat_one h3
 have Xw8 : Hid (Ext V w8) := hide (Ext.trans Xw7.out h4)
 have hk := Pce.knot (B := w7.heap.size) (a := some ⟨w7.heap.size, 0, none⟩) (n := P.length) (cap := P.length) 48 (h2.wide (B' := w7.heap.size) (E' := w8.heap.size) (by omega) (Nat.le_refl _) (Nat.le_refl _)) h1 (by have := map_len hf; rw [List.length_map, List.length_range] at this; omega) (by omega)
 have HK4 := hide hk
 have HF4 := hide hf
 have HL4 := hide hl
 have HE78 := hide h4
 have HW7 := hide hw7
 refine hK2 _ _ (.of_ext Xw8.out) ?_
 clear hK2 K2 h1 h2 h3 h4 hk hf hl
 obtain ⟨N, hN⟩ : ∃ N, P.length = N := ⟨_, rfl⟩
 rw [hN] at HK4 HL4 ⊢
 clear hN
 refine anyK_one 14 (by kernel_rfl) ?_
 refine stepK_run rfl ?_
 intro w9 hw9 K2 hK2
 have Xw9 : Hid (Ext V w9) := hide (Xw8.out.trans hw9)
 go_simp
 refine (listPiece_any _ _ _ w9).mono ?_
 rintro r9 w9' ⟨rfl, hw9'⟩
 obtain rfl := hw9'.symm
 have HP4 := hide (HK4.out.ext hw9)
 refine hK2 _ _ (.of_ext Xw9.out) ?_
 clear hK2 K2 HK4
 have HE79 : Hid (Ext w7 w9) := hide (HE78.out.trans hw9)
 obtain ⟨T4, hT4⟩ : ∃ T4 : TypeId, 133 = T4 := ⟨_, rfl⟩
 obtain ⟨v4, hv4⟩ : ∃ v4, Value.iface 133 (.agg #[.int .i64 48, .slice (some ⟨w7.heap.size, 0, none⟩) N N]) = v4 := ⟨_, rfl⟩
 have Hv4 : Hid (v4.oneCell' = true) := hide (by rw [← hv4]; rfl)
 rw [hv4] at HP4
 obtain ⟨T5, t5, a5, n5, c5, hv5⟩ := HP4.out.form
 rw [hv4, hv5]
 rw [hv5] at HP4
 clear hv4 hv5 hT4 T4 Hv4 hw9
 refine anyK_one 15 (by kernel_rfl) ?_
 refine stepK_run rfl ?_
 intro w10 hw10 K2 hK2
 have Xw10 : Hid (Ext V w10) := hide (Xw9.out.trans hw10)
 go_simp
 have S1 : Pcs V.heap.size w2.heap.size w2 [(Value.iface T1 (.agg #[.int .i64 t1, .slice a1 n1 c1]), L1)] := (HL1.out.wide (Below.size Xw1.out) (Nat.le_refl _) (Nat.le_refl _)).one
 have e24 := hw3.trans HE2.out
 have S2 := S1.add (.of_ext e24 (Nat.le_refl _)) (Below.size e24) (HL2.out.wide (Below.size hw3) (Nat.le_refl _) (Nat.le_refl _)) (Below.size Xw2.out) (Below.size e24)
 have e46 := hw5.trans HE3.out
 have S3 := S2.add (.of_ext e46 (Nat.le_refl _)) (Below.size e46) (HL3.out.wide (Below.size hw5) (Nat.le_refl _) (Nat.le_refl _)) (Below.size Xw4.out) (Below.size e46)
 have e69 := HW7.out.trans HE79.out
 have S4 := S3.add (.of_ext e69 (Nat.le_refl _)) (Below.size e69) (HP4.out.wide (B' := w6.heap.size) (E' := w9.heap.size) (Below.size HW7.out) (Below.size (HE79.out.trans (Ext.refl _)) |> fun _ => by have := HP4.out.hi; omega) (Nat.le_refl _)) (Below.size Xw6.out) (Below.size e69)
 have HS4 := hide (S4.ext (hw10.trans (Ext.alloc w10 (.cells #[Value.iface T1 (.agg #[.int .i64 t1, .slice a1 n1 c1]), Value.iface T2 (.agg #[.int .i64 t2, .slice a2 n2 c2]), Value.iface T3 (.agg #[.int .i64 t3, .slice a3 n3 c3]), Value.iface T5 (.agg #[.int .i64 t5, .slice a5 n5 c5])] 51))))
 have HW := hide (World.ownsRow_lit (e := 51) (size := 1) (base := V.heap.size) w10 #[Value.iface T1 (.agg #[.int .i64 t1, .slice a1 n1 c1]), Value.iface T2 (.agg #[.int .i64 t2, .slice a2 n2 c2]), Value.iface T3 (.agg #[.int .i64 t3, .slice a3 n3 c3]), Value.iface T5 (.agg #[.int .i64 t5, .slice a5 n5 c5])] 4 (Below.size Xw10.out) (by decide) rfl)
 have Xw11 : Hid (Ext V (w10.alloc (.cells #[Value.iface T1 (.agg #[.int .i64 t1, .slice a1 n1 c1]), Value.iface T2 (.agg #[.int .i64 t2, .slice a2 n2 c2]), Value.iface T3 (.agg #[.int .i64 t3, .slice a3 n3 c3]), Value.iface T5 (.agg #[.int .i64 t5, .slice a5 n5 c5])] 51))) := hide (Xw10.out.trans (Ext.alloc _ _))
 refine hK2 _ _ (.of_ext Xw11.out) ?_
 clear hK2 K2 S1 S2 S3 S4 e24 e46 e69
 generalize w10.alloc (.cells #[Value.iface T1 (.agg #[.int .i64 t1, .slice a1 n1 c1]), Value.iface T2 (.agg #[.int .i64 t2, .slice a2 n2 c2]), Value.iface T3 (.agg #[.int .i64 t3, .slice a3 n3 c3]), Value.iface T5 (.agg #[.int .i64 t5, .slice a5 n5 c5])] 51) = w11 at *
 generalize w10.heap.size = R at *
 refine anyK_one 16 (by kernel_rfl) ?_
 refine stepK_run rfl ?_
 intro w12 hw12 K2 hK2
 have Xw12 : Hid (Ext V w12) := hide (Xw11.out.trans hw12)
 have HK := hide (Pce.knot 48 (HS4.out.ext hw12) (ownsRow_ext HW.out hw12) (by
  have h1 := map_len HC1.out; have h2 := map_len HC2.out; have h3 := map_len HC3.out; have h4 := map_len HF4.out
  have n1 := HN1.out; have n2 := HN2.out; have n3 := HN3.out
  rw [List.length_map, List.length_range] at h4
  simp only [List.flatMap_append, List.flatMap_cons, List.flatMap_nil, List.length_append, List.length_cons, List.length_nil, List.append_nil]
  omega) (by simp))
 go_simp
 refine (listPiece_any _ 4 4 w12).mono ?_
 rintro r12 w12' ⟨rfl, hw12'⟩
 obtain rfl := hw12'.symm
 refine hK2 _ _ (.of_ext Xw12.out) ?_
 clear hK2 K2
 refine anyK_take 17 1 0 rfl (by decide) (by kernel_rfl) (fun _ _ d _ _ h => by cases d <;> exact h) ?_
 repeat (refine headC_step (fun K hK => ?_); go_simp; refine hK _ ?_; clear hK K)
 refine headC_nil ?_
 refine anyK_done (by kernel_rfl) ?_ 0
 intro w13 hw13
 have HK2 := hide (HK.out.ext hw13)
 have X13 := hide (HE.out.trans (Xw12.out.trans hw13))
 go_wp2
 go_ret
 exact ⟨_, _, rfl, HK2.out.wide hwV2 (Below.size hw13) (Nat.le_refl _), by rw [List.map_cons, ct_bare, HR.out, ← HC1.out, ← HC2.out, ← HC3.out, HS.out]; simp [HF4.out, HL4.out, ct_bare], X13.out⟩
def seC (C : List Ic) (n : Nat) (f : Nat → Int) : List Ic := ⟨48, 2, []⟩ :: (C ++ [⟨3, 0, 0 :: (List.range n).map f⟩])
set_option maxHeartbeats 1600000 in
theorem sealedPiece_any (v : Value) (L : List It) (C : List Ic) (a : Option Addr) (b off n cap : Nat) (f : Nat → Int) (B : Nat) (w : World) (hp : Pce B w.heap.size w v L) (hc : L.map ct = C) (hB : B ≤ w.heap.size) (hg : BSeg w a b off n f) (hn : n ≤ 1000) (hl : C.length ≤ 90000) :
  Calls Tryz.prog 58 #[v, .slice a n cap] w fun e w' => ∃ v' L', e = .returned v' ∧ Pce B w'.heap.size w' v' L' ∧ L'.map ct = seC C n f ∧ Ext w w' := by
 obtain ⟨T0, t0, a0, n0, c0, rfl⟩ := hp.form
 have HB := hide (bitsPiece_any a b off n cap f w hg (by omega))
 have HP := hide hp
 have Hc := hide hc
 have HR : Hid (seC C n f = ⟨48, 2, []⟩ :: (C ++ [⟨3, 0, 0 :: (List.range n).map f⟩])) := rfl
 have HN : Hid (1 = ([⟨3, 0, 0 :: (List.range n).map f⟩] : List Ic).length) := rfl
 have HLl : Hid (C.length ≤ 90000) := hide hl
 generalize seC C n f = C9 at *
 generalize ([⟨3, 0, 0 :: (List.range n).map f⟩] : List Ic) = C2 at *
 clear hp hc hg
 go_enter Tryz.func58, Tryz.ntmps58
 go_wp2_with fail
 refine HB.out.mono ?_
 rintro e w1 ⟨v1, L1, rfl, h1, h1c, h1E⟩
 obtain ⟨T1, t1, a1, n1, c1, rfl⟩ := h1.form
 have hS := HP.out.one.add (.of_ext h1E (Nat.le_refl _)) (Below.size h1E) h1 hB (Below.size h1E)
 have HS := hide (hS.ext (Ext.alloc w1 (.cells #[.iface T0 (.agg #[.int .i64 t0, .slice a0 n0 c0]), .iface T1 (.agg #[.int .i64 t1, .slice a1 n1 c1])] 51)))
 have HW := hide (World.ownsRow_lit (e := 51) (size := 1) (base := B) w1 #[.iface T0 (.agg #[.int .i64 t0, .slice a0 n0 c0]), .iface T1 (.agg #[.int .i64 t1, .slice a1 n1 c1])] 2 (Nat.le_trans hB (Below.size h1E)) (by decide) rfl)
 have HX := hide (h1E.trans (Ext.alloc w1 (.cells #[.iface T0 (.agg #[.int .i64 t0, .slice a0 n0 c0]), .iface T1 (.agg #[.int .i64 t1, .slice a1 n1 c1])] 51)))
 have H1c := hide h1c
 have HK := hide (Pce.knot 48 HS.out HW.out (by have h2 := map_len h1c; have h3 := map_len Hc.out; have := HLl.out; rw [← HN.out] at h2; simp; omega) (by simp))
 clear h1 h1c h1E hS HB
 go_wp2_with fail
 refine (listPiece_any _ _ _ _).mono ?_
 rintro e w2 ⟨rfl, hw⟩
 obtain rfl := hw.symm
 go_wp2
 go_ret
 exact ⟨_, _, rfl, HK.out, by rw [List.map_cons, ct_bare, HR.out, ← Hc.out, ← H1c.out]; simp, HX.out⟩
theorem Grw.of_below {B : Nat} {a b : World} (h : Below B a b) : Grw (fun q => B ≤ q) a b := ⟨h.os, h.tape, h.output, Below.size h, fun k _ hn => Below.block h k (by omega)⟩
set_option maxHeartbeats 12800000 in
set_option maxRecDepth 100000 in
theorem l13Tree_any (g : Int → Nat × Nat × Nat × Nat) (hg : DayG g) (c : Cl) (m : ClPl) (w : World) (hI : ClIn w c m) (hO : ClOk c) :
  Calls Tryz.prog 44 #[.agg (clL c m).toArray] w fun e w' => GivesIs w.heap.size w (clC g c) e w' := by
 obtain ⟨V, hV⟩ : ∃ V, w.alloc (.cells (clL c m).toArray 26) = V := ⟨_, rfl⟩
 obtain ⟨B0, hE, hsz⟩ := box1 w (clL c m) 26 (w1 := V) (by rw [← hV]; exact Ext.refl _)
 have HE := hide hE
 have HBk := hide B0
 have hwV : w.heap.size < V.heap.size := Blk.lt B0 (by simp [clL])
 have HwV := hide hwV
 have HwX : Hid (¬ V.heap.size ≤ w.heap.size) := hide (by omega)
 have HI1 : Hid (∀ W, Calls Tryz.prog 72 #[.int .i64 c.alg] W fun e w' => GivesIs W.heap.size W [intC c.alg] e w') := fun W => l10Int_any c.alg W (by have := hO.alg; omega) (by have := hO.alg; omega)
 have HI2 : Hid (∀ W, Ext w W → Calls Tryz.prog 73 #[.int .i64 12, .slice m.i.ad c.ni m.i.cap] W fun e w' => GivesIs W.heap.size W ((List.range c.ni).map (fun i => txC 12 (c.fi i))) e w') := fun W h => l10Texts_any 12 m.i.ad m.i.b m.i.off c.ni m.i.cap c.fi W (hI.i.of_all h) (by have := hO.ni; omega)
 have HI3 : Hid (∀ W, Calls Tryz.prog 74 #[.int .i64 c.fr] W fun e w' => GivesIs W.heap.size W [tiC g c.fr] e w') := fun W => l10Time_any g hg c.fr hO.fr W
 have HI4 : Hid (∀ W, Calls Tryz.prog 74 #[.int .i64 c.to] W fun e w' => GivesIs W.heap.size W [tiC g c.to] e w') := fun W => l10Time_any g hg c.to hO.to W
 have HI5 : Hid (∀ W, Ext w W → Calls Tryz.prog 75 #[.slice m.v.ad c.nv m.v.cap] W fun e w' => GivesIs W.heap.size W ((List.range c.nv).map (fun i => intC (c.fv i))) e w') := fun W h => l10Ints_any m.v.ad m.v.b m.v.off c.nv m.v.cap c.fv W (hI.v.of_all h) (by have := hO.nv; omega) (fun i hi => by have := hO.fv i hi; omega)
 have HR : Hid (clC g c = ⟨48, 4, []⟩ :: ([intC c.alg] ++ ((⟨48, c.ni, []⟩ :: (List.range c.ni).map (fun i => txC 12 (c.fi i))) ++ ((⟨48, 2, []⟩ :: ([tiC g c.fr] ++ [tiC g c.to])) ++ (⟨48, c.nv, []⟩ :: (List.range c.nv).map (fun i => intC (c.fv i))))))) := rfl
 have HN1 : Hid ([intC c.alg].length ≤ 30) := hide (by simp)
 have HN2 : Hid (((List.range c.ni).map (fun i => txC 12 (c.fi i))).length ≤ 30) := hide (by have := hO.ni; simp; omega)
 have HN3 : Hid ([tiC g c.fr].length ≤ 30) := hide (by simp)
 have HN4 : Hid ([tiC g c.to].length ≤ 30) := hide (by simp)
 have HN5 : Hid (((List.range c.nv).map (fun i => intC (c.fv i))).length ≤ 30) := hide (by have := hO.nv; simp; omega)
 generalize clC g c = C at *
 generalize [intC c.alg] = C1 at *
 generalize (List.range c.ni).map (fun i => txC 12 (c.fi i)) = C2 at *
 generalize [tiC g c.fr] = C3 at *
 generalize [tiC g c.to] = C4 at *
 generalize (List.range c.nv).map (fun i => intC (c.fv i)) = C5 at *
 clear hI hO B0 hE
 have XV : Hid (Ext V V) := Ext.refl _
 have c0 := (HBk.out 0 _ rfl).1
 have c0' := fun p : ReC (fun q => V.heap.size ≤ q) V => cell_reC c0 HwX.out p
 have c3 := (HBk.out 3 _ rfl).1
 have c3' := fun p : ReC (fun q => V.heap.size ≤ q) V => cell_reC c3 HwX.out p
 go_enter Tryz.func44, Tryz.ntmps44
 go_wp2_with fail
 refine anyK_begin (fun q => V.heap.size ≤ q) 12 rfl (by kernel_rfl) ?_
 refine anyK_take 0 2 10 rfl (by decide) (by kernel_rfl) (fun _ _ d _ _ h => by cases d <;> exact h) ?_
 repeat (refine headC_step (fun K hK => ?_); go_simp; refine hK _ ?_; clear hK K)
 refine headC_nil ?_
 refine anyK_take 3 5 5 rfl (by decide) (by kernel_rfl) (fun _ _ d _ _ h => by cases d <;> exact h) ?_
 repeat (refine headC_step (fun K hK => ?_); go_simp; refine hK _ ?_; clear hK K)
 refine headC_nil ?_
 clear c0 c0' c3 c3'
 refine anyK_one 2 (by kernel_rfl) ?_
 refine stepK_run rfl ?_
 intro a1 ha1 K2 hK2
 have Xa1 : Hid (Ext V a1) := hide (XV.out.trans ha1)
 go_simp
 refine (HI1.out a1).mono ?_
 rintro r1 a2 ⟨v1, L1, rfl, hL1, hC1, hE1⟩
 have HL1 := hide hL1
 have HC1 := hide hC1
 have HE1 := hide hE1
 have Xa2 : Hid (Ext V a2) := hide (Xa1.out.trans hE1)
 refine hK2 _ _ (.of_ext Xa2.out) ?_
 clear hK2 K2 hL1 hC1 hE1
 refine anyK_one 8 (by kernel_rfl) ?_
 refine stepK_run rfl ?_
 intro a3 ha3 K2 hK2
 have Xa3 : Hid (Ext V a3) := hide (Xa2.out.trans ha3)
 go_simp
 refine (HI2.out a3 (HE.out.trans Xa3.out)).mono ?_
 rintro r2 a4 ⟨v2, L2, rfl, hL2, hC2, hE2⟩
 have HL2 := hide hL2
 have HC2 := hide hC2
 have HE2 := hide hE2
 have Xa4 : Hid (Ext V a4) := hide (Xa3.out.trans hE2)
 refine hK2 _ _ (.of_ext Xa4.out) ?_
 clear hK2 K2 hL2 hC2 hE2
 refine anyK_one 9 (by kernel_rfl) ?_
 refine stepK_run rfl ?_
 intro a5 ha5 K2 hK2
 have Xa5 : Hid (Ext V a5) := hide (Xa4.out.trans ha5)
 go_simp
 refine (l10Made_any 48 (c.ni : Int) v2 L2 a3.heap.size a5 (HL2.out.ext ha5) (by rw [map_len HC2.out]; have := HN2.out; omega) (Nat.le_trans (Below.size HE2.out) (Below.size ha5))).mono ?_
 rintro r3 a6 ⟨v3, L3, rfl, hL3, hC3, hE3⟩
 have HL3 := hide hL3
 have HC3 := hide hC3
 have HE3 := hide hE3
 have Xa6 : Hid (Ext V a6) := hide (Xa5.out.trans hE3)
 refine hK2 _ _ (.of_ext Xa6.out) ?_
 clear hK2 K2 hL3 hC3 hE3
 refine anyK_one 10 (by kernel_rfl) ?_
 refine stepK_run rfl ?_
 intro a7 ha7 K2 hK2
 have Xa7 : Hid (Ext V a7) := hide (Xa6.out.trans ha7)
 rw [if_pos (show _ = true by kernel_rfl)]
 have A0 : LAcc V.heap.size a2 v1 L1 := HL1.out.low (Below.size Xa1.out)
 have e0 : Ext a2 a7 := ((ha3.trans HE2.out).trans (ha5.trans HE3.out)).trans ha7
 have lat := A0.later e0 ((HL3.out.bods.low (Nat.le_trans (Below.size ha3) (Nat.le_refl _))).ext ha7) (Below.size Xa2.out)
 refine wp_appL _ _ rfl (V.heap.size) (a3.heap.size) a2 v1 v3 L1 L3 rfl A0 e0 rfl (ownsRow_ext HL3.out.row ha7) lat.1 lat.2 (by have h1 := map_len HC1.out; have h3 := map_len HC3.out; have h2 := map_len HC2.out; have n1 := HN1.out; have n2 := HN2.out; rw [List.length_cons, List.length_map] at h3; omega) (Below.size Xa2.out) ?_
 intro v4 a8 hA3 hB3
 have HA4 := hide hA3
 have Xa8 : Hid (Ext V a8) := hide (Below.trans Xa7.out (hB3 _ (fun j hj => (A0.row.lt j hj).1) (Below.size Xa7.out)))
 refine hK2 _ _ (.of_ext Xa8.out) ?_
 clear hK2 K2 hA3 hB3 lat A0 e0
 refine anyK_take 11 1 0 rfl (by decide) (by kernel_rfl) (fun _ _ d _ _ h => by cases d <;> exact h) ?_
 repeat (refine headC_step (fun K hK => ?_); go_simp; refine hK _ ?_; clear hK K)
 refine headC_nil ?_
 refine anyK_done (by kernel_rfl) ?_ 0
 intro V2 hV2
 have XV2 : Hid (Ext V V2) := hide (Xa8.out.trans hV2)
 replace HA4 := hide (HA4.out.ext hV2)
 have HCa : Hid ((L1 ++ L3).map ct = C1 ++ (⟨48, c.ni, []⟩ :: C2)) := hide (by rw [List.map_append, HC1.out, HC3.out, HC2.out])
 have HLa : Hid ((L1 ++ L3).length ≤ 100) := hide (by have h := map_len HCa.out; have n1 := HN1.out; have n2 := HN2.out; rw [h, List.length_append, List.length_cons]; omega)
 generalize L1 ++ L3 = La at *
 have HB2 := hide (Blk.ext HBk.out XV2.out HwV.out)
 have HBk0 := HBk
 replace HBk := HB2
 clear HC1 HC2 HC3 HL1 HL2 HL3 HE1 HE2 HE3 Xa1 Xa2 Xa3 Xa4 Xa5 Xa6 Xa7 Xa8 hV2 HB2 HI1 HI2 ha1 ha3 ha5 ha7
 have XV2s : Hid (Ext V2 V2) := Ext.refl _
 have c1 := (HBk.out 1 _ rfl).1
 have c1' := fun p : ReC (fun q => V.heap.size ≤ q) V2 => cell_reC c1 HwX.out p
 have c2 := (HBk.out 2 _ rfl).1
 have c2' := fun p : ReC (fun q => V.heap.size ≤ q) V2 => cell_reC c2 HwX.out p
 go_wp2_with fail
 refine anyK_begin (fun q => V.heap.size ≤ q) 11 rfl (by kernel_rfl) ?_
 refine anyK_take 0 3 8 rfl (by decide) (by kernel_rfl) (fun _ _ d _ _ h => by cases d <;> exact h) ?_
 repeat (refine headC_step (fun K hK => ?_); go_simp; refine hK _ ?_; clear hK K)
 refine headC_nil ?_
 refine anyK_take 4 2 6 rfl (by decide) (by kernel_rfl) (fun _ _ d _ _ h => by cases d <;> exact h) ?_
 repeat (refine headC_step (fun K hK => ?_); go_simp; refine hK _ ?_; clear hK K)
 refine headC_nil ?_
 clear c1 c1' c2 c2'
 refine anyK_one 3 (by kernel_rfl) ?_
 refine stepK_run rfl ?_
 intro b1 hb1 K2 hK2
 have Xb1 : Hid (Ext V2 b1) := hide (XV2s.out.trans hb1)
 go_simp
 refine (HI3.out b1).mono ?_
 rintro r5 b2 ⟨v5, L5, rfl, hL5, hC5, hE5⟩
 have HL5 := hide hL5
 have HC5 := hide hC5
 have HE5 := hide hE5
 have Xb2 : Hid (Ext V2 b2) := hide (Xb1.out.trans hE5)
 refine hK2 _ _ (.of_ext Xb2.out) ?_
 clear hK2 K2 hL5 hC5 hE5
 refine anyK_one 6 (by kernel_rfl) ?_
 refine stepK_run rfl ?_
 intro b3 hb3 K2 hK2
 have Xb3 : Hid (Ext V2 b3) := hide (Xb2.out.trans hb3)
 go_simp
 refine (HI4.out b3).mono ?_
 rintro r6 b4 ⟨v6, L6, rfl, hL6, hC6, hE6⟩
 have HL6 := hide hL6
 have HC6 := hide hC6
 have HE6 := hide hE6
 have Xb4 : Hid (Ext V2 b4) := hide (Xb3.out.trans hE6)
 refine hK2 _ _ (.of_ext Xb4.out) ?_
 clear hK2 K2 hL6 hC6 hE6
 refine anyK_one 7 (by kernel_rfl) ?_
 refine stepK_run rfl ?_
 intro b5 hb5 K2 hK2
 have Xb5 : Hid (Ext V2 b5) := hide (Xb4.out.trans hb5)
 rw [if_pos (show _ = true by kernel_rfl)]
 have A0 : LAcc V2.heap.size b2 v5 L5 := HL5.out.low (Below.size Xb1.out)
 have e0 : Ext b2 b5 := (hb3.trans HE6.out).trans hb5
 have lat := A0.later e0 ((HL6.out.bods.low (Below.size (hb3))).ext hb5) (Below.size Xb2.out)
 refine wp_appL _ _ rfl (V2.heap.size) (b3.heap.size) b2 v5 v6 L5 L6 rfl A0 e0 rfl (ownsRow_ext HL6.out.row hb5) lat.1 lat.2 (by have h5 := map_len HC5.out; have h6 := map_len HC6.out; have n1 := HN3.out; have n2 := HN4.out; omega) (Below.size Xb2.out) ?_
 intro v7 b6 hA3 hB3
 have HA7 := hide hA3
 have Xb6 : Hid (Ext V2 b6) := hide (Below.trans Xb5.out (hB3 _ (fun j hj => (A0.row.lt j hj).1) (Below.size Xb5.out)))
 refine hK2 _ _ (.of_ext Xb6.out) ?_
 clear hK2 K2 hA3 hB3 lat A0 e0
 refine anyK_one 8 (by kernel_rfl) ?_
 refine stepK_run rfl ?_
 intro b7 hb7 K2 hK2
 have Xb7 : Hid (Ext V2 b7) := hide (Xb6.out.trans hb7)
 go_simp
 refine (l10Made_any 48 2 v7 (L5 ++ L6) V2.heap.size b7 (HA7.out.ext hb7) (by have h5 := map_len HC5.out; have h6 := map_len HC6.out; have n1 := HN3.out; have n2 := HN4.out; rw [List.length_append]; omega) (Below.size Xb7.out)).mono ?_
 rintro r8 b8 ⟨v8, L8, rfl, hL8, hC8, hE8⟩
 have HL8 := hide hL8
 have HC8 := hide hC8
 have HE8 := hide hE8
 have Xb8 : Hid (Ext V2 b8) := hide (Xb7.out.trans hE8)
 refine hK2 _ _ (.of_ext Xb8.out) ?_
 clear hK2 K2 hL8 hC8 hE8
 refine anyK_one 9 (by kernel_rfl) ?_
 refine stepK_run rfl ?_
 intro b9 hb9 K2 hK2
 have Xb9 : Hid (Ext V2 b9) := hide (Xb8.out.trans hb9)
 rw [if_pos (show _ = true by kernel_rfl)]
 have A0 : LAcc V.heap.size V2 v4 La := HA4.out
 have e0 : Ext V2 b9 := Xb9.out
 have lat := A0.later e0 ((HL8.out.bods.low (Nat.le_refl _)).ext hb9) (Below.size XV2.out)
 refine wp_appL _ _ rfl V.heap.size (V2.heap.size) V2 v4 v8 La L8 rfl A0 e0 rfl (ownsRow_ext HL8.out.row hb9) lat.1 lat.2 (by have h8 := map_len HC8.out; have h5 := map_len HC5.out; have h6 := map_len HC6.out; have n1 := HN3.out; have n2 := HN4.out; have n3 := HLa.out; rw [List.length_cons, List.length_map, List.length_append] at h8; omega) (Below.size XV2.out) ?_
 intro v9 b10 hA3 hB3
 have HA9 := hide hA3
 have Yb10 : Hid (Below V.heap.size V2 b10) := hide (Below.trans (Xb9.out.mono (Below.size XV2.out)) (hB3 _ (fun j hj => (A0.row.lt j hj).1) (Nat.le_trans (Below.size XV2.out) (Below.size Xb9.out))))
 refine hK2 _ _ (.of_below Yb10.out) ?_
 clear hK2 K2 hA3 hB3 lat A0 e0
 refine anyK_take 10 1 0 rfl (by decide) (by kernel_rfl) (fun _ _ d _ _ h => by cases d <;> exact h) ?_
 repeat (refine headC_step (fun K hK => ?_); go_simp; refine hK _ ?_; clear hK K)
 refine headC_nil ?_
 refine anyK_done (by kernel_rfl) ?_ 0
 intro V3 hV3
 have XV3 : Hid (Ext V V3) := hide (Below.trans XV2.out (Below.trans Yb10.out (hV3.mono (Nat.le_trans (Below.size XV2.out) (Below.size Yb10.out)))))
 replace HA9 := hide (HA9.out.ext hV3)
 have HCb : Hid ((La ++ L8).map ct = (C1 ++ (⟨48, c.ni, []⟩ :: C2)) ++ (⟨48, 2, []⟩ :: (C3 ++ C4))) := hide (by rw [List.map_append, HCa.out, HC8.out, List.map_append, HC5.out, HC6.out])
 have HLb : Hid ((La ++ L8).length ≤ 300) := hide (by have h8 := map_len HC8.out; have h5 := map_len HC5.out; have h6 := map_len HC6.out; have n1 := HN3.out; have n2 := HN4.out; have n3 := HLa.out; rw [List.length_cons, List.length_map, List.length_append] at h8; rw [List.length_append]; omega)
 generalize La ++ L8 = Lb at *
 have HB3 := hide (Blk.ext HBk0.out XV3.out HwV.out)
 replace HBk := HB3
 clear HC5 HC6 HC8 HL5 HL6 HL8 HE5 HE6 HE8 HA4 HA7 Xb1 Xb2 Xb3 Xb4 Xb5 Xb6 Xb7 Xb8 Xb9 Yb10 hV3 HB3 HI3 HI4 hb1 hb3 hb5 hb7 hb9 XV2s HCa HLa HBk0
 have XV3s : Hid (Ext V3 V3) := Ext.refl _
 have c4 := (HBk.out 4 _ rfl).1
 have c4' := fun p : ReC (fun q => V.heap.size ≤ q) V3 => cell_reC c4 HwX.out p
 go_wp2_with fail
 refine anyK_begin (fun q => V.heap.size ≤ q) 11 rfl (by kernel_rfl) ?_
 refine anyK_take 0 6 5 rfl (by decide) (by kernel_rfl) (fun _ _ d _ _ h => by cases d <;> exact h) ?_
 repeat (refine headC_step (fun K hK => ?_); go_simp; refine hK _ ?_; clear hK K)
 refine headC_nil ?_
 clear c4 c4'
 refine anyK_one 6 (by kernel_rfl) ?_
 refine stepK_run rfl ?_
 intro d1 hd1 K2 hK2
 have Xd1 : Hid (Ext V3 d1) := hide (XV3s.out.trans hd1)
 go_simp
 refine (HI5.out d1 (HE.out.trans (XV3.out.trans Xd1.out))).mono ?_
 rintro r10 d2 ⟨v10, L10, rfl, hL10, hC10, hE10⟩
 have HL10 := hide hL10
 have HC10 := hide hC10
 have HE10 := hide hE10
 have Xd2 : Hid (Ext V3 d2) := hide (Xd1.out.trans hE10)
 refine hK2 _ _ (.of_ext Xd2.out) ?_
 clear hK2 K2 hL10 hC10 hE10
 refine anyK_one 7 (by kernel_rfl) ?_
 refine stepK_run rfl ?_
 intro d3 hd3 K2 hK2
 have Xd3 : Hid (Ext V3 d3) := hide (Xd2.out.trans hd3)
 go_simp
 refine (l10Made_any 48 (c.nv : Int) v10 L10 d1.heap.size d3 (HL10.out.ext hd3) (by rw [map_len HC10.out]; have := HN5.out; omega) (Nat.le_trans (Below.size HE10.out) (Below.size hd3))).mono ?_
 rintro r11 d4 ⟨v11, L11, rfl, hL11, hC11, hE11⟩
 have HL11 := hide hL11
 have HC11 := hide hC11
 have HE11 := hide hE11
 have Xd4 : Hid (Ext V3 d4) := hide (Xd3.out.trans hE11)
 refine hK2 _ _ (.of_ext Xd4.out) ?_
 clear hK2 K2 hL11 hC11 hE11
 refine anyK_one 8 (by kernel_rfl) ?_
 refine stepK_run rfl ?_
 intro d5 hd5 K2 hK2
 have Xd5 : Hid (Ext V3 d5) := hide (Xd4.out.trans hd5)
 rw [if_pos (show _ = true by kernel_rfl)]
 have A0 : LAcc V.heap.size V3 v9 Lb := HA9.out
 have e0 : Ext V3 d5 := Xd5.out
 have lat := A0.later e0 ((HL11.out.bods.low (Below.size Xd1.out)).ext hd5) (Below.size XV3.out)
 refine wp_appL _ _ rfl V.heap.size (d1.heap.size) V3 v9 v11 Lb L11 rfl A0 e0 rfl (ownsRow_ext HL11.out.row hd5) lat.1 lat.2 (by have h := map_len HC11.out; have h2 := map_len HC10.out; have n1 := HN5.out; have n3 := HLb.out; rw [List.length_cons, List.length_map] at h; omega) (Below.size XV3.out) ?_
 intro v12 d6 hA3 hB3
 have HA12 := hide hA3
 have Yd6 : Hid (Below V.heap.size V3 d6) := hide (Below.trans (Xd5.out.mono (Below.size XV3.out)) (hB3 _ (fun j hj => (A0.row.lt j hj).1) (Nat.le_trans (Below.size XV3.out) (Below.size Xd5.out))))
 refine hK2 _ _ (.of_below Yd6.out) ?_
 clear hK2 K2 hA3 hB3 lat A0 e0
 refine anyK_one 9 (by kernel_rfl) ?_
 refine stepK_run rfl ?_
 intro d7 hd7 K2 hK2
 go_simp
 have Yd7 : Hid (Below V.heap.size V3 d7) := hide (Below.trans Yd6.out (hd7.mono (Nat.le_trans (Below.size XV3.out) (Below.size Yd6.out))))
 refine (l10Made_any 48 4 v12 (Lb ++ L11) V.heap.size d7 (HA12.out.ext hd7) (by have h := map_len HC11.out; have h2 := map_len HC10.out; have n1 := HN5.out; have n3 := HLb.out; rw [List.length_cons, List.length_map] at h; rw [List.length_append]; omega) (Nat.le_trans (Below.size XV3.out) (Below.size Yd7.out))).mono ?_
 rintro r13 d8 ⟨v13, L13, rfl, hL13, hC13, hE13⟩
 have HL13 := hide hL13
 have HC13 := hide hC13
 have Yd8 : Hid (Below V.heap.size V3 d8) := hide (Below.trans Yd7.out (hE13.mono (Nat.le_trans (Below.size XV3.out) (Below.size Yd7.out))))
 refine hK2 _ _ (.of_below Yd8.out) ?_
 clear hK2 K2 hL13 hC13 hE13
 refine anyK_take 10 1 0 rfl (by decide) (by kernel_rfl) (fun _ _ d _ _ h => by cases d <;> exact h) ?_
 repeat (refine headC_step (fun K hK => ?_); go_simp; refine hK _ ?_; clear hK K)
 refine headC_nil ?_
 refine anyK_done (by kernel_rfl) ?_ 0
 intro V4 hV4
 have HL14 := hide (HL13.out.ext hV4)
 have X14 : Hid (Ext w V4) := hide (HE.out.trans (Below.trans XV3.out (Below.trans Yd8.out (hV4.mono (Nat.le_trans (Below.size XV3.out) (Below.size Yd8.out))))))
 go_wp2
 go_ret
 exact ⟨_, L13, rfl, HL14.out.low (Nat.le_of_lt HwV.out), by rw [HC13.out, HR.out, List.map_append, HCb.out, HC11.out, HC10.out]; simp, X14.out⟩
theorem wp_append_bsF {o : Oper} {a0 : Act} {K : Act → World → Prop} {Q : Exit → Act → World → Prop} {w : World} (s x : Operand)
  (ho : o.op = .call { callee := .builtin .append, args := #[s, x], argTypes := #[22, 22] })
  (R n : Nat) (xs : List Value) (hs : a0.eval s = .slice (some ⟨R, 0, none⟩) n n) (hxl : xs.length = n) (hcell : ∀ j u, xs[j]? = some u → w.cell? ⟨R, j, none⟩ = some u)
  (a : Option Addr) (b off m c : Nat) (f : Nat → Int) (hx : a0.eval x = .slice a m c) (hB : BSeg w a b off m f) (hm : 0 < m) (hlen : n + m ≤ 1099511627776)
  (h : ∀ v' w', w'.ownsRow w.heap.size 5 1 v' (n + m) (xs ++ byts f m) → Ext w w' → K (a0.put o.dst v') w') : o.wp Tryz.prog a0 w K Q := by
 obtain ⟨i0, hi, hz0, hz1, hz2⟩ := info_parts Tryz.info5
 obtain rfl := hB.at' hm
 obtain ⟨v', w', hr, h2, h3⟩ := run_append_arg_grows (P := Tryz.prog) (w := w) 22 o.type 5 i0 (.int .u8 0) 1 1 Tryz.underlying22 hi hz0 hz1 hz2 rfl (by decide) ⟨R, 0, none⟩ n n xs (by omega) (fun j u hj => by
  have ha : (⟨R, 0, none⟩ : Addr).add j = ⟨R, j, none⟩ := by
   by_cases h0 : j = 0
   ·subst h0; simp [Addr.add]
   ·simp [Addr.add, h0]
  rw [ha]
  exact hcell j u hj) ⟨b, off, none⟩ m c (byts f m) (by rw [byts_length, Nat.mul_one]) (fun j u hj => by
  have hjm : j < m := by have := (List.getElem?_eq_some_iff.1 hj).1; rwa [byts_length] at this
  rw [show (byts f m)[j]? = some (.int .u8 (f j)) by simp [byts, hjm]] at hj
  obtain rfl := Option.some.inj hj
  have e : Addr.add ⟨b, off, none⟩ j = ⟨b, off + j, none⟩ := by
   by_cases h0 : j = 0
   ·subst h0; simp [Addr.add]
   ·simp [Addr.add, h0]
  rw [e]
  exact hB.cell j hjm) (by omega) (by unfold maxLen; omega) (by omega)
 unfold Oper.wp execOp
 simp only [ho, resolve, invoke, builtin, Sem.run_bind, Sem.run_pure, Result.andThen_ok, List.map_toArray, List.map_cons, List.map_nil, hs, hx, hr]
 exact h v' w' h2 ((Below.refl _ _).grown h3 (Nat.le_refl _) (fun k hk => by simp at hk))
end
end Go.Proofs.YtkogbinfhoiggaaGreatDoor
