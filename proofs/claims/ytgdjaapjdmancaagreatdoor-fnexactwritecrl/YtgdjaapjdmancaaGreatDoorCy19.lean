/- Walks: a list of what is void as a piece; what is sealed (written by mkclp.py). -/
import Derived.Test.YtgdjaapjdmancaaGreatDoorCy01
import Derived.Test.YtgdjaapjdmancaaGreatDoorCy17
import Derived.Test.YtgdjaapjdmancaaGreatDoorCy18
namespace Go.Proofs.YtgdjaapjdmancaaGreatDoor

section
set_option linter.unusedVariables false
set_option linter.unusedSimpArgs false

open Go.RowKit

/-- What a right list of what is void has. -/
structure ClOk (c : Cl) : Prop where
  ni : c.ni ≤ 4
  fi : ∀ i, i < c.ni → (c.fi i).size ≤ 40
  fr : inT c.fr
  to : inT c.to
  alg : 1 ≤ c.alg ∧ c.alg ≤ 4
  nv : c.nv ≤ 20
  fv : ∀ i, i < c.nv → 1 ≤ c.fv i ∧ c.fv i ≤ 1000000000000000
  ng : c.ng ≤ 64
  ng1 : 1 ≤ c.ng

theorem inB_iff {x lo hi : Int} : inB x lo hi = true ↔ lo ≤ x ∧ x ≤ hi := by unfold inB; simp

theorem tmB_in {t : Int} (h : tmB t = true) : inT t := by
  unfold tmB at h
  have := inB_iff.1 h
  exact this

theorem nmB_in {n : Nat} {f : Nat → ByteArray} (h : nmB n f = true) : n ≤ 4 ∧ ∀ i, i < n → (f i).size ≤ 40 := by
  unfold nmB at h
  rw [Bool.and_eq_true] at h
  refine ⟨by have := inB_iff.1 h.1; omega, fun i hi => ?_⟩
  have := allB_iff.1 h.2 i hi
  unfold txB at this
  rw [Bool.and_eq_true] at this
  have := inB_iff.1 this.1
  omega

theorem ClOk.of {c : Cl} (h : clB c = true) : ClOk c := by
  unfold clB tsB slB lvB at h
  simp only [Bool.and_eq_true, decide_eq_true_eq] at h
  obtain ⟨h1, ⟨h2, h3, h4⟩, ⟨h5, h6⟩, ⟨h7, h8⟩, h9⟩ := h
  exact ⟨(nmB_in h1).1, (nmB_in h1).2, tmB_in h2, tmB_in h3, inB_iff.1 h5, h7, fun i hi => inB_iff.1 (allB_iff.1 h8 i hi), by have := inB_iff.1 h6; omega, by have := inB_iff.1 h6; omega⟩

/-- What numbers tell. -/
def nsC (n : Nat) (f : Nat → Int) : List Ic := ⟨48, n, []⟩ :: (List.range n).map (fun i => intC (f i))

/-- What a list of what is void tells, as far as it is signed. -/
def clC (g : Int → Nat × Nat × Nat × Nat) (c : Cl) : List Ic := ⟨48, 4, []⟩ :: ([intC c.alg] ++ (nmC c.ni c.fi ++ (tmC g c.fr c.to ++ nsC c.nv c.fv)))

set_option maxHeartbeats 6400000 in
set_option maxRecDepth 100000 in
theorem crlTbsPiece_any (g : Int → Nat × Nat × Nat × Nat) (hg : DayG g) (c : Cl) (m : ClPl) (w : World) (hI : ClIn w c m) (hO : ClOk c) (hT : MTab w) (hP : TabP w) :
    Calls Tryz.prog 27 #[.agg (clL c m).toArray] w fun e w' => GivesPc w (clC g c) e w' := by
  obtain ⟨V, hV⟩ : ∃ V, w.alloc (.cells (clL c m).toArray 30) = V := ⟨_, rfl⟩
  obtain ⟨B0, hE, hsz⟩ := box1 w (clL c m) 30 (w1 := V) (by rw [← hV]; exact Ext.refl _)
  have HE := hide hE
  have hwV : w.heap.size < V.heap.size := Blk.lt B0 (by simp [clL])
  have c0 := (B0 0 _ rfl).1
  have c1 := (B0 1 _ rfl).1
  have c2 := (B0 2 _ rfl).1
  have c3 := (B0 3 _ rfl).1
  have c4 := (B0 4 _ rfl).1
  have HI1 : Hid (∀ W, Calls Tryz.prog 56 #[.int .i64 c.alg] W fun e w' => GivesPc W [intC c.alg] e w') := fun W => intPiece_any c.alg W (by have := hO.alg; omega) (by have := hO.alg; omega)
  have HI2 : Hid (∀ W, Ext w W → Calls Tryz.prog 57 #[.slice m.i.ad c.ni m.i.cap] W fun e w' => GivesPc W (nmC c.ni c.fi) e w') := fun W h => namePiece_any m.i.ad m.i.b m.i.off c.ni m.i.cap c.fi W (hI.i.of_all h) (by have := hO.ni; omega)
  have HI3 : Hid (∀ W, Ext w W → Calls Tryz.prog 58 #[.int .i64 c.fr, .int .i64 c.to] W fun e w' => GivesPc W (tmC g c.fr c.to) e w') := fun W h => timesPiece_any g hg c.fr c.to hO.fr hO.to W (hT.ext h) (hP.ext h)
  have HI4 : Hid (∀ W, Ext w W → Calls Tryz.prog 59 #[.slice m.v.ad c.nv m.v.cap] W fun e w' => GivesPs W ((List.range c.nv).map (fun i => [intC (c.fv i)])) e w') := fun W h => intPieces_any m.v.ad m.v.b m.v.off c.nv m.v.cap c.fv W (hI.v.of_all h) (by have := hO.nv; omega) (fun i hi => by have := hO.fv i hi; omega)
  have HR : Hid (clC g c = ⟨48, 4, []⟩ :: ([intC c.alg] ++ (nmC c.ni c.fi ++ (tmC g c.fr c.to ++ nsC c.nv c.fv)))) := rfl
  have HN1 : Hid ([intC c.alg].length ≤ 30) := hide (by simp)
  have HN2 : Hid ((nmC c.ni c.fi).length ≤ 30) := hide (by have := hO.ni; unfold nmC; simp; omega)
  have HN3 : Hid ((tmC g c.fr c.to).length ≤ 30) := hide (by unfold tmC; simp)
  have hnv : c.nv ≤ 20 := hO.nv
  have HS : Hid (nsC c.nv c.fv = ⟨48, c.nv, []⟩ :: (List.range c.nv).map (fun i => intC (c.fv i))) := rfl
  generalize clC g c = C at *
  generalize [intC c.alg] = C1 at *
  generalize nmC c.ni c.fi = C2 at *
  generalize tmC g c.fr c.to = C3 at *
  generalize nsC c.nv c.fv = C4 at *
  clear hI hO hT hP B0 hE
  have c0' := fun p : ReC (fun q => V.heap.size ≤ q) V => cell_reC c0 (by show ¬ V.heap.size ≤ w.heap.size; omega) p
  have c1' := fun p : ReC (fun q => V.heap.size ≤ q) V => cell_reC c1 (by show ¬ V.heap.size ≤ w.heap.size; omega) p
  have c2' := fun p : ReC (fun q => V.heap.size ≤ q) V => cell_reC c2 (by show ¬ V.heap.size ≤ w.heap.size; omega) p
  have c3' := fun p : ReC (fun q => V.heap.size ≤ q) V => cell_reC c3 (by show ¬ V.heap.size ≤ w.heap.size; omega) p
  have c4' := fun p : ReC (fun q => V.heap.size ≤ q) V => cell_reC c4 (by show ¬ V.heap.size ≤ w.heap.size; omega) p
  go_enter Tryz.func27, Tryz.ntmps27
  go_wp2_with fail
  refine anyK_begin (fun q => V.heap.size ≤ q) 18 rfl (by kernel_rfl) ?_
  refine anyK_take 0 2 16 rfl (by decide) (by kernel_rfl) (fun _ _ d _ _ h => by cases d <;> exact h) ?_
  repeat (refine headC_step (fun K hK => ?_); go_simp; first | (refine hK _ ?_; clear hK K) | (apply Exists.intro; refine ⟨fun p => ?_, hK _ ?_⟩; (fail); clear hK K))
  refine headC_nil ?_
  refine anyK_take 3 2 14 rfl (by decide) (by kernel_rfl) (fun _ _ d _ _ h => by cases d <;> exact h) ?_
  repeat (refine headC_step (fun K hK => ?_); go_simp; first | (refine hK _ ?_; clear hK K) | (apply Exists.intro; refine ⟨fun p => ?_, hK _ ?_⟩; (fail); clear hK K))
  refine headC_nil ?_
  refine anyK_take 6 4 10 rfl (by decide) (by kernel_rfl) (fun _ _ d _ _ h => by cases d <;> exact h) ?_
  repeat (refine headC_step (fun K hK => ?_); go_simp; first | (refine hK _ ?_; clear hK K) | (apply Exists.intro; refine ⟨fun p => ?_, hK _ ?_⟩; (fail); clear hK K))
  refine headC_nil ?_
  refine anyK_take 11 2 8 rfl (by decide) (by kernel_rfl) (fun _ _ d _ _ h => by cases d <;> exact h) ?_
  repeat (refine headC_step (fun K hK => ?_); go_simp; first | (refine hK _ ?_; clear hK K) | (apply Exists.intro; refine ⟨fun p => ?_, hK _ ?_⟩; (fail); clear hK K))
  refine headC_nil ?_
  have XV : Hid (Ext V V) := Ext.refl _
  have hwV2 : w.heap.size ≤ V.heap.size := by omega
  clear c0' c1' c2' c3' c4' c0 c1 c2 c3 c4
  refine anyK_one 2 (by kernel_rfl) ?_
  refine stepK_run rfl ?_
  intro w1 hw1 K2 hK2
  have Xw1 : Hid (Ext V w1) := hide (XV.out.trans hw1)
  go_simp
  refine (HI1.out w1).mono ?_
  rintro r1 w2 ⟨v1, L1, rfl, hL1, hC1, hE1⟩
  obtain ⟨T1, t1, a1, n1, c1, rfl⟩ := hL1.form
  have HL1 := hide hL1
  have HC1 := hide hC1
  have HE1 := hide hE1
  have Xw2 : Hid (Ext V w2) := hide (Xw1.out.trans hE1)
  refine hK2 _ _ (.of_ext Xw2.out) ?_
  clear hK2 K2 hL1 hC1 hE1
  refine anyK_one 5 (by kernel_rfl) ?_
  refine stepK_run rfl ?_
  intro w3 hw3 K2 hK2
  have Xw3 : Hid (Ext V w3) := hide (Xw2.out.trans hw3)
  go_simp
  refine (HI2.out w3 (HE.out.trans Xw3.out)).mono ?_
  rintro r2 w4 ⟨v2, L2, rfl, hL2, hC2, hE2⟩
  obtain ⟨T2, t2, a2, n2, c2, rfl⟩ := hL2.form
  have HL2 := hide hL2
  have HC2 := hide hC2
  have HE2 := hide hE2
  have Xw4 : Hid (Ext V w4) := hide (Xw3.out.trans hE2)
  refine hK2 _ _ (.of_ext Xw4.out) ?_
  clear hK2 K2 hL2 hC2 hE2
  refine anyK_one 10 (by kernel_rfl) ?_
  refine stepK_run rfl ?_
  intro w5 hw5 K2 hK2
  have Xw5 : Hid (Ext V w5) := hide (Xw4.out.trans hw5)
  go_simp
  refine (HI3.out w5 (HE.out.trans Xw5.out)).mono ?_
  rintro r3 w6 ⟨v3, L3, rfl, hL3, hC3, hE3⟩
  obtain ⟨T3, t3, a3, n3, c3, rfl⟩ := hL3.form
  have HL3 := hide hL3
  have HC3 := hide hC3
  have HE3 := hide hE3
  have Xw6 : Hid (Ext V w6) := hide (Xw5.out.trans hE3)
  refine hK2 _ _ (.of_ext Xw6.out) ?_
  clear hK2 K2 hL3 hC3 hE3
  refine anyK_one 13 (by kernel_rfl) ?_
  refine stepK_run rfl ?_
  intro w7 hw7 K2 hK2
  have Xw7 : Hid (Ext V w7) := hide (Xw6.out.trans hw7)
  go_simp
  refine (HI4.out w7 (HE.out.trans Xw7.out)).mono ?_
  rintro r7 w8 ⟨P, rfl, h1, h2, h3, h4⟩
  have hl : P.length = c.nv := by have := map_len h3; simpa using this
  have hf := flat_one h3
  have Xw8 : Hid (Ext V w8) := hide (Ext.trans Xw7.out h4)
  have hk := Pce.knot (B := w7.heap.size) (a := some ⟨w7.heap.size, 0, none⟩) (n := P.length) (cap := P.length) 48 (h2.wide (B' := w7.heap.size) (E' := w8.heap.size) (by omega) (Nat.le_refl _) (Nat.le_refl _)) h1 (by have := map_len hf; rw [List.length_map, List.length_range] at this; omega) (by omega)
  have HK4 := hide hk
  have HF4 := hide hf
  have HL4 := hide hl
  have HE78 := hide h4
  have HW7 := hide hw7
  refine hK2 _ _ (.of_ext Xw8.out) ?_
  clear hK2 K2 h1 h2 h3 h4 hk hf hl
  obtain ⟨N, hN⟩ : ∃ N, P.length = N := ⟨_, rfl⟩
  rw [hN] at HK4 HL4 ⊢
  clear hN
  refine anyK_one 14 (by kernel_rfl) ?_
  refine stepK_run rfl ?_
  intro w9 hw9 K2 hK2
  have Xw9 : Hid (Ext V w9) := hide (Xw8.out.trans hw9)
  go_simp
  refine (listPiece_any _ _ _ w9).mono ?_
  rintro r9 w9' ⟨rfl, hw9'⟩
  obtain rfl := hw9'.symm
  have HP4 := hide (HK4.out.ext hw9)
  refine hK2 _ _ (.of_ext Xw9.out) ?_
  clear hK2 K2 HK4
  have HE79 : Hid (Ext w7 w9) := hide (HE78.out.trans hw9)
  obtain ⟨T4, hT4⟩ : ∃ T4 : TypeId, 98 = T4 := ⟨_, rfl⟩
  obtain ⟨v4, hv4⟩ : ∃ v4, Value.iface 98 (.agg #[.int .i64 48, .slice (some ⟨w7.heap.size, 0, none⟩) N N]) = v4 := ⟨_, rfl⟩
  have Hv4 : Hid (v4.oneCell' = true) := hide (by rw [← hv4]; rfl)
  rw [hv4] at HP4
  obtain ⟨T5, t5, a5, n5, c5, hv5⟩ := HP4.out.form
  rw [hv4, hv5]
  rw [hv5] at HP4
  clear hv4 hv5 hT4 T4 Hv4 hw9
  refine anyK_one 15 (by kernel_rfl) ?_
  refine stepK_run rfl ?_
  intro w10 hw10 K2 hK2
  have Xw10 : Hid (Ext V w10) := hide (Xw9.out.trans hw10)
  go_simp
  have S1 : Pcs V.heap.size w2.heap.size w2 [(Value.iface T1 (.agg #[.int .i64 t1, .slice a1 n1 c1]), L1)] := (HL1.out.wide (Below.size Xw1.out) (Nat.le_refl _) (Nat.le_refl _)).one
  have e24 := hw3.trans HE2.out
  have S2 := S1.add (.of_ext e24 (Nat.le_refl _)) (Below.size e24) (HL2.out.wide (Below.size hw3) (Nat.le_refl _) (Nat.le_refl _)) (Below.size Xw2.out) (Below.size e24)
  have e46 := hw5.trans HE3.out
  have S3 := S2.add (.of_ext e46 (Nat.le_refl _)) (Below.size e46) (HL3.out.wide (Below.size hw5) (Nat.le_refl _) (Nat.le_refl _)) (Below.size Xw4.out) (Below.size e46)
  have e69 := HW7.out.trans HE79.out
  have S4 := S3.add (.of_ext e69 (Nat.le_refl _)) (Below.size e69) (HP4.out.wide (B' := w6.heap.size) (E' := w9.heap.size) (Below.size HW7.out) (Below.size (HE79.out.trans (Ext.refl _)) |> fun _ => by have := HP4.out.hi; omega) (Nat.le_refl _)) (Below.size Xw6.out) (Below.size e69)
  have HS4 := hide (S4.ext (hw10.trans (Ext.alloc w10 (.cells #[Value.iface T1 (.agg #[.int .i64 t1, .slice a1 n1 c1]), Value.iface T2 (.agg #[.int .i64 t2, .slice a2 n2 c2]), Value.iface T3 (.agg #[.int .i64 t3, .slice a3 n3 c3]), Value.iface T5 (.agg #[.int .i64 t5, .slice a5 n5 c5])] 47))))
  have HW := hide (World.ownsRow_lit (e := 47) (size := 1) (base := V.heap.size) w10 #[Value.iface T1 (.agg #[.int .i64 t1, .slice a1 n1 c1]), Value.iface T2 (.agg #[.int .i64 t2, .slice a2 n2 c2]), Value.iface T3 (.agg #[.int .i64 t3, .slice a3 n3 c3]), Value.iface T5 (.agg #[.int .i64 t5, .slice a5 n5 c5])] 4 (Below.size Xw10.out) (by decide) rfl)
  have Xw11 : Hid (Ext V (w10.alloc (.cells #[Value.iface T1 (.agg #[.int .i64 t1, .slice a1 n1 c1]), Value.iface T2 (.agg #[.int .i64 t2, .slice a2 n2 c2]), Value.iface T3 (.agg #[.int .i64 t3, .slice a3 n3 c3]), Value.iface T5 (.agg #[.int .i64 t5, .slice a5 n5 c5])] 47))) := hide (Xw10.out.trans (Ext.alloc _ _))
  refine hK2 _ _ (.of_ext Xw11.out) ?_
  clear hK2 K2 S1 S2 S3 S4 e24 e46 e69
  generalize w10.alloc (.cells #[Value.iface T1 (.agg #[.int .i64 t1, .slice a1 n1 c1]), Value.iface T2 (.agg #[.int .i64 t2, .slice a2 n2 c2]), Value.iface T3 (.agg #[.int .i64 t3, .slice a3 n3 c3]), Value.iface T5 (.agg #[.int .i64 t5, .slice a5 n5 c5])] 47) = w11 at *
  generalize w10.heap.size = R at *
  refine anyK_one 16 (by kernel_rfl) ?_
  refine stepK_run rfl ?_
  intro w12 hw12 K2 hK2
  have Xw12 : Hid (Ext V w12) := hide (Xw11.out.trans hw12)
  have HK := hide (Pce.knot 48 (HS4.out.ext hw12) (ownsRow_ext HW.out hw12) (by
    have h1 := map_len HC1.out; have h2 := map_len HC2.out; have h3 := map_len HC3.out; have h4 := map_len HF4.out
    have n1 := HN1.out; have n2 := HN2.out; have n3 := HN3.out
    rw [List.length_map, List.length_range] at h4
    simp only [List.flatMap_append, List.flatMap_cons, List.flatMap_nil, List.length_append, List.length_cons, List.length_nil, List.append_nil]
    omega) (by simp))
  go_simp
  refine (listPiece_any _ 4 4 w12).mono ?_
  rintro r12 w12' ⟨rfl, hw12'⟩
  obtain rfl := hw12'.symm
  refine hK2 _ _ (.of_ext Xw12.out) ?_
  clear hK2 K2
  refine anyK_take 17 1 0 rfl (by decide) (by kernel_rfl) (fun _ _ d _ _ h => by cases d <;> exact h) ?_
  repeat (refine headC_step (fun K hK => ?_); go_simp; first | (refine hK _ ?_; clear hK K) | (apply Exists.intro; refine ⟨fun p => ?_, hK _ ?_⟩; (fail); clear hK K))
  refine headC_nil ?_
  refine anyK_done (by kernel_rfl) ?_ 0
  intro w13 hw13
  have HK2 := hide (HK.out.ext hw13)
  have X13 := hide (HE.out.trans (Xw12.out.trans hw13))
  go_wp2
  go_ret
  exact ⟨_, _, rfl, HK2.out.wide hwV2 (Below.size hw13) (Nat.le_refl _), by rw [List.map_cons, ct_bare, HR.out, ← HC1.out, ← HC2.out, ← HC3.out, HS.out]; simp [HF4.out, HL4.out, ct_bare], X13.out⟩

/-- What is sealed tells: what is signed, and the signature. -/
def seC (C : List Ic) (n : Nat) (f : Nat → Int) : List Ic := ⟨48, 2, []⟩ :: (C ++ [⟨3, 0, 0 :: (List.range n).map f⟩])

set_option maxHeartbeats 1600000 in
theorem sealedPiece_any (v : Value) (L : List It) (C : List Ic) (a : Option Addr) (b off n cap : Nat) (f : Nat → Int) (B : Nat) (w : World) (hp : Pce B w.heap.size w v L) (hc : L.map ct = C) (hB : B ≤ w.heap.size) (hg : BSeg w a b off n f) (hn : n ≤ 1000) (hl : C.length ≤ 90000) :
    Calls Tryz.prog 34 #[v, .slice a n cap] w fun e w' => ∃ v' L', e = .returned v' ∧ Pce B w'.heap.size w' v' L' ∧ L'.map ct = seC C n f ∧ Ext w w' := by
  obtain ⟨T0, t0, a0, n0, c0, rfl⟩ := hp.form
  have HB := hide (bitsPiece_any a b off n cap f w hg (by omega))
  have HP := hide hp
  have Hc := hide hc
  have HR : Hid (seC C n f = ⟨48, 2, []⟩ :: (C ++ [⟨3, 0, 0 :: (List.range n).map f⟩])) := rfl
  have HN : Hid (1 = ([⟨3, 0, 0 :: (List.range n).map f⟩] : List Ic).length) := rfl
  have HLl : Hid (C.length ≤ 90000) := hide hl
  generalize seC C n f = C9 at *
  generalize ([⟨3, 0, 0 :: (List.range n).map f⟩] : List Ic) = C2 at *
  clear hp hc hg
  go_enter Tryz.func34, Tryz.ntmps34
  go_wp2_with fail
  refine HB.out.mono ?_
  rintro e w1 ⟨v1, L1, rfl, h1, h1c, h1E⟩
  obtain ⟨T1, t1, a1, n1, c1, rfl⟩ := h1.form
  have hS := HP.out.one.add (.of_ext h1E (Nat.le_refl _)) (Below.size h1E) h1 hB (Below.size h1E)
  have HS := hide (hS.ext (Ext.alloc w1 (.cells #[.iface T0 (.agg #[.int .i64 t0, .slice a0 n0 c0]), .iface T1 (.agg #[.int .i64 t1, .slice a1 n1 c1])] 47)))
  have HW := hide (World.ownsRow_lit (e := 47) (size := 1) (base := B) w1 #[.iface T0 (.agg #[.int .i64 t0, .slice a0 n0 c0]), .iface T1 (.agg #[.int .i64 t1, .slice a1 n1 c1])] 2 (Nat.le_trans hB (Below.size h1E)) (by decide) rfl)
  have HX := hide (h1E.trans (Ext.alloc w1 (.cells #[.iface T0 (.agg #[.int .i64 t0, .slice a0 n0 c0]), .iface T1 (.agg #[.int .i64 t1, .slice a1 n1 c1])] 47)))
  have H1c := hide h1c
  have HK := hide (Pce.knot 48 HS.out HW.out (by have h2 := map_len h1c; have h3 := map_len Hc.out; have := HLl.out; rw [← HN.out] at h2; simp; omega) (by simp))
  clear h1 h1c h1E hS HB
  go_wp2_with fail
  refine (listPiece_any _ _ _ _).mono ?_
  rintro e w2 ⟨rfl, hw⟩
  obtain rfl := hw.symm
  go_wp2
  go_ret
  exact ⟨_, _, rfl, HK.out, by rw [List.map_cons, ct_bare, HR.out, ← Hc.out, ← H1c.out]; simp, HX.out⟩
end

end Go.Proofs.YtgdjaapjdmancaaGreatDoor
