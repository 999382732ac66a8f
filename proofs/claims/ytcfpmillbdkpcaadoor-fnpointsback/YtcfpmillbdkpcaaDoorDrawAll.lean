/- Walks: l3Curves and l3Draw of the model: one of the three curves; the cursor alone has turned. Walk: DrawCurve of the model: one of the three curves and two multiples of its base point. Walk: l3DrawAny of the model: some curve, its numbers small; the cursor alone has turned. Walk: l3DrawPoint of the model: some point; the cursor alone has turned. Walk: DrawPointRead of the model: some curve and some bytes. -/
import Derived.Test.YtcfpmillbdkpcaaDoorCursN
import Derived.Test.YtcfpmillbdkpcaaDoorStepsC
import Derived.Test.YtcfpmillbdkpcaaDoorCurveC
import Derived.Test.YtcfpmillbdkpcaaDoorCurveP
import Derived.Test.YtcfpmillbdkpcaaDoorCurveB
import Derived.Maps.AppendAt
namespace Go.Proofs.YtcfpmillbdkpcaaDoor
set_option linter.unusedVariables false

open Go.RowKit Go.Sort

/-- The curve j lies in block S, from place o on. -/
structure CvO (w : World) (S o j : Nat) : Prop where
  c0 : w.cell? ⟨S, o, none⟩ = some (.int .i64 (kP j))
  c1 : w.cell? ⟨S, o + 1, none⟩ = some (.int .i64 (kA j))
  c2 : w.cell? ⟨S, o + 2, none⟩ = some (.int .i64 (kB j))
  c3 : w.cell? ⟨S, o + 3, none⟩ = some (.int .i64 (kN j))
  c4 : w.cell? ⟨S, o + 4, none⟩ = some (.int .i64 (kX j))
  c5 : w.cell? ⟨S, o + 5, none⟩ = some (.int .i64 (kY j))

theorem CvO.of_block {w w' : World} {S o j : Nat} (h : CvO w S o j) (e : w'.heap[S]? = w.heap[S]?) : CvO w' S o j := by
  have k : ∀ q, w'.cell? ⟨S, q, none⟩ = w.cell? ⟨S, q, none⟩ := fun q => World.cell?_of_block (a := ⟨S, q, none⟩) e
  exact ⟨(k _).trans h.c0, (k _).trans h.c1, (k _).trans h.c2, (k _).trans h.c3, (k _).trans h.c4, (k _).trans h.c5⟩

theorem CvO.lt {w : World} {S o j : Nat} (h : CvO w S o j) : S < w.heap.size := block_lt_of_cell h.c0

set_option maxHeartbeats 800000 in
set_option maxRecDepth 100000 in
theorem l3Curves_any (w : World) : Calls Tryd.prog 79 #[] w fun e w' => e = .returned (.slice (some ⟨w.heap.size, 0, none⟩) 3 3) ∧ (∀ j, j < 3 → CvO w' w.heap.size (j * 6) j) ∧ Below w.heap.size w w' := by
  go_enter Tryd.func79, Tryd.ntmps79
  go_wp2
  go_ret
  refine ⟨rfl, fun j hj => ?_, (Below.refl _ _).alloc (Nat.le_refl _) _⟩
  match j, hj with
  | 0, _ => constructor <;> exact (World.cell?_alloc_at _ _ _ _ rfl).trans rfl
  | 1, _ => constructor <;> exact (World.cell?_alloc_at _ _ _ _ rfl).trans rfl
  | 2, _ => constructor <;> exact (World.cell?_alloc_at _ _ _ _ rfl).trans rfl

/-- The call answers one of the three curves, and of what was there turns the cursor alone. -/
def GivesK (w : World) (C : Nat) (a : Option Addr) (n cap : Nat) (e : Ending) (w' : World) : Prop :=
  ∃ j, j < 3 ∧ e = .returned (.agg #[.int .i64 (kP j), .int .i64 (kA j), .int .i64 (kB j), .int .i64 (kN j), .int .i64 (kX j), .int .i64 (kY j)]) ∧ Cur w' C a n cap ∧ Grw (Cx C) w w'

theorem Code.grw {w w' : World} {X : Nat → Prop} {C : Nat} {a : Option Addr} {b off n : Nat} {f : Nat → Int} (h : Code w C a b off n f) (hg : Grw X w w') (hX : 0 < n → ¬ X b) : Code w' C a b off n f :=
  ⟨⟨h.seg.at', fun i hi => (World.cell?_of_block (a := ⟨b, off + i, none⟩) (hg.block b (h.seg.lt (by omega)) (hX (by omega)))).trans (h.seg.cell i hi)⟩, h.byts, h.ne⟩

theorem Code.ext {w w' : World} {C : Nat} {a : Option Addr} {b off n : Nat} {f : Nat → Int} (h : Code w C a b off n f) (hg : Ext w w') : Code w' C a b off n f := h.grw (X := Cx C) (.of_ext hg) h.ne

theorem Cur.ext {w w' : World} {C : Nat} {a : Option Addr} {n cap : Nat} (h : Cur w C a n cap) (e : Ext w w') : Cur w' C a n cap := h.of_block (e.block C (block_lt_of_cell h.c0))

theorem Cur.lt {w : World} {C : Nat} {a : Option Addr} {n cap : Nat} (h : Cur w C a n cap) : C < w.heap.size := block_lt_of_cell h.c0

theorem Ext.alloc (w : World) (o : Obj) : Ext w (w.alloc o) := (Below.refl _ _).alloc (Nat.le_refl _) _

/-- A struct of six ints stored into block C. -/
def putCv (w : World) (C : Nat) (p A B N x y : Int) : World := (((((w.setCell ⟨C, 0, none⟩ (.int .i64 p)).setCell ⟨C, 1, none⟩ (.int .i64 A)).setCell ⟨C, 2, none⟩ (.int .i64 B)).setCell ⟨C, 3, none⟩ (.int .i64 N)).setCell ⟨C, 4, none⟩ (.int .i64 x)).setCell ⟨C, 5, none⟩ (.int .i64 y)

/-- A struct of six ints in block C, which may be written. -/
structure CvF (w : World) (C : Nat) (p A B N x y : Int) : Prop where
  c : CvAt w C p A B N x y
  f : ∀ o, w.frozen? ⟨C, o, none⟩ = false

theorem CvF.of_block {w w' : World} {C : Nat} {p A B N x y : Int} (h : CvF w C p A B N x y) (e : w'.heap[C]? = w.heap[C]?) : CvF w' C p A B N x y := by
  have k : ∀ q, w'.cell? ⟨C, q, none⟩ = w.cell? ⟨C, q, none⟩ := fun q => World.cell?_of_block (a := ⟨C, q, none⟩) e
  have z : ∀ q, w'.frozen? ⟨C, q, none⟩ = w.frozen? ⟨C, q, none⟩ := fun q => World.frozen?_of_block (a := ⟨C, q, none⟩) e
  obtain ⟨⟨c0, c1, c2, c3, c4, c5⟩, f⟩ := h
  exact ⟨⟨(k _).trans c0, (k _).trans c1, (k _).trans c2, (k _).trans c3, (k _).trans c4, (k _).trans c5⟩, fun o => (z o).trans (f o)⟩

theorem CvF.alloc (w : World) (p A B N x y : Int) (t : TypeId) : CvF (w.alloc (.cells #[.int .i64 p, .int .i64 A, .int .i64 B, .int .i64 N, .int .i64 x, .int .i64 y] t)) w.heap.size p A B N x y :=
  ⟨CvAt.alloc w p A B N x y t, fun o => by simp [go_sem]⟩

theorem size_putCv (w : World) (C : Nat) (p A B N x y : Int) : (putCv w C p A B N x y).heap.size = w.heap.size := by simp [putCv, World.setCell]

theorem heap_putCv (w : World) (C : Nat) (p A B N x y : Int) {k : Nat} (h : k ≠ C) : (putCv w C p A B N x y).heap[k]? = w.heap[k]? := by
  unfold putCv
  repeat rw [Below.heap_setCell _ _ _ _ (fun e => h e)]

theorem below_putCv {S : Nat} {a w : World} (h : Below S a w) {C : Nat} (hC : S ≤ C) (p A B N x y : Int) : Below S a (putCv w C p A B N x y) :=
  ((((((h.setCell (p := ⟨C, 0, none⟩) hC _).setCell (p := ⟨C, 1, none⟩) hC _).setCell (p := ⟨C, 2, none⟩) hC _).setCell (p := ⟨C, 3, none⟩) hC _).setCell (p := ⟨C, 4, none⟩) hC _).setCell (p := ⟨C, 5, none⟩) hC _)

/-- What is stored into a block that came later. -/
theorem Grw.later {X : Nat → Prop} {S : Nat} {a b c : World} (h : Grw X a b) (hb : Below S b c) (hS : a.heap.size ≤ S) : Grw X a c :=
  ⟨hb.os.trans h.os, hb.tape.trans h.tape, hb.output.trans h.output, Nat.le_trans h.size hb.size, fun k hk hn => (hb.block k (by omega)).trans (h.block k hk hn)⟩

set_option maxHeartbeats 800000 in
set_option maxRecDepth 100000 in
theorem l3Draw_any (C : Nat) (a : Option Addr) (b off n cap : Nat) (f : Nat → Int) (w : World) (hC : Cur w C a n cap) (hK : Code w C a b off n f) (hn : n ≤ 1048576) :
    Calls Tryd.prog 39 #[.pointer (some ⟨C, 0, none⟩)] w fun e w' => GivesK w C a n cap e w' := by
  go_enter Tryd.func39, Tryd.ntmps39
  go_wp2_with fail
  refine (l3Curves_any _).mono ?_
  rintro e w1 ⟨rfl, hv, hw1⟩
  have E1 : Ext w w1 := (Ext.alloc w _).trans hw1
  have F1 : CvF w1 w.heap.size 0 0 0 0 0 0 := (CvF.alloc w 0 0 0 0 0 0 25).of_block (hw1.block w.heap.size (by simp))
  have hC1 := hC.ext E1
  have hl := hC.lt
  have s1 : w.heap.size + 1 ≤ w1.heap.size := by have := Below.size hw1; rwa [World.size_alloc] at this
  rw [World.size_alloc] at hv
  clear hw1
  go_wp2_with fail
  refine (l1Below_any C a b off n cap f 3 _ hC1 (hK.ext E1) hn (by omega) (by omega)).mono ?_
  rintro e w2 ⟨x, rfl, x0, x1, hC2, T2⟩
  obtain ⟨j, rfl⟩ := Int.eq_ofNat_of_zero_le x0
  have hj : j < 3 := by omega
  have hj' : (j : Int) < 3 := by omega
  have kS : CvO w2 (w.heap.size + 1) (j * 6) j := (hv j hj).of_block (T2.grown.block _ (hv j hj).lt (by simp; omega))
  have F2 : CvF w2 w.heap.size 0 0 0 0 0 0 := F1.of_block (T2.grown.block _ (by omega) (by simp; omega))
  have G2 : Grw (Cx C) w w2 := (Grw.of_ext E1).trans (.of_touch T2 rfl)
  clear E1 F1 hC1 hv T2 s1 hC hK
  obtain ⟨c0, c1, c2, c3, c4, c5⟩ := kS
  obtain ⟨⟨z0, z1, z2, z3, z4, z5⟩, fz⟩ := F2
  have hG := hide G2
  clear G2
  go_wp2
  refine bodyPost_ret (v := .agg #[.int .i64 (kP j), .int .i64 (kA j), .int .i64 (kB j), .int .i64 (kN j), .int .i64 (kX j), .int .i64 (kY j)]) (by simp [results, Tryd.results39, go_sem, z0, z1, z2, z3, z4, z5]) rfl ⟨j, hj, rfl, ?_, ?_⟩
  · exact hC2.of_block (heap_putCv w2 w.heap.size _ _ _ _ _ _ (by omega))
  · exact hG.out.later (below_putCv (Below.refl w.heap.size w2) (Nat.le_refl _) _ _ _ _ _ _) (Nat.le_refl _)

open Go.RowKit Go.Sort

/-- A drawn curve and two points of it. -/
def GivesCurve (w : World) (e : Ending) (w' : World) : Prop :=
  ∃ (j m n : Nat), j < 3 ∧ m ≤ 20000 ∧ n ≤ 20000 ∧ e = .returned (.tuple #[.agg #[.int .i64 (kP j), .int .i64 (kA j), .int .i64 (kB j), .int .i64 (kN j), .int .i64 (kX j), .int .i64 (kY j)], ptV (mulF (kP j).toNat (kA j) m ⟨kX j, kY j, false⟩), ptV (mulF (kP j).toNat (kA j) n ⟨kX j, kY j, false⟩)]) ∧ Below w.heap.size w w'

theorem touch_putPt (w : World) (C : Nat) (a : Pt) : Touch C w (putPt w C a) := (((Touch.refl C w).set 0 _).set 1 _).set 2 _

theorem touch_putCv (w : World) (C : Nat) (p A B N x y : Int) : Touch C w (putCv w C p A B N x y) := ((((((Touch.refl C w).set 0 _).set 1 _).set 2 _).set 3 _).set 4 _).set 5 _

theorem CvF.put {w : World} {C : Nat} {p A B N x y : Int} (h : CvF w C p A B N x y) (p' A' B' N' x' y' : Int) : CvF (putCv w C p' A' B' N' x' y') C p' A' B' N' x' y' := by
  obtain ⟨⟨c0, c1, c2, c3, c4, c5⟩, f⟩ := h
  refine ⟨⟨?_, ?_, ?_, ?_, ?_, ?_⟩, fun o => ?_⟩
  all_goals unfold putCv
  all_goals first | (simp [go_sem, c0, c1, c2, c3, c4, c5, f]; done) | skip

theorem PtAt.of_block {w w' : World} {C : Nat} {a : Pt} (h : PtAt w C a) (e : w'.heap[C]? = w.heap[C]?) : PtAt w' C a := by
  have k : ∀ q, w'.cell? ⟨C, q, none⟩ = w.cell? ⟨C, q, none⟩ := fun q => World.cell?_of_block (a := ⟨C, q, none⟩) e
  have z : ∀ q, w'.frozen? ⟨C, q, none⟩ = w.frozen? ⟨C, q, none⟩ := fun q => World.frozen?_of_block (a := ⟨C, q, none⟩) e
  obtain ⟨c0, c1, c2, f0, f1, f2⟩ := h
  exact ⟨(k _).trans c0, (k _).trans c1, (k _).trans c2, (z _).trans f0, (z _).trans f1, (z _).trans f2⟩

theorem PtAt.lt {w : World} {C : Nat} {a : Pt} (h : PtAt w C a) : C < w.heap.size := block_lt_of_cell h.c0
theorem CvF.lt {w : World} {C : Nat} {p A B N x y : Int} (h : CvF w C p A B N x y) : C < w.heap.size := block_lt_of_cell h.c.c0

set_option maxHeartbeats 1600000 in
set_option maxRecDepth 100000 in
theorem drawCurve_any (a : Option Addr) (b off n cap : Nat) (f : Nat → Int) (w : World) (hs : BSeg w a b off n f) (hB : ∀ i, i < n → 0 ≤ f i ∧ f i ≤ 255) (hn : n ≤ 1048576) :
    Calls Tryd.prog 10 #[.slice a n cap] w fun e w' => GivesCurve w e w' := by
  go_enter Tryd.func10, Tryd.ntmps10
  go_wp2_with fail
  have E0 : Ext w (((w.alloc (.cells #[.int .i64 0, .int .i64 0, .int .i64 0, .int .i64 0, .int .i64 0, .int .i64 0] 25)).alloc (.cells #[.int .i64 0, .int .i64 0, .bool false] 27)).alloc (.cells #[.int .i64 0, .int .i64 0, .bool false] 27)) := ((Ext.alloc _ _).trans (Ext.alloc _ _)).trans (Ext.alloc _ _)
  refine (l1New_any a b off n cap f _ (hs.of_all E0) hB hn).mono ?_
  rintro e w1 ⟨rfl, hC1, sz1, hw1⟩
  have Fr : CvF w1 w.heap.size 0 0 0 0 0 0 := (((CvF.alloc w 0 0 0 0 0 0 25).of_block (Below.heap_alloc _ _ _ (by simp))).of_block (Below.heap_alloc _ _ _ (by simp; omega))).of_block (hw1.block _ (by simp; omega))
  have Pr : PtAt w1 (w.heap.size + 1) zeroP := ((by have := PtAt.alloc (w.alloc (.cells #[.int .i64 0, .int .i64 0, .int .i64 0, .int .i64 0, .int .i64 0, .int .i64 0] 25)) zeroP 27; rwa [World.size_alloc] at this : PtAt ((w.alloc (.cells #[.int .i64 0, .int .i64 0, .int .i64 0, .int .i64 0, .int .i64 0, .int .i64 0] 25)).alloc (.cells #[.int .i64 0, .int .i64 0, .bool false] 27)) (w.heap.size + 1) zeroP).of_block (Below.heap_alloc _ _ _ (by simp))).of_block (hw1.block _ (by simp))
  have Qr : PtAt w1 (w.heap.size + 1 + 1) zeroP := (by have := PtAt.alloc ((w.alloc (.cells #[.int .i64 0, .int .i64 0, .int .i64 0, .int .i64 0, .int .i64 0, .int .i64 0] 25)).alloc (.cells #[.int .i64 0, .int .i64 0, .bool false] 27)) zeroP 27; rwa [World.size_alloc, World.size_alloc] at this : PtAt (((w.alloc (.cells #[.int .i64 0, .int .i64 0, .int .i64 0, .int .i64 0, .int .i64 0, .int .i64 0] 25)).alloc (.cells #[.int .i64 0, .int .i64 0, .bool false] 27)).alloc (.cells #[.int .i64 0, .int .i64 0, .bool false] 27)) (w.heap.size + 1 + 1) zeroP).of_block (hw1.block _ (by simp))
  have E1 : Ext w w1 := E0.trans hw1
  have hK1 : Code w1 (w.heap.size + 1 + 1 + 1) a b off n f := ⟨hs.of_all E1, hB, fun h => by have := hs.lt h; omega⟩
  simp only [World.size_alloc] at hC1 sz1
  clear E0 hw1
  generalize hCn : w.heap.size + 1 + 1 + 1 = C at *
  go_wp2_with fail
  show Calls Tryd.prog 39 #[.pointer (some ⟨C, 0, none⟩)] w1 _
  refine (l3Draw_any C a b off n cap f _ hC1 hK1 hn).mono ?_
  rintro e w2 ⟨j, hj, rfl, hC2, G2⟩
  have hck := crv_ok hj
  have hbC : 0 < n → b < w.heap.size := fun h => hs.lt h
  have hcC : ∀ k, k < w1.heap.size → k ≠ C → w2.heap[k]? = w1.heap[k]? := fun k hk hne => G2.block k hk hne
  have hK2 : Code w2 C a b off n f := hK1.grw G2 hK1.ne
  have Fr2 : CvF w2 w.heap.size 0 0 0 0 0 0 := Fr.of_block (hcC _ Fr.lt (by omega))
  have Pr2 : PtAt w2 (w.heap.size + 1) zeroP := Pr.of_block (hcC _ Pr.lt (by omega))
  have Qr2 : PtAt w2 (w.heap.size + 1 + 1) zeroP := Qr.of_block (hcC _ Qr.lt (by omega))
  have B2 : Below w.heap.size w w2 := ⟨G2.os.trans E1.os, G2.tape.trans E1.tape, G2.output.trans E1.output, Nat.le_trans (Below.size E1) G2.size, fun k hk => (hcC k (Nat.lt_of_lt_of_le hk (Below.size E1)) (by omega)).trans (E1.block k hk)⟩
  clear Fr Pr Qr E1 hK1 hC1 G2 hcC sz1
  have EV : Ext w2 ((w2.alloc (.cells #[.int .i64 (kP j), .int .i64 (kA j), .int .i64 (kB j), .int .i64 (kN j), .int .i64 (kX j), .int .i64 (kY j)] 25)).alloc (.cells #[.int .i64 (kX j), .int .i64 (kY j), .bool false] 27)) := (Ext.alloc _ _).trans (Ext.alloc _ _)
  have KV : CvF ((w2.alloc (.cells #[.int .i64 (kP j), .int .i64 (kA j), .int .i64 (kB j), .int .i64 (kN j), .int .i64 (kX j), .int .i64 (kY j)] 25)).alloc (.cells #[.int .i64 (kX j), .int .i64 (kY j), .bool false] 27)) w2.heap.size (kP j) (kA j) (kB j) (kN j) (kX j) (kY j) := (CvF.alloc w2 (kP j) (kA j) (kB j) (kN j) (kX j) (kY j) 25).of_block (Below.heap_alloc _ _ _ (by simp))
  have GV : PtAt ((w2.alloc (.cells #[.int .i64 (kP j), .int .i64 (kA j), .int .i64 (kB j), .int .i64 (kN j), .int .i64 (kX j), .int .i64 (kY j)] 25)).alloc (.cells #[.int .i64 (kX j), .int .i64 (kY j), .bool false] 27)) (w2.heap.size + 1) ⟨kX j, kY j, false⟩ := by
    have := PtAt.alloc (w2.alloc (.cells #[.int .i64 (kP j), .int .i64 (kA j), .int .i64 (kB j), .int .i64 (kN j), .int .i64 (kX j), .int .i64 (kY j)] 25)) ⟨kX j, kY j, false⟩ 27
    rwa [World.size_alloc] at this
  go_wp2
  generalize ((w2.alloc (.cells #[.int .i64 (kP j), .int .i64 (kA j), .int .i64 (kB j), .int .i64 (kN j), .int .i64 (kX j), .int .i64 (kY j)] 25)).alloc (.cells #[.int .i64 (kX j), .int .i64 (kY j), .bool false] 27)) = V at *
  have s2 : C < w2.heap.size := hC2.lt
  have hCV := hC2.ext EV
  have hKV := hK2.ext EV
  have FV : CvF V w.heap.size 0 0 0 0 0 0 := Fr2.of_block (EV.block _ Fr2.lt)
  have PV : PtAt V (w.heap.size + 1) zeroP := Pr2.of_block (EV.block _ Pr2.lt)
  have QV : PtAt V (w.heap.size + 1 + 1) zeroP := Qr2.of_block (EV.block _ Qr2.lt)
  have BV : Below w.heap.size w V := B2.trans ((show Below w2.heap.size w2 V from EV).mono B2.size)
  clear Fr2 Pr2 Qr2 B2 EV hC2 hK2
  generalize w2.heap.size = S at *
  clear w2 w1
  obtain ⟨X, hX⟩ : ∃ X : Nat → Prop, X = fun k => w.heap.size ≤ k ∧ k ≤ C := ⟨_, rfl⟩
  have xS : ¬ X S := by rw [hX]; simp; omega
  have xG : ¬ X (S + 1) := by rw [hX]; simp; omega
  have x0 : X w.heap.size := by rw [hX]; simp; omega
  have x1 : X (w.heap.size + 1) := by rw [hX]; simp; omega
  have x2 : X (w.heap.size + 1 + 1) := by rw [hX]; simp; omega
  have xC : X C := by rw [hX]; simp; omega
  have xb : 0 < n → ¬ X b := fun h => by have := hbC h; rw [hX]; simp; omega
  have xw : ∀ k, k < w.heap.size → ¬ X k := fun k h => by rw [hX]; simp; omega
  clear hX
  obtain ⟨⟨k0, k1, k2, k3, k4, k5⟩, -⟩ := KV
  obtain ⟨g0, g1, g2, -, -, -⟩ := GV
  have e0 := cell_reC k0 xS
  have e1 := cell_reC k1 xS
  have e2 := cell_reC k2 xS
  have e3 := cell_reC k3 xS
  have e4 := cell_reC k4 xS
  have e5 := cell_reC k5 xS
  have d0 := cell_reC g0 xG
  have d1 := cell_reC g1 xG
  have d2 := cell_reC g2 xG
  clear k0 k1 k2 k3 k4 k5 g0 g1 g2
  refine anyK_begin X 14 rfl (by kernel_rfl) ?_
  refine anyK_take 0 3 11 rfl (by decide) (by kernel_rfl) (fun _ _ d _ _ h => by cases d <;> exact h) ?_
  repeat (refine headC_step (fun K hK => ?_); go_simp; first | (refine hK _ ?_; clear hK K) | (apply Exists.intro; refine ⟨fun _ => ?_, hK _ ?_⟩; (fail); clear hK K))
  refine headC_nil ?_
  refine anyK_take 4 1 10 rfl (by decide) (by kernel_rfl) (fun _ _ d _ _ h => by cases d <;> exact h) ?_
  repeat (refine headC_step (fun K hK => ?_); go_simp; first | (refine hK _ ?_; clear hK K) | (apply Exists.intro; refine ⟨fun _ => ?_, hK _ ?_⟩; (fail); clear hK K))
  refine headC_nil ?_
  refine anyK_take 6 2 8 rfl (by decide) (by kernel_rfl) (fun _ _ d _ _ h => by cases d <;> exact h) ?_
  repeat (refine headC_step (fun K hK => ?_); go_simp; first | (refine hK _ ?_; clear hK K) | (apply Exists.intro; refine ⟨fun _ => ?_, hK _ ?_⟩; (fail); clear hK K))
  refine headC_nil ?_
  refine anyK_take 9 1 7 rfl (by decide) (by kernel_rfl) (fun _ _ d _ _ h => by cases d <;> exact h) ?_
  repeat (refine headC_step (fun K hK => ?_); go_simp; first | (refine hK _ ?_; clear hK K) | (apply Exists.intro; refine ⟨fun _ => ?_, hK _ ?_⟩; (fail); clear hK K))
  refine headC_nil ?_
  clear e0 e1 e2 e3 e4 e5 d0 d1 d2
  have HV : Grw (Cx C) V V := .refl _ _
  refine anyK_one 3 (by kernel_rfl) ?_
  refine stepK_run rfl ?_
  intro w3' h3 K hK
  go_simp
  refine (l1Below_any C a b off n cap f 20000 _ (hCV.ext h3) (hKV.ext h3) hn (by omega) (by omega)).mono ?_
  rintro e w3 ⟨m3, rfl, m30, m31, hC3, T3⟩
  have H3 : Grw (Cx C) V w3 := (HV.trans (.of_ext h3)).trans (.of_touch T3 rfl)
  have hK3 := (hKV.ext h3).touch T3
  go_simp
  refine hK _ _ (H3.mono (by rintro k rfl; exact xC)) ?_
  clear hK K h3 T3 hCV hKV HV w3'
  obtain ⟨A1, hA1⟩ : ∃ A1, mulF (kP j).toNat (kA j) m3.toNat ⟨kX j, kY j, false⟩ = A1 := ⟨_, rfl⟩
  have M5 := l3Mul_ok hck hck.g m3 m30 (by omega)
  rw [hA1] at M5
  simp only [ptV] at M5
  replace M5 := hide M5
  refine anyK_one 5 (by kernel_rfl) ?_
  refine stepK_run rfl ?_
  intro w5' h5 K hK
  go_simp
  refine (M5.out _).mono ?_
  rintro e w5 ⟨rfl, hw5⟩
  replace hw5 := Ext.trans h5 hw5
  have H5 : Grw (Cx C) V w5 := H3.trans (.of_ext hw5)
  have hC5 := hC3.ext hw5
  have hK5 := hK3.ext hw5
  go_simp
  refine hK _ _ (H5.mono (by rintro k rfl; exact xC)) ?_
  clear hK K h5 hw5 hC3 hK3 H3 w5' M5
  refine anyK_one 8 (by kernel_rfl) ?_
  refine stepK_run rfl ?_
  intro w8' h8 K hK
  go_simp
  refine (l1Below_any C a b off n cap f 300 _ (hC5.ext h8) (hK5.ext h8) hn (by omega) (by omega)).mono ?_
  rintro e w8 ⟨m8, rfl, m80, m81, hC8, T8⟩
  have H8 : Grw (Cx C) V w8 := (H5.trans (.of_ext h8)).trans (.of_touch T8 rfl)
  have hK8 := (hK5.ext h8).touch T8
  go_simp
  refine hK _ _ (H8.mono (by rintro k rfl; exact xC)) ?_
  clear hK K h8 T8 hC5 hK5 H5 w8'
  obtain ⟨A2, hA2⟩ : ∃ A2, mulF (kP j).toNat (kA j) m8.toNat ⟨kX j, kY j, false⟩ = A2 := ⟨_, rfl⟩
  have M10 := l3Mul_ok hck hck.g m8 m80 (by omega)
  rw [hA2] at M10
  simp only [ptV] at M10
  replace M10 := hide M10
  refine anyK_one 10 (by kernel_rfl) ?_
  refine stepK_run rfl ?_
  intro w10' h10 K hK
  go_simp
  refine (M10.out _).mono ?_
  rintro e w10 ⟨rfl, hw10⟩
  replace hw10 := Ext.trans h10 hw10
  have H10 : Grw (Cx C) V w10 := H8.trans (.of_ext hw10)
  have hC10 := hC8.ext hw10
  have hK10 := hK8.ext hw10
  go_simp
  refine hK _ _ (H10.mono (by rintro k rfl; exact xC)) ?_
  clear hK K h10 hw10 hC8 hK8 H8 w10' M10
  have F : CvF w10 w.heap.size 0 0 0 0 0 0 := FV.of_block (H10.block _ FV.lt (by unfold Cx; omega))
  have P1 : PtAt w10 (w.heap.size + 1) zeroP := PV.of_block (H10.block _ PV.lt (by unfold Cx; omega))
  have Q1 : PtAt w10 (w.heap.size + 1 + 1) zeroP := QV.of_block (H10.block _ QV.lt (by unfold Cx; omega))
  replace H10 : Grw X V w10 := H10.mono (by rintro k rfl; exact xC)
  clear hC10 hK10 FV PV QV
  refine anyK_one 11 (by kernel_rfl) ?_
  refine stepK_run rfl ?_
  intro w11 h11 K hK
  replace F := F.of_block (h11.block _ F.lt)
  replace P1 := P1.of_block (h11.block _ P1.lt)
  replace Q1 := Q1.of_block (h11.block _ Q1.lt)
  have H11 : Grw X V (putCv w11 w.heap.size (kP j) (kA j) (kB j) (kN j) (kX j) (kY j)) := (H10.trans (.of_ext h11)).trans (.of_touch (touch_putCv _ _ _ _ _ _ _ _) x0)
  have F' := F
  obtain ⟨⟨z0, z1, z2, z3, z4, z5⟩, fz⟩ := F'
  go_simp
  refine hK _ (putCv w11 w.heap.size (kP j) (kA j) (kB j) (kN j) (kX j) (kY j)) H11 ?_
  clear hK K z0 z1 z2 z3 z4 z5 fz H10 h11
  replace F := F.put (kP j) (kA j) (kB j) (kN j) (kX j) (kY j)
  replace P1 := P1.of_block (heap_putCv w11 w.heap.size (kP j) (kA j) (kB j) (kN j) (kX j) (kY j) (by omega))
  replace Q1 := Q1.of_block (heap_putCv w11 w.heap.size (kP j) (kA j) (kB j) (kN j) (kX j) (kY j) (by omega))
  generalize putCv w11 w.heap.size (kP j) (kA j) (kB j) (kN j) (kX j) (kY j) = W11 at *
  refine anyK_one 12 (by kernel_rfl) ?_
  refine stepK_run rfl ?_
  intro w12 h12 K hK
  replace F := F.of_block (h12.block _ F.lt)
  replace P1 := P1.of_block (h12.block _ P1.lt)
  replace Q1 := Q1.of_block (h12.block _ Q1.lt)
  have H12 : Grw X V (putPt w12 (w.heap.size + 1) A1) := (H11.trans (.of_ext h12)).trans (.of_touch (touch_putPt _ _ _) x1)
  have P' := P1
  obtain ⟨z0, z1, z2, y0, y1, y2⟩ := P'
  simp only [zeroP] at z0 z1 z2
  go_simp
  refine hK _ (putPt w12 (w.heap.size + 1) A1) H12 ?_
  clear hK K z0 z1 z2 y0 y1 y2 H11 h12
  replace P1 := P1.put A1
  replace F := F.of_block ((touch_putPt w12 (w.heap.size + 1) A1).grown.block _ F.lt (by simp <;> omega))
  replace Q1 := Q1.of_block ((touch_putPt w12 (w.heap.size + 1) A1).grown.block _ Q1.lt (by simp))
  generalize putPt w12 (w.heap.size + 1) A1 = W12 at *
  refine anyK_one 13 (by kernel_rfl) ?_
  refine stepK_run rfl ?_
  intro w13 h13 K hK
  replace F := F.of_block (h13.block _ F.lt)
  replace P1 := P1.of_block (h13.block _ P1.lt)
  replace Q1 := Q1.of_block (h13.block _ Q1.lt)
  have H13 : Grw X V (putPt w13 (w.heap.size + 1 + 1) A2) := (H12.trans (.of_ext h13)).trans (.of_touch (touch_putPt _ _ _) x2)
  have P' := Q1
  obtain ⟨z0, z1, z2, y0, y1, y2⟩ := P'
  simp only [zeroP] at z0 z1 z2
  go_simp
  refine hK _ (putPt w13 (w.heap.size + 1 + 1) A2) H13 ?_
  clear hK K z0 z1 z2 y0 y1 y2 H12 h13
  replace Q1 := Q1.put A2
  replace F := F.of_block ((touch_putPt w13 (w.heap.size + 1 + 1) A2).grown.block _ F.lt (by simp <;> omega))
  replace P1 := P1.of_block ((touch_putPt w13 (w.heap.size + 1 + 1) A2).grown.block _ P1.lt (by simp))
  generalize putPt w13 (w.heap.size + 1 + 1) A2 = W13 at *
  refine anyK_done (by kernel_rfl) ?_ 0
  intro wz hz
  replace F := F.of_block (hz.block _ F.lt)
  replace P1 := P1.of_block (hz.block _ P1.lt)
  replace Q1 := Q1.of_block (hz.block _ Q1.lt)
  have HG : Hid (GivesCurve w (.returned (.tuple #[.agg #[.int .i64 (kP j), .int .i64 (kA j), .int .i64 (kB j), .int .i64 (kN j), .int .i64 (kX j), .int .i64 (kY j)], .agg #[.int .i64 A1.x, .int .i64 A1.y, .bool A1.far], .agg #[.int .i64 A2.x, .int .i64 A2.y, .bool A2.far]])) wz) := by
    refine ⟨j, m3.toNat, m8.toNat, hj, by omega, by omega, ?_, BV.trans ((H13.trans (.of_ext hz)).below xw BV.size)⟩
    rw [hA1, hA2]; rfl
  obtain ⟨⟨k0, k1, k2, k3, k4, k5⟩, -⟩ := F
  obtain ⟨p0, p1, p2, -, -, -⟩ := P1
  obtain ⟨q0, q1, q2, -, -, -⟩ := Q1
  clear H13 hz hA1 hA2 BV xw xb xC x0 x1 x2 xS xG
  go_wp2
  refine bodyPost_ret (v := .tuple #[.agg #[.int .i64 (kP j), .int .i64 (kA j), .int .i64 (kB j), .int .i64 (kN j), .int .i64 (kX j), .int .i64 (kY j)], .agg #[.int .i64 A1.x, .int .i64 A1.y, .bool A1.far], .agg #[.int .i64 A2.x, .int .i64 A2.y, .bool A2.far]]) (by simp [results, Tryd.results10, go_sem, k0, k1, k2, k3, k4, k5, p0, p1, p2, q0, q1, q2]) rfl HG.out

open Go.RowKit Go.Sort

/-- A curve's numbers are small. -/
structure KBd (p A B N : Int) : Prop where
  p0 : 0 ≤ p
  p1 : p ≤ 2097152
  a0 : -1 ≤ A
  a1 : A ≤ 2097152
  b0 : 0 ≤ B
  b1 : B ≤ 2097152
  n0 : 0 ≤ N
  n1 : N ≤ 2097169

theorem kbd (j : Nat) : KBd (kP j) (kA j) (kB j) (kN j) ∧ (0 ≤ kX j ∧ kX j ≤ 1973) ∧ 0 ≤ kY j ∧ kY j ≤ 1973 := by
  match j with
  | 0 => exact ⟨⟨by decide, by decide, by decide, by decide, by decide, by decide, by decide, by decide⟩, by decide⟩
  | 1 => exact ⟨⟨by decide, by decide, by decide, by decide, by decide, by decide, by decide, by decide⟩, by decide⟩
  | _ + 2 => exact ⟨⟨by simp [kP], by simp [kP], by simp [kA], by simp [kA], by simp [kB], by simp [kB], by simp [kN], by simp [kN]⟩, by simp [kX, kY]⟩

/-- The call answers such a curve, and of what was there turns the cursor alone. -/
def GivesAny (w : World) (C : Nat) (a : Option Addr) (n cap : Nat) (e : Ending) (w' : World) : Prop :=
  ∃ p A B N x y, e = .returned (.agg #[.int .i64 p, .int .i64 A, .int .i64 B, .int .i64 N, .int .i64 x, .int .i64 y]) ∧ KBd p A B N ∧ (0 ≤ x ∧ x ≤ 2000) ∧ (0 ≤ y ∧ y ≤ 2000) ∧ Cur w' C a n cap ∧ Grw (Cx C) w w'

theorem seg_lit (w : World) (xs : Array Value) (m : Nat) (g : Nat → Int) (h : ∀ i, i < m → xs[i]? = some (.int .i64 (g i))) : Seg (w.alloc (.cells xs 3)) (some ⟨w.heap.size, 0, none⟩) w.heap.size 0 m g :=
  ⟨fun _ => rfl, fun i hi => by rw [Nat.zero_add]; exact (World.cell?_alloc_at _ _ _ _ rfl).trans (h i hi)⟩

/-- In mid-call: the answer's block R, the curve's block S, the cursor. -/
structure Mid (w wr : World) (C R S : Nat) (a : Option Addr) (n cap : Nat) (p A B N x y : Int) : Prop where
  res : CvF wr R 0 0 0 0 0 0
  cv : CvF wr S p A B N x y
  cur : Cur wr C a n cap
  grw : Grw (Cx C) w wr
  hR : w.heap.size ≤ R
  hS : R < S
  hC : C < w.heap.size

theorem Mid.ext {w wr w1 : World} {C R S : Nat} {a : Option Addr} {n cap : Nat} {p A B N x y : Int} (h : Mid w wr C R S a n cap p A B N x y) (e : Ext wr w1) : Mid w w1 C R S a n cap p A B N x y :=
  ⟨h.res.of_block (e.block _ h.res.lt), h.cv.of_block (e.block _ h.cv.lt), h.cur.ext e, h.grw.trans (.of_ext e), h.hR, h.hS, h.hC⟩

theorem Mid.touch {w wr w1 : World} {C R S : Nat} {a : Option Addr} {n cap : Nat} {p A B N x y : Int} (h : Mid w wr C R S a n cap p A B N x y) (t : Touch C wr w1) (hc : Cur w1 C a n cap) : Mid w w1 C R S a n cap p A B N x y := by
  have h1 := h.hR; have h2 := h.hS; have h3 := h.hC
  exact ⟨h.res.of_block (t.grown.block _ h.res.lt (by simp; omega)), h.cv.of_block (t.grown.block _ h.cv.lt (by simp; omega)), hc, h.grw.trans (.of_touch t rfl), h1, h2, h3⟩

/-- The end: what lies in S is stored into R and answered. -/
theorem Mid.done {w wr : World} {C R S : Nat} {a : Option Addr} {n cap : Nat} {p A B N x y : Int} (h : Mid w wr C R S a n cap p A B N x y) (hk : KBd p A B N) (hx : 0 ≤ x ∧ x ≤ 2000) (hy : 0 ≤ y ∧ y ≤ 2000) :
    GivesAny w C a n cap (.returned (.agg #[.int .i64 p, .int .i64 A, .int .i64 B, .int .i64 N, .int .i64 x, .int .i64 y])) (putCv wr R p A B N x y) := by
  have h1 := h.hR; have h2 := h.hS; have h3 := h.hC
  refine ⟨p, A, B, N, x, y, rfl, hk, hx, hy, h.cur.of_block (heap_putCv wr R _ _ _ _ _ _ (by omega)), h.grw.later (below_putCv (Below.refl w.heap.size wr) h1 _ _ _ _ _ _) (Nat.le_refl _)⟩

theorem Mid.turn {w wr w1 : World} {C R S : Nat} {a : Option Addr} {n cap : Nat} {p A B N x y p' A' B' N' x' y' : Int} (h : Mid w wr C R S a n cap p A B N x y) (t : Touch S wr w1) (hc : CvF w1 S p' A' B' N' x' y') : Mid w w1 C R S a n cap p' A' B' N' x' y' := by
  have h1 := h.hR; have h2 := h.hS; have h3 := h.hC
  exact ⟨h.res.of_block (t.grown.block _ h.res.lt (by simp; omega)), hc, h.cur.of_block (t.grown.block _ h.cur.lt (by simp; omega)), h.grw.later (below_touch (Below.refl w.heap.size wr) t (by omega)) (Nat.le_refl _), h1, h2, h3⟩

theorem CvF.set0 {w : World} {C : Nat} {p A B N x y : Int} (h : CvF w C p A B N x y) (v : Int) : CvF (w.setCell ⟨C, 0, none⟩ (.int .i64 v)) C v A B N x y := by
  obtain ⟨⟨c0, c1, c2, c3, c4, c5⟩, f⟩ := h
  refine ⟨⟨?_, ?_, ?_, ?_, ?_, ?_⟩, fun o => ?_⟩
  all_goals first | (simp [go_sem, c0, c1, c2, c3, c4, c5, f]; done) | skip

theorem CvF.set1 {w : World} {C : Nat} {p A B N x y : Int} (h : CvF w C p A B N x y) (v : Int) : CvF (w.setCell ⟨C, 1, none⟩ (.int .i64 v)) C p v B N x y := by
  obtain ⟨⟨c0, c1, c2, c3, c4, c5⟩, f⟩ := h
  refine ⟨⟨?_, ?_, ?_, ?_, ?_, ?_⟩, fun o => ?_⟩
  all_goals first | (simp [go_sem, c0, c1, c2, c3, c4, c5, f]; done) | skip

theorem CvF.set3 {w : World} {C : Nat} {p A B N x y : Int} (h : CvF w C p A B N x y) (v : Int) : CvF (w.setCell ⟨C, 3, none⟩ (.int .i64 v)) C p A B v x y := by
  obtain ⟨⟨c0, c1, c2, c3, c4, c5⟩, f⟩ := h
  refine ⟨⟨?_, ?_, ?_, ?_, ?_, ?_⟩, fun o => ?_⟩
  all_goals first | (simp [go_sem, c0, c1, c2, c3, c4, c5, f]; done) | skip

theorem CvF.set5 {w : World} {C : Nat} {p A B N x y : Int} (h : CvF w C p A B N x y) (v : Int) : CvF (w.setCell ⟨C, 5, none⟩ (.int .i64 v)) C p A B N x v := by
  obtain ⟨⟨c0, c1, c2, c3, c4, c5⟩, f⟩ := h
  refine ⟨⟨?_, ?_, ?_, ?_, ?_, ?_⟩, fun o => ?_⟩
  all_goals first | (simp [go_sem, c0, c1, c2, c3, c4, c5, f]; done) | skip

set_option maxHeartbeats 1600000 in
set_option maxRecDepth 100000 in
theorem l3DrawAny_any (C : Nat) (a : Option Addr) (b off n cap : Nat) (f : Nat → Int) (w : World) (hC : Cur w C a n cap) (hK : Code w C a b off n f) (hn : n ≤ 1048576) :
    Calls Tryd.prog 50 #[.pointer (some ⟨C, 0, none⟩)] w fun e w' => GivesAny w C a n cap e w' := by
  have hl := hC.lt
  go_enter Tryd.func50, Tryd.ntmps50
  go_wp2_with fail
  have E0 := Ext.alloc w (.cells #[.int .i64 0, .int .i64 0, .int .i64 0, .int .i64 0, .int .i64 0, .int .i64 0] 25)
  have F0 := CvF.alloc w 0 0 0 0 0 0 25
  refine (l3Draw_any C a b off n cap f _ (hC.ext E0) (hK.ext E0) hn).mono ?_
  rintro e w1 ⟨j, hj, rfl, hC1, G1⟩
  have s1 : w.heap.size < w1.heap.size := by have := G1.size; rw [World.size_alloc] at this; omega
  have F1 := F0.of_block (G1.block _ F0.lt (by unfold Cx; omega))
  have GG := (Grw.of_ext (X := Cx C) E0).trans G1
  have M1 : Mid w (w1.alloc (.cells #[.int .i64 (kP j), .int .i64 (kA j), .int .i64 (kB j), .int .i64 (kN j), .int .i64 (kX j), .int .i64 (kY j)] 25)) C w.heap.size w1.heap.size a n cap (kP j) (kA j) (kB j) (kN j) (kX j) (kY j) :=
    ⟨F1.of_block ((Ext.alloc w1 _).block _ F1.lt), CvF.alloc w1 _ _ _ _ _ _ _, hC1.ext (Ext.alloc w1 _), GG.trans (.of_ext (Ext.alloc w1 _)), Nat.le_refl _, s1, hl⟩
  have hk := kbd j
  have K1 := hK.grw M1.grw hK.ne
  clear E0 F0 G1 F1 GG hC1 hK hC
  generalize kP j = p at *
  generalize kA j = A at *
  generalize kB j = B at *
  generalize kN j = N at *
  generalize kX j = x at *
  generalize kY j = y at *
  clear hj
  go_wp2_with fail
  generalize (w1.alloc (.cells #[.int .i64 p, .int .i64 A, .int .i64 B, .int .i64 N, .int .i64 x, .int .i64 y] 25)) = W1 at *
  generalize w1.heap.size = S at *
  clear w1
  refine (l1Below_any C a b off n cap f 25 _ M1.cur K1 hn (by omega) (by omega)).mono ?_
  rintro e w2 ⟨d, rfl, d0, d1, hC2, T2⟩
  have M2 := hide (M1.touch T2 hC2)
  have K2 := K1.touch T2
  clear M1 K1 T2 hC2 W1
  have HM := M2.out
  obtain ⟨⟨⟨z0, z1, z2, z3, z4, z5⟩, fz⟩, ⟨⟨k0, k1, k2, k3, k4, k5⟩, fk⟩, -, -, hR, hS, -⟩ := HM
  by_cases c0 : d = 0
  · subst c0
    have E3 := Ext.alloc w2 (.cells #[.int .i64 0, .int .i64 3, .int .i64 101, .int .i64 105, .int .i64 1019, .int .i64 1048583, .int .i64 7] 3)
    have M3 := hide (M2.out.ext E3)
    obtain ⟨g, hg⟩ : ∃ g : Nat → Int, g = fun i => if i = 0 then 0 else if i = 1 then 3 else if i = 2 then 101 else if i = 3 then 105 else if i = 4 then 1019 else if i = 5 then 1048583 else 7 := ⟨_, rfl⟩
    have Sg := seg_lit w2 #[.int .i64 0, .int .i64 3, .int .i64 101, .int .i64 105, .int .i64 1019, .int .i64 1048583, .int .i64 7] 7 g (fun i hi => by
      rw [hg]
      have : i = 0 ∨ i = 1 ∨ i = 2 ∨ i = 3 ∨ i = 4 ∨ i = 5 ∨ i = 6 := by omega
      rcases this with rfl | rfl | rfl | rfl | rfl | rfl | rfl <;> rfl)
    have hb : ∀ i, i < 7 → 0 ≤ g i ∧ g i ≤ 2097152 := fun i hi => by
      rw [hg]
      have h : i = 0 ∨ i = 1 ∨ i = 2 ∨ i = 3 ∨ i = 4 ∨ i = 5 ∨ i = 6 := by omega
      have := hk.1.p0; have := hk.1.p1
      rcases h with rfl | rfl | rfl | rfl | rfl | rfl | rfl <;> simp <;> omega
    clear hg
    have hne : w2.heap.size ≠ C := by have := M2.out.cur.lt; omega
    go_wp2_with fail
    clear z0 z1 z2 z3 z4 z5 fz k0 k1 k2 k3 k4 k5 fk
    refine (l1PickInt_of C a b off n cap f _ w2.heap.size 0 7 _ _ _ M3.out.cur (K2.ext E3) hn Sg (by omega) (by omega) hne).mono ?_
    rintro e w3 ⟨i, hi, rfl, hC3, T3⟩
    have M4 := hide (M3.out.touch T3 hC3)
    clear M3 M2 T3 hC3 Sg E3 hne K2
    have hv := hb i hi
    generalize g i = v at *
    clear hb
    obtain ⟨⟨⟨z0, z1, z2, z3, z4, z5⟩, fz⟩, ⟨⟨k0, k1, k2, k3, k4, k5⟩, fk⟩, -, -, -, -, -⟩ := M4.out
    have M5 := hide (M4.out.turn ((Touch.refl S w3).set 0 (.int .i64 v)) (M4.out.cv.set0 v))
    go_wp2
    clear z0 z1 z2 z3 z4 z5 fz k0 k1 k2 k3 k4 k5 fk
    generalize w3.setCell ⟨S, 0, none⟩ (.int .i64 v) = W3 at *
    obtain ⟨⟨⟨z0, z1, z2, z3, z4, z5⟩, fz⟩, -, -, -, -, -, -⟩ := M5.out
    refine bodyPost_ret (v := .agg #[.int .i64 v, .int .i64 A, .int .i64 B, .int .i64 N, .int .i64 x, .int .i64 y]) (by simp [results, Tryd.results50, go_sem, z0, z1, z2, z3, z4, z5]) rfl (M5.out.done ⟨hv.1, hv.2, hk.1.a0, hk.1.a1, hk.1.b0, hk.1.b1, hk.1.n0, hk.1.n1⟩ ⟨hk.2.1.1, by omega⟩ ⟨hk.2.2.1, by omega⟩)
  by_cases c1 : d = 1
  · subst c1
    have E3 := Ext.alloc w2 (.cells #[.int .i64 (-1), .int .i64 0, .int .i64 p] 3)
    have M3 := hide (M2.out.ext E3)
    obtain ⟨g, hg⟩ : ∃ g : Nat → Int, g = fun i => if i = 0 then (-1) else if i = 1 then 0 else p := ⟨_, rfl⟩
    have Sg := seg_lit w2 #[.int .i64 (-1), .int .i64 0, .int .i64 p] 3 g (fun i hi => by
      rw [hg]
      have : i = 0 ∨ i = 1 ∨ i = 2 := by omega
      rcases this with rfl | rfl | rfl <;> rfl)
    have hb : ∀ i, i < 3 → -1 ≤ g i ∧ g i ≤ 2097152 := fun i hi => by
      rw [hg]
      have h : i = 0 ∨ i = 1 ∨ i = 2 := by omega
      have := hk.1.p0; have := hk.1.p1
      rcases h with rfl | rfl | rfl <;> simp <;> omega
    clear hg
    have hne : w2.heap.size ≠ C := by have := M2.out.cur.lt; omega
    go_wp2_with fail
    clear z0 z1 z2 z3 z4 z5 fz k0 k1 k2 k3 k4 k5 fk
    refine (l1PickInt_of C a b off n cap f _ w2.heap.size 0 3 _ _ _ M3.out.cur (K2.ext E3) hn Sg (by omega) (by omega) hne).mono ?_
    rintro e w3 ⟨i, hi, rfl, hC3, T3⟩
    have M4 := hide (M3.out.touch T3 hC3)
    clear M3 M2 T3 hC3 Sg E3 hne K2
    have hv := hb i hi
    generalize g i = v at *
    clear hb
    obtain ⟨⟨⟨z0, z1, z2, z3, z4, z5⟩, fz⟩, ⟨⟨k0, k1, k2, k3, k4, k5⟩, fk⟩, -, -, -, -, -⟩ := M4.out
    have M5 := hide (M4.out.turn ((Touch.refl S w3).set 1 (.int .i64 v)) (M4.out.cv.set1 v))
    go_wp2
    clear z0 z1 z2 z3 z4 z5 fz k0 k1 k2 k3 k4 k5 fk
    generalize w3.setCell ⟨S, 1, none⟩ (.int .i64 v) = W3 at *
    obtain ⟨⟨⟨z0, z1, z2, z3, z4, z5⟩, fz⟩, -, -, -, -, -, -⟩ := M5.out
    refine bodyPost_ret (v := .agg #[.int .i64 p, .int .i64 v, .int .i64 B, .int .i64 N, .int .i64 x, .int .i64 y]) (by simp [results, Tryd.results50, go_sem, z0, z1, z2, z3, z4, z5]) rfl (M5.out.done ⟨hk.1.p0, hk.1.p1, hv.1, hv.2, hk.1.b0, hk.1.b1, hk.1.n0, hk.1.n1⟩ ⟨hk.2.1.1, by omega⟩ ⟨hk.2.2.1, by omega⟩)
  by_cases c2 : d = 2
  · subst c2
    have E3 := Ext.alloc w2 (.cells #[.int .i64 0, .int .i64 5, .int .i64 98, .int .i64 2097169] 3)
    have M3 := hide (M2.out.ext E3)
    obtain ⟨g, hg⟩ : ∃ g : Nat → Int, g = fun i => if i = 0 then 0 else if i = 1 then 5 else if i = 2 then 98 else 2097169 := ⟨_, rfl⟩
    have Sg := seg_lit w2 #[.int .i64 0, .int .i64 5, .int .i64 98, .int .i64 2097169] 4 g (fun i hi => by
      rw [hg]
      have : i = 0 ∨ i = 1 ∨ i = 2 ∨ i = 3 := by omega
      rcases this with rfl | rfl | rfl | rfl <;> rfl)
    have hb : ∀ i, i < 4 → 0 ≤ g i ∧ g i ≤ 2097169 := fun i hi => by
      rw [hg]
      have h : i = 0 ∨ i = 1 ∨ i = 2 ∨ i = 3 := by omega
      have := hk.1.p0; have := hk.1.p1
      rcases h with rfl | rfl | rfl | rfl <;> simp <;> omega
    clear hg
    have hne : w2.heap.size ≠ C := by have := M2.out.cur.lt; omega
    go_wp2_with fail
    clear z0 z1 z2 z3 z4 z5 fz k0 k1 k2 k3 k4 k5 fk
    refine (l1PickInt_of C a b off n cap f _ w2.heap.size 0 4 _ _ _ M3.out.cur (K2.ext E3) hn Sg (by omega) (by omega) hne).mono ?_
    rintro e w3 ⟨i, hi, rfl, hC3, T3⟩
    have M4 := hide (M3.out.touch T3 hC3)
    clear M3 M2 T3 hC3 Sg E3 hne K2
    have hv := hb i hi
    generalize g i = v at *
    clear hb
    obtain ⟨⟨⟨z0, z1, z2, z3, z4, z5⟩, fz⟩, ⟨⟨k0, k1, k2, k3, k4, k5⟩, fk⟩, -, -, -, -, -⟩ := M4.out
    have M5 := hide (M4.out.turn ((Touch.refl S w3).set 3 (.int .i64 v)) (M4.out.cv.set3 v))
    go_wp2
    clear z0 z1 z2 z3 z4 z5 fz k0 k1 k2 k3 k4 k5 fk
    generalize w3.setCell ⟨S, 3, none⟩ (.int .i64 v) = W3 at *
    obtain ⟨⟨⟨z0, z1, z2, z3, z4, z5⟩, fz⟩, -, -, -, -, -, -⟩ := M5.out
    refine bodyPost_ret (v := .agg #[.int .i64 p, .int .i64 A, .int .i64 B, .int .i64 v, .int .i64 x, .int .i64 y]) (by simp [results, Tryd.results50, go_sem, z0, z1, z2, z3, z4, z5]) rfl (M5.out.done ⟨hk.1.p0, hk.1.p1, hk.1.a0, hk.1.a1, hk.1.b0, hk.1.b1, hv.1, hv.2⟩ ⟨hk.2.1.1, by omega⟩ ⟨hk.2.2.1, by omega⟩)
  by_cases c3 : d = 3
  · subst c3
    have M5 := hide (M2.out.turn ((Touch.refl S w2).set 5 (.int .i64 (y + 1))) (M2.out.cv.set5 (y + 1)))
    have hy := hk.2.2
    go_wp2
    clear z0 z1 z2 z3 z4 z5 fz k0 k1 k2 k3 k4 k5 fk
    generalize w2.setCell ⟨S, 5, none⟩ (.int .i64 (y + 1)) = W3 at *
    obtain ⟨⟨⟨z0, z1, z2, z3, z4, z5⟩, fz⟩, -, -, -, -, -, -⟩ := M5.out
    refine bodyPost_ret (v := .agg #[.int .i64 p, .int .i64 A, .int .i64 B, .int .i64 N, .int .i64 x, .int .i64 (y + 1)]) (by simp [results, Tryd.results50, go_sem, z0, z1, z2, z3, z4, z5]) rfl (M5.out.done hk.1 ⟨hk.2.1.1, by omega⟩ ⟨by omega, by omega⟩)
  by_cases c4 : d = 4
  · subst c4
    have M5 := hide (M2.out.turn (touch_putCv w2 S 7 0 0 7 0 0) (M2.out.cv.put 7 0 0 7 0 0))
    simp only [putCv] at M5
    go_wp2
    clear z0 z1 z2 z3 z4 z5 fz k0 k1 k2 k3 k4 k5 fk
    generalize ((((((w2.setCell ⟨S, 0, none⟩ (.int .i64 7)).setCell ⟨S, 1, none⟩ (.int .i64 0)).setCell ⟨S, 2, none⟩ (.int .i64 0)).setCell ⟨S, 3, none⟩ (.int .i64 7)).setCell ⟨S, 4, none⟩ (.int .i64 0)).setCell ⟨S, 5, none⟩ (.int .i64 0)) = W3 at *
    obtain ⟨⟨⟨z0, z1, z2, z3, z4, z5⟩, fz⟩, -, -, -, -, -, -⟩ := M5.out
    refine bodyPost_ret (v := .agg #[.int .i64 7, .int .i64 0, .int .i64 0, .int .i64 7, .int .i64 0, .int .i64 0]) (by simp [results, Tryd.results50, go_sem, z0, z1, z2, z3, z4, z5]) rfl (M5.out.done ⟨by omega, by omega, by omega, by omega, by omega, by omega, by omega, by omega⟩ ⟨by omega, by omega⟩ ⟨by omega, by omega⟩)
  · go_wp2
    clear z0 z1 z2 z3 z4 z5 fz k0 k1 k2 k3 k4 k5 fk
    obtain ⟨⟨⟨z0, z1, z2, z3, z4, z5⟩, fz⟩, -, -, -, -, -, -⟩ := M2.out
    refine bodyPost_ret (v := .agg #[.int .i64 p, .int .i64 A, .int .i64 B, .int .i64 N, .int .i64 x, .int .i64 y]) (by simp [results, Tryd.results50, go_sem, z0, z1, z2, z3, z4, z5]) rfl (M2.out.done hk.1 ⟨hk.2.1.1, by omega⟩ ⟨hk.2.2.1, by omega⟩)

open Go.RowKit Go.Sort

section
variable {P : Program} {ops : Array Oper} {md : Region.Mode} {Q : Exit → Act → World → Prop}

theorem anyS_sub {C C' : World → Prop} (h : ∀ w, C' w → C w) : ∀ (f : Nat) (listed : Array Bool) (a : Act) (G : World → Prop), anyS P md ops Q C' f listed a G → anyS P md ops Q C f listed a G
  | 0, _, _, _, k => k
  | f + 1, _, _, _, k => ⟨k.1, fun i hi w hw => wpOp_mono (fun a' w' ⟨G', hk, hw', hr⟩ => ⟨G', ⟨fun w2 h2 => h w2 (hk.sub w2 h2), hk.up⟩, hw', anyS_sub h f _ _ _ hr⟩) (k.2 i hi w hw)⟩

/-- From here on more is known: reads may lie in W1. -/
theorem anyK_rebase {X X' : Nat → Prop} {V W1 W : World} {listed : Array Bool} {a : Act} {f : Nat} (h : ∀ w, Grw X' W1 w → Grw X V w) (hW : Grw X' W1 W) (k : anyK P md ops Q X' W1 f listed a W) : anyK P md ops Q X V f listed a W :=
  fun _ => anyS_sub h _ _ _ _ (k hW)

end

/-- The call answers some point, and of what was there turns the cursor alone. -/
def GivesPoint (w : World) (C : Nat) (a : Option Addr) (n cap : Nat) (e : Ending) (w' : World) : Prop :=
  ∃ q : Pt, e = .returned (.agg #[.int .i64 q.x, .int .i64 q.y, .bool q.far]) ∧ Cur w' C a n cap ∧ Grw (Cx C) w w'

/-- In mid-call: the curve's block, the answer's, the point's, the cursor. -/
structure MidP (w wr : World) (C S1 : Nat) (a : Option Addr) (n cap : Nat) (p A B N x y : Int) (q : Pt) : Prop where
  cv : CvAt wr w.heap.size p A B N x y
  res : PtAt wr (w.heap.size + 1) zeroP
  pt : PtAt wr S1 q
  cur : Cur wr C a n cap
  grw : Grw (Cx C) w wr
  hS : w.heap.size + 1 < S1
  hC : C < w.heap.size

theorem CvAt.of_block {w w' : World} {C : Nat} {p A B N x y : Int} (h : CvAt w C p A B N x y) (e : w'.heap[C]? = w.heap[C]?) : CvAt w' C p A B N x y := by
  have k : ∀ q, w'.cell? ⟨C, q, none⟩ = w.cell? ⟨C, q, none⟩ := fun q => World.cell?_of_block (a := ⟨C, q, none⟩) e
  obtain ⟨c0, c1, c2, c3, c4, c5⟩ := h
  exact ⟨(k _).trans c0, (k _).trans c1, (k _).trans c2, (k _).trans c3, (k _).trans c4, (k _).trans c5⟩

section
variable {w wr w1 : World} {C S1 : Nat} {a : Option Addr} {n cap : Nat} {p A B N x y : Int} {q : Pt}

theorem MidP.grow (h : MidP w wr C S1 a n cap p A B N x y q) (g : Grw (Cx C) wr w1) (hc : Cur w1 C a n cap) : MidP w w1 C S1 a n cap p A B N x y q := by
  have h2 := h.hS; have h3 := h.hC
  exact ⟨h.cv.of_block (g.block _ (block_lt_of_cell h.cv.c0) (by unfold Cx; omega)), h.res.of_block (g.block _ h.res.lt (by unfold Cx; omega)), h.pt.of_block (g.block _ h.pt.lt (by unfold Cx; omega)), hc, h.grw.trans g, h2, h3⟩

theorem MidP.ext (h : MidP w wr C S1 a n cap p A B N x y q) (e : Ext wr w1) : MidP w w1 C S1 a n cap p A B N x y q := h.grow (.of_ext e) (h.cur.ext e)
theorem MidP.touch (h : MidP w wr C S1 a n cap p A B N x y q) (t : Touch C wr w1) (hc : Cur w1 C a n cap) : MidP w w1 C S1 a n cap p A B N x y q := h.grow (.of_touch t rfl) hc

theorem MidP.turn {q' : Pt} (h : MidP w wr C S1 a n cap p A B N x y q) (t : Touch S1 wr w1) (hp : PtAt w1 S1 q') : MidP w w1 C S1 a n cap p A B N x y q' := by
  have h2 := h.hS; have h3 := h.hC
  have hb : ∀ k, k < wr.heap.size → k ≠ S1 → w1.heap[k]? = wr.heap[k]? := fun k hk hn => t.grown.block k hk (by simp; exact hn)
  exact ⟨h.cv.of_block (hb _ (block_lt_of_cell h.cv.c0) (by omega)), h.res.of_block (hb _ h.res.lt (by omega)), hp, h.cur.of_block (hb _ h.cur.lt (by omega)), h.grw.later (below_touch (Below.refl w.heap.size wr) t (by omega)) (Nat.le_refl _), h2, h3⟩

theorem MidP.done (h : MidP w wr C S1 a n cap p A B N x y q) : GivesPoint w C a n cap (.returned (.agg #[.int .i64 q.x, .int .i64 q.y, .bool q.far])) (putPt wr (w.heap.size + 1) q) := by
  have h3 := h.hC
  refine ⟨q, rfl, h.cur.of_block ((touch_putPt wr (w.heap.size + 1) q).grown.block _ h.cur.lt (by simp; omega)), h.grw.later (below_put (Below.refl w.heap.size wr) (by omega) q) (Nat.le_refl _)⟩

end

/-- Block C, and all that came after s but g. -/
def Xg (C s g i : Nat) : Prop := i = C ∨ (s ≤ i ∧ i ≠ g)

theorem grw_rebase {C s g : Nat} {V w0 w : World} (h : Grw (Cx C) V w0) (hs : V.heap.size ≤ s) (k : Grw (Xg C s g) w0 w) : Grw (Cx C) V w :=
  ⟨k.os.trans h.os, k.tape.trans h.tape, k.output.trans h.output, Nat.le_trans h.size k.size, fun i hi hn => (k.block i (Nat.lt_of_lt_of_le hi h.size) (fun e => by
    rcases e with e | e
    · exact hn e
    · omega)).trans (h.block i hi hn)⟩

theorem midP_of {w V wr : World} {C S1 : Nat} {a : Option Addr} {n cap : Nat} {p A B N x y : Int} {q : Pt} (KV : CvAt V w.heap.size p A B N x y) (RV : PtAt V (w.heap.size + 1) zeroP) (GV : Grw (Cx C) w V) (hV : V.heap.size = w.heap.size + 2) (hl : C < w.heap.size) (HV : Grw (Cx C) V wr) (hc : Cur wr C a n cap) (ps : PtAt wr S1 q) (sS : V.heap.size ≤ S1) : MidP w wr C S1 a n cap p A B N x y q :=
  ⟨KV.of_block (HV.block _ (by omega) (by unfold Cx; omega)), RV.of_block (HV.block _ (by omega) (by unfold Cx; omega)), ps, hc, GV.trans HV, by omega, hl⟩

theorem PtAt.setX {w : World} {C : Nat} {a : Pt} (h : PtAt w C a) (v : Int) : PtAt (w.setCell ⟨C, 0, none⟩ (.int .i64 v)) C ⟨v, a.y, a.far⟩ := by
  obtain ⟨c0, c1, c2, f0, f1, f2⟩ := h
  refine ⟨?_, ?_, ?_, ?_, ?_, ?_⟩
  all_goals first | (simp [go_sem, c0, c1, c2, f0, f1, f2]; done) | skip

theorem PtAt.setY {w : World} {C : Nat} {a : Pt} (h : PtAt w C a) (v : Int) : PtAt (w.setCell ⟨C, 1, none⟩ (.int .i64 v)) C ⟨a.x, v, a.far⟩ := by
  obtain ⟨c0, c1, c2, f0, f1, f2⟩ := h
  refine ⟨?_, ?_, ?_, ?_, ?_, ?_⟩
  all_goals first | (simp [go_sem, c0, c1, c2, f0, f1, f2]; done) | skip

set_option maxHeartbeats 6400000 in
set_option maxRecDepth 100000 in
theorem l3DrawPoint_any (C : Nat) (a : Option Addr) (b off n cap : Nat) (f : Nat → Int) (p A B N x y : Int) (w : World) (hC : Cur w C a n cap) (hK : Code w C a b off n f) (hn : n ≤ 1048576) (hk : KBd p A B N) :
    Calls Tryd.prog 51 #[.pointer (some ⟨C, 0, none⟩), .agg #[.int .i64 p, .int .i64 A, .int .i64 B, .int .i64 N, .int .i64 x, .int .i64 y]] w fun e w' => GivesPoint w C a n cap e w' := by
  have hl := hC.lt
  go_enter Tryd.func51, Tryd.ntmps51
  go_wp2
  rename_i K1 hK1
  have LEAF : ∀ (g S1 : Nat) (m : Int) (q : Pt) (w1 : World), Hid (MidP w w1 C S1 a n cap p A B N x y q) → K1 ⟨#[.pointer (some ⟨C, 0, none⟩), .agg #[.int .i64 p, .int .i64 A, .int .i64 B, .int .i64 N, .int .i64 x, .int .i64 y], undef, .pointer (some ⟨w.heap.size, 0, none⟩), .pointer (some ⟨w.heap.size + 1, 0, none⟩), .pointer (some ⟨S1, 0, none⟩), .slice (some ⟨g, 0, none⟩) 3 3, .pointer (some ⟨g, 0, none⟩), .agg #[.int .i64 103, .int .i64 2, .int .i64 11, .int .i64 97, .int .i64 1, .int .i64 23], .pointer (some ⟨C, 0, none⟩), .int .i64 m, .agg #[.int .i64 1, .int .i64 23, .bool false], .agg #[.int .i64 q.x, .int .i64 q.y, .bool q.far], undef, undef, undef, undef, undef, undef, undef, undef, undef, undef, undef, undef, undef, undef, undef, undef, undef, undef, undef, undef, undef, undef, undef, undef, undef, undef, undef, undef, undef, undef, undef, undef, undef, undef, undef, undef, undef, undef, undef, undef, undef, undef, undef, undef, undef, undef, undef, undef], []⟩ w1 := by
    intro g S1 m q w1 M1
    refine hK1 _ _ ?_
    clear hK1 K1
    obtain ⟨k0, k1, k2, k3, k4, k5⟩ := M1.out.cv
    go_wp2_with fail
    clear k0 k1 k2 k3 k4 k5
    rename_i K2 hK2 K3 hK3 K4 hK4
    have LEAF2 : ∀ (v12 v13 v14 v15 v16 v17 v18 v19 v20 v21 v22 v23 v24 v25 v26 v27 v28 v29 v30 v31 v32 v33 v34 v35 v36 v37 v38 : Value) (q : Pt) (w2 : World), Hid (MidP w w2 C S1 a n cap p A B N x y q) → K2 ⟨#[.pointer (some ⟨C, 0, none⟩), .agg #[.int .i64 p, .int .i64 A, .int .i64 B, .int .i64 N, .int .i64 x, .int .i64 y], undef, .pointer (some ⟨w.heap.size, 0, none⟩), .pointer (some ⟨w.heap.size + 1, 0, none⟩), .pointer (some ⟨S1, 0, none⟩), .slice (some ⟨g, 0, none⟩) 3 3, .pointer (some ⟨g, 0, none⟩), .agg #[.int .i64 103, .int .i64 2, .int .i64 11, .int .i64 97, .int .i64 1, .int .i64 23], .pointer (some ⟨C, 0, none⟩), .int .i64 m, .agg #[.int .i64 1, .int .i64 23, .bool false], v12, v13, v14, v15, v16, v17, v18, v19, v20, v21, v22, v23, v24, v25, v26, v27, v28, v29, v30, v31, v32, v33, v34, v35, v36, v37, v38, undef, undef, undef, undef, undef, undef, undef, undef, undef, undef, undef, undef, undef, undef, undef, undef, undef, undef, undef, undef, undef, undef], []⟩ w2 := by
      clear hK4 K4 hK3 K3
      intro v12 v13 v14 v15 v16 v17 v18 v19 v20 v21 v22 v23 v24 v25 v26 v27 v28 v29 v30 v31 v32 v33 v34 v35 v36 v37 v38 q w2 M2
      refine hK2 _ _ ?_
      clear hK2 K2
      go_wp2_with fail
      refine (l1Below_any C a b off n cap f 20 _ M2.out.cur (hK.grw M2.out.grw hK.ne) hn (by omega) (by omega)).mono ?_
      rintro e w3 ⟨d, rfl, d0, d1, hC3, T3⟩
      have M3 := hide (M2.out.touch T3 hC3)
      clear M2 T3 hC3 w2
      by_cases c0 : d = 0
      · subst c0
        obtain ⟨v, hv⟩ : ∃ v, wrap64 (q.y + 1) = v := ⟨_, rfl⟩
        have hv2 : IntKind.i64.wrap (q.y + 1) = v := by rw [IntKind.wrap_i64, ← hv]; unfold wrap64; rfl
        have M5 := hide (M3.out.turn ((Touch.refl S1 w3).set 1 (.int .i64 v)) (M3.out.pt.setY v))
        obtain ⟨-, ⟨r0, r1, r2, s0, s1, s2⟩, ⟨t0, t1, t2, u0, u1, u2⟩, -, -, hS, -⟩ := M3.out
        simp only [zeroP] at r0 r1 r2
        go_wp2
        clear r0 r1 r2 s0 s1 s2 t0 t1 t2 u0 u1 u2 hS
        try rw [hv]
        generalize w3.setCell ⟨S1, 1, none⟩ (.int .i64 v) = W3 at *
        obtain ⟨-, ⟨r0, r1, r2, s0, s1, s2⟩, -, -, -, -, -⟩ := M5.out
        simp only [zeroP] at r0 r1 r2
        refine bodyPost_ret (v := .agg #[.int .i64 q.x, .int .i64 v, .bool q.far]) (by simp [results, Tryd.results51, go_sem, r0, r1, r2]) rfl M5.out.done
      by_cases c1 : d = 1
      · subst c1
        go_wp2_with fail
        refine (l1Below_any C a b off n cap f 2 _ M3.out.cur (hK.grw M3.out.grw hK.ne) hn (by omega) (by omega)).mono ?_
        rintro e w4 ⟨d, rfl, d0, d1, hC4, T4⟩
        have M4 := hide (M3.out.touch T4 hC4)
        have M5 := hide (M4.out.turn (touch_putPt w4 S1 ⟨d, 0, true⟩) (M4.out.pt.put ⟨d, 0, true⟩))
        simp only [putPt] at M5
        clear M3 T4 hC4 w3
        obtain ⟨-, ⟨r0, r1, r2, s0, s1, s2⟩, ⟨t0, t1, t2, u0, u1, u2⟩, -, -, hS, -⟩ := M4.out
        simp only [zeroP] at r0 r1 r2
        go_wp2
        clear r0 r1 r2 s0 s1 s2 t0 t1 t2 u0 u1 u2 hS
        generalize ((w4.setCell ⟨S1, 0, none⟩ (.int .i64 d)).setCell ⟨S1, 1, none⟩ (.int .i64 0)).setCell ⟨S1, 2, none⟩ (.bool true) = W3 at *
        obtain ⟨-, ⟨r0, r1, r2, s0, s1, s2⟩, -, -, -, -, -⟩ := M5.out
        simp only [zeroP] at r0 r1 r2
        refine bodyPost_ret (v := .agg #[.int .i64 d, .int .i64 0, .bool true]) (by simp [results, Tryd.results51, go_sem, r0, r1, r2]) rfl M5.out.done
      by_cases c2 : d = 2
      · subst c2
        have E3 := Ext.alloc w3 (.cells #[.int .i64 (-1), .int .i64 p, .int .i64 0] 3)
        have M4 := hide (M3.out.ext E3)
        obtain ⟨gg, hg⟩ : ∃ gg : Nat → Int, gg = fun i => if i = 0 then -1 else if i = 1 then p else 0 := ⟨_, rfl⟩
        have Sg := seg_lit w3 #[.int .i64 (-1), .int .i64 p, .int .i64 0] 3 gg (fun i hi => by
          rw [hg]
          have : i = 0 ∨ i = 1 ∨ i = 2 := by omega
          rcases this with rfl | rfl | rfl <;> rfl)
        have hne : w3.heap.size ≠ C := by have := M3.out.cur.lt; omega
        clear hg
        obtain ⟨k0, k1, k2, k3, k4, k5⟩ := M3.out.cv
        go_wp2_with fail
        clear k0 k1 k2 k3 k4 k5
        refine (l1PickInt_of C a b off n cap f _ w3.heap.size 0 3 _ _ _ M4.out.cur (hK.grw M4.out.grw hK.ne) hn Sg (by omega) (by omega) hne).mono ?_
        rintro e w4 ⟨i, hi, rfl, hC4, T4⟩
        have M6 := hide (M4.out.touch T4 hC4)
        clear M4 M3 T4 hC4 Sg E3 hne
        generalize gg i = v at *
        have M5 := hide (M6.out.turn ((Touch.refl S1 w4).set 0 (.int .i64 v)) (M6.out.pt.setX v))
        obtain ⟨-, ⟨r0, r1, r2, s0, s1, s2⟩, ⟨t0, t1, t2, u0, u1, u2⟩, -, -, hS, -⟩ := M6.out
        simp only [zeroP] at r0 r1 r2
        go_wp2
        clear r0 r1 r2 s0 s1 s2 t0 t1 t2 u0 u1 u2 hS
        generalize w4.setCell ⟨S1, 0, none⟩ (.int .i64 v) = W3 at *
        obtain ⟨-, ⟨r0, r1, r2, s0, s1, s2⟩, -, -, -, -, -⟩ := M5.out
        simp only [zeroP] at r0 r1 r2
        refine bodyPost_ret (v := .agg #[.int .i64 v, .int .i64 q.y, .bool q.far]) (by simp [results, Tryd.results51, go_sem, r0, r1, r2]) rfl M5.out.done
      · skip
        obtain ⟨-, ⟨r0, r1, r2, s0, s1, s2⟩, ⟨t0, t1, t2, u0, u1, u2⟩, -, -, hS, -⟩ := M3.out
        simp only [zeroP] at r0 r1 r2
        go_wp2
        clear r0 r1 r2 s0 s1 s2 t0 t1 t2 u0 u1 u2 hS
        obtain ⟨-, ⟨r0, r1, r2, s0, s1, s2⟩, -, -, -, -, -⟩ := M3.out
        simp only [zeroP] at r0 r1 r2
        refine bodyPost_ret (v := .agg #[.int .i64 q.x, .int .i64 q.y, .bool q.far]) (by simp [results, Tryd.results51, go_sem, r0, r1, r2]) rfl M3.out.done
    clear hK2
    replace LEAF2 := hide LEAF2
    refine (l3On_any p A B N x y x y false _ hk.p0 hk.p1 hk.a0 hk.a1 hk.b0 hk.b1).mono ?_
    rintro r w2 ⟨⟨ok, rfl, -, hb⟩, hw2⟩
    have M2 := hide (M1.out.ext hw2)
    clear M1 hw2 w1
    cases ok
    · go_wp2
      exact LEAF2.out _ _ _ _ _ _ _ _ _ _ _ _ _ _ _ _ _ _ _ _ _ _ _ _ _ _ _ q w2 M2
    replace hb := hide (hb rfl rfl)
    obtain ⟨k0, k1, k2, k3, k4, k5⟩ := M2.out.cv
    go_wp2_with fail
    clear k0 k1 k2 k3 k4 k5
    refine (l1In_int _ _ _ _).mono ?_
    rintro r w' ⟨rfl, hw⟩
    replace hw := hw.symm
    subst hw
    by_cases c : 5 ≤ p ∧ p ≤ 1048576
    rotate_left
    · rw [show (decide (5 ≤ p) && decide (p ≤ 1048576)) = false by simp; omega]
      clear c
      go_wp2
      exact LEAF2.out _ _ _ _ _ _ _ _ _ _ _ _ _ _ _ _ _ _ _ _ _ _ _ _ _ _ _ q w2 M2
    rw [show (decide (5 ≤ p) && decide (p ≤ 1048576)) = true by simp; omega]
    obtain ⟨p5, pM⟩ := c
    obtain ⟨k0, k1, k2, k3, k4, k5⟩ := M2.out.cv
    go_wp2_with fail
    clear k0 k1 k2 k3 k4 k5
    refine (specPrimeInt_any p _ (by omega)).mono ?_
    rintro r w' ⟨⟨ok, rfl, hpr⟩, hw⟩
    replace hw := hw.symm
    subst hw
    cases ok
    · clear hpr
      go_wp2
      exact LEAF2.out _ _ _ _ _ _ _ _ _ _ _ _ _ _ _ _ _ _ _ _ _ _ _ _ _ _ _ q w2 M2
    replace hpr := (hpr.1 rfl).2.2
    have ip : ((p.toNat : Nat) : Int) = p := by omega
    have HM := hide (fun (n : Nat) (hn : n ≤ 9223372036854775807) (w : World) => l3Mul_any p.toNat A B N x y n ⟨x, y, false⟩ w hpr (by omega) (by omega) hk.a0 hk.a1 ⟨hb.out.1, by rw [ip]; exact hb.out.2.1, hb.out.2.2.1, by rw [ip]; exact hb.out.2.2.2⟩ hn)
    rw [ip] at HM
    clear hpr hb ip
    go_wp2
    obtain ⟨X, hX⟩ : ∃ X : Nat → Prop, X = fun k => k = C ∨ k = S1 := ⟨_, rfl⟩
    have hS := M2.out.hS
    have hCw := M2.out.hC
    have xK : ¬ X w.heap.size := by rw [hX]; simp; omega
    have xC : X C := by rw [hX]; simp
    have xS : X S1 := by rw [hX]; simp
    clear hX
    obtain ⟨k0, k1, k2, k3, k4, k5⟩ := M2.out.cv
    have e0 := cell_reC k0 xK
    have e1 := cell_reC k1 xK
    have e2 := cell_reC k2 xK
    have e3 := cell_reC k3 xK
    have e4 := cell_reC k4 xK
    have e5 := cell_reC k5 xK
    clear k0 k1 k2 k3 k4 k5
    refine anyK_begin X 10 rfl (by kernel_rfl) ?_
    refine anyK_take 0 2 8 rfl (by decide) (by kernel_rfl) (fun _ _ d _ _ h => by cases d <;> exact h) ?_
    repeat (refine headC_step (fun K hK => ?_); go_simp; first | (refine hK _ ?_; clear hK K) | (apply Exists.intro; refine ⟨fun _ => ?_, hK _ ?_⟩; (fail); clear hK K))
    refine headC_nil ?_
    refine anyK_take 3 5 3 rfl (by decide) (by kernel_rfl) (fun _ _ d _ _ h => by cases d <;> exact h) ?_
    repeat (refine headC_step (fun K hK => ?_); go_simp; first | (refine hK _ ?_; clear hK K) | (apply Exists.intro; refine ⟨fun _ => ?_, hK _ ?_⟩; (fail); clear hK K))
    refine headC_nil ?_
    clear e0 e1 e2 e3 e4 e5
    refine anyK_one 2 (by kernel_rfl) ?_
    refine stepK_run rfl ?_
    intro w3' h3 K hKK
    go_simp
    have M3' := M2.out.ext h3
    refine (l1Below_any C a b off n cap f 200 _ M3'.cur (hK.grw M3'.grw hK.ne) hn (by omega) (by omega)).mono ?_
    rintro e w3 ⟨m3, rfl, m30, m31, hC3, T3⟩
    have M3 := hide (M3'.touch T3 hC3)
    have H3 : Grw X w2 w3 := (Grw.of_ext h3).trans (.of_touch T3 xC)
    go_simp
    refine hKK _ _ H3 ?_
    clear hKK K h3 T3 hC3 M3' w3'
    obtain ⟨m3, rfl⟩ := Int.eq_ofNat_of_zero_le m30
    obtain ⟨q3, hq3⟩ : ∃ q3, mulF p.toNat A m3 ⟨x, y, false⟩ = q3 := ⟨_, rfl⟩
    have HM3 := hide (fun w => HM.out m3 (by omega) w)
    rw [hq3] at HM3
    simp only [ptV] at HM3
    replace HM3 := hide HM3
    clear hq3 HM
    refine anyK_one 8 (by kernel_rfl) ?_
    refine stepK_run rfl ?_
    intro w4' h4 K hKK
    go_simp
    refine (HM3 _).mono ?_
    rintro e w4 ⟨rfl, hw4⟩
    replace hw4 := Ext.trans h4 hw4
    have M4 := hide (M3.out.ext hw4)
    have H4 : Grw X w2 w4 := H3.trans (.of_ext hw4)
    go_simp
    refine hKK _ _ H4 ?_
    clear hKK K h4 hw4 w4' M3 H3 HM3
    refine anyK_one 9 (by kernel_rfl) ?_
    refine stepK_run rfl ?_
    intro w5 h5 K hKK
    have M5 := hide (M4.out.ext h5)
    have H5 : Grw X w2 (putPt w5 S1 q3) := (H4.trans (.of_ext h5)).trans (.of_touch (touch_putPt w5 S1 q3) xS)
    obtain ⟨t0, t1, t2, u0, u1, u2⟩ := M5.out.pt
    go_simp
    refine hKK _ (putPt w5 S1 q3) H5 ?_
    clear hKK K t0 t1 t2 u0 u1 u2 h5 H4 M4
    have M6 := hide (M5.out.turn (touch_putPt w5 S1 q3) (M5.out.pt.put q3))
    refine anyK_done (by kernel_rfl) ?_ 0
    intro wz hz
    exact LEAF2.out _ _ _ _ _ _ _ _ _ _ _ _ _ _ _ _ _ _ _ _ _ _ _ _ _ _ _ q3 wz (hide (M6.out.ext hz))
  clear hK1
  replace LEAF := hide LEAF
  have EV : Ext w ((w.alloc (.cells #[.int .i64 p, .int .i64 A, .int .i64 B, .int .i64 N, .int .i64 x, .int .i64 y] 25)).alloc (.cells #[.int .i64 0, .int .i64 0, .bool false] 27)) := (Ext.alloc _ _).trans (Ext.alloc _ _)
  have KV : CvAt ((w.alloc (.cells #[.int .i64 p, .int .i64 A, .int .i64 B, .int .i64 N, .int .i64 x, .int .i64 y] 25)).alloc (.cells #[.int .i64 0, .int .i64 0, .bool false] 27)) w.heap.size p A B N x y := (CvAt.alloc w p A B N x y 25).of_block (Below.heap_alloc _ _ _ (by simp))
  have RV : PtAt ((w.alloc (.cells #[.int .i64 p, .int .i64 A, .int .i64 B, .int .i64 N, .int .i64 x, .int .i64 y] 25)).alloc (.cells #[.int .i64 0, .int .i64 0, .bool false] 27)) (w.heap.size + 1) zeroP := by
    have := PtAt.alloc (w.alloc (.cells #[.int .i64 p, .int .i64 A, .int .i64 B, .int .i64 N, .int .i64 x, .int .i64 y] 25)) zeroP 27
    rwa [World.size_alloc] at this
  have hVs : ((w.alloc (.cells #[.int .i64 p, .int .i64 A, .int .i64 B, .int .i64 N, .int .i64 x, .int .i64 y] 25)).alloc (.cells #[.int .i64 0, .int .i64 0, .bool false] 27)).heap.size = w.heap.size + 2 := by simp
  have hCV := hC.ext EV
  have hKV := hK.ext EV
  have GV : Grw (Cx C) w ((w.alloc (.cells #[.int .i64 p, .int .i64 A, .int .i64 B, .int .i64 N, .int .i64 x, .int .i64 y] 25)).alloc (.cells #[.int .i64 0, .int .i64 0, .bool false] 27)) := .of_ext EV
  generalize ((w.alloc (.cells #[.int .i64 p, .int .i64 A, .int .i64 B, .int .i64 N, .int .i64 x, .int .i64 y] 25)).alloc (.cells #[.int .i64 0, .int .i64 0, .bool false] 27)) = V at *
  have HVV : Grw (Cx C) V V := .refl _ _
  clear EV
  refine anyK_begin (Cx C) 9 rfl (by kernel_rfl) ?_
  refine anyK_take 3 1 8 rfl (by decide) (by kernel_rfl) (fun _ _ d _ _ h => by cases d <;> exact h) ?_
  repeat (refine headC_step (fun K hK => ?_); go_simp; first | (refine hK _ ?_; clear hK K) | (apply Exists.intro; refine ⟨fun _ => ?_, hK _ ?_⟩; (fail); clear hK K))
  refine headC_nil ?_
  refine anyK_take 5 1 7 rfl (by decide) (by kernel_rfl) (fun _ _ d _ _ h => by cases d <;> exact h) ?_
  repeat (refine headC_step (fun K hK => ?_); go_simp; first | (refine hK _ ?_; clear hK K) | (apply Exists.intro; refine ⟨fun _ => ?_, hK _ ?_⟩; (fail); clear hK K))
  refine headC_nil ?_
  refine anyK_two 0 7 (by kernel_rfl) ?_ ?_
  · skip
    refine stepK_run rfl ?_
    intro w0' h0 K hKK
    go_simp
    refine (l3Curves_any _).mono ?_
    rintro e w0 ⟨rfl, hv, hw0⟩
    have E0 : Ext V w0 := Ext.trans h0 hw0
    have HV0 : Grw (Cx C) V w0 := HVV.trans (.of_ext E0)
    have hC0 := hCV.ext E0
    have hK0 := hKV.ext E0
    have HG := hv 0 (by omega)
    have sg : V.heap.size ≤ w0'.heap.size := Nat.le_trans HVV.size (Below.size h0)
    go_simp
    refine hKK _ _ HV0 ?_
    clear hKK K hv hw0 E0 HVV hCV hKV
    generalize w0'.heap.size = g at *
    clear h0 w0'
    have H0 : Grw (Cx C) w0 w0 := .refl _ _
    have xg : ¬ Xg C V.heap.size g g := by rintro (h | h) <;> omega
    refine anyK_rebase (X' := Xg C V.heap.size g) (W1 := w0) (fun _ h => grw_rebase HV0 (Nat.le_refl _) h) (.refl _ _) ?_
    have e0 := cell_reC (show w0.cell? ⟨g, 0, none⟩ = some (.int .i64 103) from HG.c0) xg
    have e1 := cell_reC (show w0.cell? ⟨g, 1, none⟩ = some (.int .i64 2) from HG.c1) xg
    have e2 := cell_reC (show w0.cell? ⟨g, 2, none⟩ = some (.int .i64 11) from HG.c2) xg
    have e3 := cell_reC (show w0.cell? ⟨g, 3, none⟩ = some (.int .i64 97) from HG.c3) xg
    have e4 := cell_reC (show w0.cell? ⟨g, 4, none⟩ = some (.int .i64 1) from HG.c4) xg
    have e5 := cell_reC (show w0.cell? ⟨g, 5, none⟩ = some (.int .i64 23) from HG.c5) xg
    refine anyK_take 1 2 4 rfl (by decide) (by kernel_rfl) (fun _ _ d _ _ h => by cases d <;> exact h) ?_
    repeat (refine headC_step (fun K hK => ?_); go_simp; first | (refine hK _ ?_; clear hK K) | (apply Exists.intro; refine ⟨fun _ => ?_, hK _ ?_⟩; (fail); clear hK K))
    refine headC_nil ?_
    clear e0 e1 e2 e3 e4 e5 xg
    refine anyK_two 4 7 (by kernel_rfl) ?_ ?_
    · skip
      refine stepK_run rfl ?_
      intro wn1' hn1 K hKK
      go_simp
      refine (l1Below_any C a b off n cap f 97 _ (hC0.ext hn1) (hK0.ext hn1) hn (by omega) (by omega)).mono ?_
      rintro e wn1 ⟨m, rfl, m0, m1, hCn1, Tn1⟩
      have HVn1 : Grw (Cx C) V wn1 := (HV0.trans (.of_ext hn1)).trans (.of_touch Tn1 rfl)
      have Hn1 : Grw (Cx C) w0 wn1 := (H0.trans (.of_ext hn1)).trans (.of_touch Tn1 rfl)
      have hKn1 := (hK0.ext hn1).touch Tn1
      go_simp
      refine hKK _ _ (Hn1.mono (by rintro k rfl; exact .inl rfl)) ?_
      clear hKK K hn1 Tn1 HV0 hC0 hK0 H0 wn1'
      refine anyK_two 6 7 (by kernel_rfl) ?_ ?_
      · skip
        obtain ⟨q, hq⟩ : ∃ q, mulF 103 2 m.toNat ⟨1, 23, false⟩ = q := ⟨_, rfl⟩
        have HM := fun w => l3Mul_ok crv0 crv0.g m m0 (by omega) w
        simp only [ptV, show (103 : Int).toNat = 103 from rfl, hq] at HM
        replace HM := hide HM
        clear hq
        refine stepK_run rfl ?_
        intro wn2' hn2 K hKK
        go_simp
        refine (HM.out _).mono ?_
        rintro e wn2 ⟨rfl, hwn2⟩
        replace hwn2 := Ext.trans hn2 hwn2
        have HVn2 : Grw (Cx C) V wn2 := HVn1.trans (.of_ext hwn2)
        have hCn2 := hCn1.ext hwn2
        have hKn2 := hKn1.ext hwn2
        have Hn2 : Grw (Cx C) w0 wn2 := Hn1.trans (.of_ext hwn2)
        go_simp
        refine hKK _ _ (Hn2.mono (by rintro k rfl; exact .inl rfl)) ?_
        clear hKK K hn2 hwn2 HVn1 hCn1 hKn1 Hn1 wn2' HM
        refine anyK_one 7 (by kernel_rfl) ?_
        refine stepK_run rfl ?_
        intro wn3' hn3 K hKK
        go_simp
        have En3 := Ext.trans hn3 (Ext.alloc wn3' (.cells #[.int .i64 0, .int .i64 0, .bool false] 27))
        have PSn3 : PtAt (wn3'.alloc (.cells #[.int .i64 0, .int .i64 0, .bool false] 27)) wn3'.heap.size zeroP := PtAt.alloc wn3' zeroP 27
        have sS : V.heap.size ≤ wn3'.heap.size := Nat.le_trans HVn2.size (Below.size hn3)
        have gS : wn3'.heap.size ≠ g := by have := HG.lt; have := Hn2.size; have := Below.size hn3; omega
        generalize wn3'.alloc (.cells #[.int .i64 0, .int .i64 0, .bool false] 27) = wn3 at *
        have HVn3 : Grw (Cx C) V wn3 := HVn2.trans (.of_ext En3)
        have hCn3 := hCn2.ext En3
        have hKn3 := hKn2.ext En3
        have Hn3 : Grw (Cx C) w0 wn3 := Hn2.trans (.of_ext En3)
        refine hKK _ _ (Hn3.mono (by rintro k rfl; exact .inl rfl)) ?_
        clear hKK K hn3 En3 HVn2 hCn2 hKn2 Hn2
        generalize wn3'.heap.size = S1 at *
        clear wn3'
        refine anyK_one 8 (by kernel_rfl) ?_
        refine stepK_run rfl ?_
        intro wn4 hn4 K hKK
        have HVn4 : Grw (Cx C) V wn4 := HVn3.trans (.of_ext hn4)
        have hCn4 := hCn3.ext hn4
        have hKn4 := hKn3.ext hn4
        have PSn4 := PSn3.of_block (hn4.block _ PSn3.lt)
        have Hn4 : Grw (Cx C) w0 wn4 := Hn3.trans (.of_ext hn4)
        have HQ : Grw (Xg C V.heap.size g) w0 (putPt wn4 S1 q) := (Hn4.mono (by rintro k rfl; exact .inl rfl)).trans (.of_touch (touch_putPt wn4 S1 q) (.inr ⟨sS, gS⟩))
        have M8 := hide (midP_of KV RV GV hVs hl HVn4 hCn4 PSn4 sS)
        have M9 := hide (M8.out.turn (touch_putPt wn4 S1 q) (M8.out.pt.put q))
        obtain ⟨t0, t1, t2, u0, u1, u2⟩ := PSn4
        simp only [zeroP] at t0 t1 t2
        go_simp
        refine hKK _ (putPt wn4 S1 q) HQ ?_
        clear hKK K t0 t1 t2 u0 u1 u2
        refine anyK_done (by kernel_rfl) ?_ 0
        intro wz hz
        exact LEAF.out g S1 m q wz (hide (M9.out.ext hz))
      · skip
        refine stepK_run rfl ?_
        intro wn5' hn5 K hKK
        go_simp
        have En5 := Ext.trans hn5 (Ext.alloc wn5' (.cells #[.int .i64 0, .int .i64 0, .bool false] 27))
        have PSn5 : PtAt (wn5'.alloc (.cells #[.int .i64 0, .int .i64 0, .bool false] 27)) wn5'.heap.size zeroP := PtAt.alloc wn5' zeroP 27
        have sS : V.heap.size ≤ wn5'.heap.size := Nat.le_trans HVn1.size (Below.size hn5)
        have gS : wn5'.heap.size ≠ g := by have := HG.lt; have := Hn1.size; have := Below.size hn5; omega
        generalize wn5'.alloc (.cells #[.int .i64 0, .int .i64 0, .bool false] 27) = wn5 at *
        have HVn5 : Grw (Cx C) V wn5 := HVn1.trans (.of_ext En5)
        have hCn5 := hCn1.ext En5
        have hKn5 := hKn1.ext En5
        have Hn5 : Grw (Cx C) w0 wn5 := Hn1.trans (.of_ext En5)
        refine hKK _ _ (Hn5.mono (by rintro k rfl; exact .inl rfl)) ?_
        clear hKK K hn5 En5 HVn1 hCn1 hKn1 Hn1
        generalize wn5'.heap.size = S1 at *
        clear wn5'
        refine anyK_one 6 (by kernel_rfl) ?_
        obtain ⟨q, hq⟩ : ∃ q, mulF 103 2 m.toNat ⟨1, 23, false⟩ = q := ⟨_, rfl⟩
        have HM := fun w => l3Mul_ok crv0 crv0.g m m0 (by omega) w
        simp only [ptV, show (103 : Int).toNat = 103 from rfl, hq] at HM
        replace HM := hide HM
        clear hq
        refine stepK_run rfl ?_
        intro wn6' hn6 K hKK
        go_simp
        refine (HM.out _).mono ?_
        rintro e wn6 ⟨rfl, hwn6⟩
        replace hwn6 := Ext.trans hn6 hwn6
        have HVn6 : Grw (Cx C) V wn6 := HVn5.trans (.of_ext hwn6)
        have hCn6 := hCn5.ext hwn6
        have hKn6 := hKn5.ext hwn6
        have PSn6 := PSn5.of_block (hwn6.block _ PSn5.lt)
        have Hn6 : Grw (Cx C) w0 wn6 := Hn5.trans (.of_ext hwn6)
        go_simp
        refine hKK _ _ (Hn6.mono (by rintro k rfl; exact .inl rfl)) ?_
        clear hKK K hn6 hwn6 HVn5 hCn5 hKn5 PSn5 Hn5 wn6' HM
        refine anyK_one 8 (by kernel_rfl) ?_
        refine stepK_run rfl ?_
        intro wn7 hn7 K hKK
        have HVn7 : Grw (Cx C) V wn7 := HVn6.trans (.of_ext hn7)
        have hCn7 := hCn6.ext hn7
        have hKn7 := hKn6.ext hn7
        have PSn7 := PSn6.of_block (hn7.block _ PSn6.lt)
        have Hn7 : Grw (Cx C) w0 wn7 := Hn6.trans (.of_ext hn7)
        have HQ : Grw (Xg C V.heap.size g) w0 (putPt wn7 S1 q) := (Hn7.mono (by rintro k rfl; exact .inl rfl)).trans (.of_touch (touch_putPt wn7 S1 q) (.inr ⟨sS, gS⟩))
        have M8 := hide (midP_of KV RV GV hVs hl HVn7 hCn7 PSn7 sS)
        have M9 := hide (M8.out.turn (touch_putPt wn7 S1 q) (M8.out.pt.put q))
        obtain ⟨t0, t1, t2, u0, u1, u2⟩ := PSn7
        simp only [zeroP] at t0 t1 t2
        go_simp
        refine hKK _ (putPt wn7 S1 q) HQ ?_
        clear hKK K t0 t1 t2 u0 u1 u2
        refine anyK_done (by kernel_rfl) ?_ 0
        intro wz hz
        exact LEAF.out g S1 m q wz (hide (M9.out.ext hz))
    · skip
      refine stepK_run rfl ?_
      intro wn8' hn8 K hKK
      go_simp
      have En8 := Ext.trans hn8 (Ext.alloc wn8' (.cells #[.int .i64 0, .int .i64 0, .bool false] 27))
      have PSn8 : PtAt (wn8'.alloc (.cells #[.int .i64 0, .int .i64 0, .bool false] 27)) wn8'.heap.size zeroP := PtAt.alloc wn8' zeroP 27
      have sS : V.heap.size ≤ wn8'.heap.size := Nat.le_trans HV0.size (Below.size hn8)
      have gS : wn8'.heap.size ≠ g := by have := HG.lt; have := H0.size; have := Below.size hn8; omega
      generalize wn8'.alloc (.cells #[.int .i64 0, .int .i64 0, .bool false] 27) = wn8 at *
      have HVn8 : Grw (Cx C) V wn8 := HV0.trans (.of_ext En8)
      have hCn8 := hC0.ext En8
      have hKn8 := hK0.ext En8
      have Hn8 : Grw (Cx C) w0 wn8 := H0.trans (.of_ext En8)
      refine hKK _ _ (Hn8.mono (by rintro k rfl; exact .inl rfl)) ?_
      clear hKK K hn8 En8 HV0 hC0 hK0 H0
      generalize wn8'.heap.size = S1 at *
      clear wn8'
      refine anyK_one 4 (by kernel_rfl) ?_
      refine stepK_run rfl ?_
      intro wn9' hn9 K hKK
      go_simp
      refine (l1Below_any C a b off n cap f 97 _ (hCn8.ext hn9) (hKn8.ext hn9) hn (by omega) (by omega)).mono ?_
      rintro e wn9 ⟨m, rfl, m0, m1, hCn9, Tn9⟩
      have HVn9 : Grw (Cx C) V wn9 := (HVn8.trans (.of_ext hn9)).trans (.of_touch Tn9 rfl)
      have Hn9 : Grw (Cx C) w0 wn9 := (Hn8.trans (.of_ext hn9)).trans (.of_touch Tn9 rfl)
      have hKn9 := (hKn8.ext hn9).touch Tn9
      have PSn9 := (PSn8.of_block (hn9.block _ PSn8.lt)).of_block (Tn9.grown.block _ (PSn8.of_block (hn9.block _ PSn8.lt)).lt (by simp; omega))
      go_simp
      refine hKK _ _ (Hn9.mono (by rintro k rfl; exact .inl rfl)) ?_
      clear hKK K hn9 Tn9 HVn8 hCn8 hKn8 PSn8 Hn8 wn9'
      refine anyK_one 6 (by kernel_rfl) ?_
      obtain ⟨q, hq⟩ : ∃ q, mulF 103 2 m.toNat ⟨1, 23, false⟩ = q := ⟨_, rfl⟩
      have HM := fun w => l3Mul_ok crv0 crv0.g m m0 (by omega) w
      simp only [ptV, show (103 : Int).toNat = 103 from rfl, hq] at HM
      replace HM := hide HM
      clear hq
      refine stepK_run rfl ?_
      intro wn10' hn10 K hKK
      go_simp
      refine (HM.out _).mono ?_
      rintro e wn10 ⟨rfl, hwn10⟩
      replace hwn10 := Ext.trans hn10 hwn10
      have HVn10 : Grw (Cx C) V wn10 := HVn9.trans (.of_ext hwn10)
      have hCn10 := hCn9.ext hwn10
      have hKn10 := hKn9.ext hwn10
      have PSn10 := PSn9.of_block (hwn10.block _ PSn9.lt)
      have Hn10 : Grw (Cx C) w0 wn10 := Hn9.trans (.of_ext hwn10)
      go_simp
      refine hKK _ _ (Hn10.mono (by rintro k rfl; exact .inl rfl)) ?_
      clear hKK K hn10 hwn10 HVn9 hCn9 hKn9 PSn9 Hn9 wn10' HM
      refine anyK_one 8 (by kernel_rfl) ?_
      refine stepK_run rfl ?_
      intro wn11 hn11 K hKK
      have HVn11 : Grw (Cx C) V wn11 := HVn10.trans (.of_ext hn11)
      have hCn11 := hCn10.ext hn11
      have hKn11 := hKn10.ext hn11
      have PSn11 := PSn10.of_block (hn11.block _ PSn10.lt)
      have Hn11 : Grw (Cx C) w0 wn11 := Hn10.trans (.of_ext hn11)
      have HQ : Grw (Xg C V.heap.size g) w0 (putPt wn11 S1 q) := (Hn11.mono (by rintro k rfl; exact .inl rfl)).trans (.of_touch (touch_putPt wn11 S1 q) (.inr ⟨sS, gS⟩))
      have M8 := hide (midP_of KV RV GV hVs hl HVn11 hCn11 PSn11 sS)
      have M9 := hide (M8.out.turn (touch_putPt wn11 S1 q) (M8.out.pt.put q))
      obtain ⟨t0, t1, t2, u0, u1, u2⟩ := PSn11
      simp only [zeroP] at t0 t1 t2
      go_simp
      refine hKK _ (putPt wn11 S1 q) HQ ?_
      clear hKK K t0 t1 t2 u0 u1 u2
      refine anyK_done (by kernel_rfl) ?_ 0
      intro wz hz
      exact LEAF.out g S1 m q wz (hide (M9.out.ext hz))
  · skip
    refine stepK_run rfl ?_
    intro wn12' hn12 K hKK
    go_simp
    have En12 := Ext.trans hn12 (Ext.alloc wn12' (.cells #[.int .i64 0, .int .i64 0, .bool false] 27))
    have PSn12 : PtAt (wn12'.alloc (.cells #[.int .i64 0, .int .i64 0, .bool false] 27)) wn12'.heap.size zeroP := PtAt.alloc wn12' zeroP 27
    have sS : V.heap.size ≤ wn12'.heap.size := Nat.le_trans HVV.size (Below.size hn12)
    generalize wn12'.alloc (.cells #[.int .i64 0, .int .i64 0, .bool false] 27) = wn12 at *
    have HVn12 : Grw (Cx C) V wn12 := HVV.trans (.of_ext En12)
    have hCn12 := hCV.ext En12
    have hKn12 := hKV.ext En12
    refine hKK _ _ HVn12 ?_
    clear hKK K hn12 En12 HVV hCV hKV
    generalize wn12'.heap.size = S1 at *
    clear wn12'
    refine anyK_one 0 (by kernel_rfl) ?_
    refine stepK_run rfl ?_
    intro w0' h0 K hKK
    go_simp
    refine (l3Curves_any _).mono ?_
    rintro e w0 ⟨rfl, hv, hw0⟩
    have E0 : Ext wn12 w0 := Ext.trans h0 hw0
    have HV0 : Grw (Cx C) V w0 := HVn12.trans (.of_ext E0)
    have hC0 := hCn12.ext E0
    have hK0 := hKn12.ext E0
    have PS0 := PSn12.of_block (E0.block _ PSn12.lt)
    have HG := hv 0 (by omega)
    have sg : V.heap.size ≤ w0'.heap.size := Nat.le_trans HVn12.size (Below.size h0)
    have gS : S1 ≠ w0'.heap.size := by have := PSn12.lt; have := Below.size h0; omega
    go_simp
    refine hKK _ _ HV0 ?_
    clear hKK K hv hw0 E0 HVn12 hCn12 hKn12 PSn12
    generalize w0'.heap.size = g at *
    clear h0 w0'
    have H0 : Grw (Cx C) w0 w0 := .refl _ _
    have xg : ¬ Xg C V.heap.size g g := by rintro (h | h) <;> omega
    refine anyK_rebase (X' := Xg C V.heap.size g) (W1 := w0) (fun _ h => grw_rebase HV0 (Nat.le_refl _) h) (.refl _ _) ?_
    have e0 := cell_reC (show w0.cell? ⟨g, 0, none⟩ = some (.int .i64 103) from HG.c0) xg
    have e1 := cell_reC (show w0.cell? ⟨g, 1, none⟩ = some (.int .i64 2) from HG.c1) xg
    have e2 := cell_reC (show w0.cell? ⟨g, 2, none⟩ = some (.int .i64 11) from HG.c2) xg
    have e3 := cell_reC (show w0.cell? ⟨g, 3, none⟩ = some (.int .i64 97) from HG.c3) xg
    have e4 := cell_reC (show w0.cell? ⟨g, 4, none⟩ = some (.int .i64 1) from HG.c4) xg
    have e5 := cell_reC (show w0.cell? ⟨g, 5, none⟩ = some (.int .i64 23) from HG.c5) xg
    refine anyK_take 1 2 3 rfl (by decide) (by kernel_rfl) (fun _ _ d _ _ h => by cases d <;> exact h) ?_
    repeat (refine headC_step (fun K hK => ?_); go_simp; first | (refine hK _ ?_; clear hK K) | (apply Exists.intro; refine ⟨fun _ => ?_, hK _ ?_⟩; (fail); clear hK K))
    refine headC_nil ?_
    clear e0 e1 e2 e3 e4 e5 xg
    refine anyK_one 4 (by kernel_rfl) ?_
    refine stepK_run rfl ?_
    intro wn13' hn13 K hKK
    go_simp
    refine (l1Below_any C a b off n cap f 97 _ (hC0.ext hn13) (hK0.ext hn13) hn (by omega) (by omega)).mono ?_
    rintro e wn13 ⟨m, rfl, m0, m1, hCn13, Tn13⟩
    have HVn13 : Grw (Cx C) V wn13 := (HV0.trans (.of_ext hn13)).trans (.of_touch Tn13 rfl)
    have Hn13 : Grw (Cx C) w0 wn13 := (H0.trans (.of_ext hn13)).trans (.of_touch Tn13 rfl)
    have hKn13 := (hK0.ext hn13).touch Tn13
    have PSn13 := (PS0.of_block (hn13.block _ PS0.lt)).of_block (Tn13.grown.block _ (PS0.of_block (hn13.block _ PS0.lt)).lt (by simp; omega))
    go_simp
    refine hKK _ _ (Hn13.mono (by rintro k rfl; exact .inl rfl)) ?_
    clear hKK K hn13 Tn13 HV0 hC0 hK0 PS0 H0 wn13'
    refine anyK_one 6 (by kernel_rfl) ?_
    obtain ⟨q, hq⟩ : ∃ q, mulF 103 2 m.toNat ⟨1, 23, false⟩ = q := ⟨_, rfl⟩
    have HM := fun w => l3Mul_ok crv0 crv0.g m m0 (by omega) w
    simp only [ptV, show (103 : Int).toNat = 103 from rfl, hq] at HM
    replace HM := hide HM
    clear hq
    refine stepK_run rfl ?_
    intro wn14' hn14 K hKK
    go_simp
    refine (HM.out _).mono ?_
    rintro e wn14 ⟨rfl, hwn14⟩
    replace hwn14 := Ext.trans hn14 hwn14
    have HVn14 : Grw (Cx C) V wn14 := HVn13.trans (.of_ext hwn14)
    have hCn14 := hCn13.ext hwn14
    have hKn14 := hKn13.ext hwn14
    have PSn14 := PSn13.of_block (hwn14.block _ PSn13.lt)
    have Hn14 : Grw (Cx C) w0 wn14 := Hn13.trans (.of_ext hwn14)
    go_simp
    refine hKK _ _ (Hn14.mono (by rintro k rfl; exact .inl rfl)) ?_
    clear hKK K hn14 hwn14 HVn13 hCn13 hKn13 PSn13 Hn13 wn14' HM
    refine anyK_one 8 (by kernel_rfl) ?_
    refine stepK_run rfl ?_
    intro wn15 hn15 K hKK
    have HVn15 : Grw (Cx C) V wn15 := HVn14.trans (.of_ext hn15)
    have hCn15 := hCn14.ext hn15
    have hKn15 := hKn14.ext hn15
    have PSn15 := PSn14.of_block (hn15.block _ PSn14.lt)
    have Hn15 : Grw (Cx C) w0 wn15 := Hn14.trans (.of_ext hn15)
    have HQ : Grw (Xg C V.heap.size g) w0 (putPt wn15 S1 q) := (Hn15.mono (by rintro k rfl; exact .inl rfl)).trans (.of_touch (touch_putPt wn15 S1 q) (.inr ⟨sS, gS⟩))
    have M8 := hide (midP_of KV RV GV hVs hl HVn15 hCn15 PSn15 sS)
    have M9 := hide (M8.out.turn (touch_putPt wn15 S1 q) (M8.out.pt.put q))
    obtain ⟨t0, t1, t2, u0, u1, u2⟩ := PSn15
    simp only [zeroP] at t0 t1 t2
    go_simp
    refine hKK _ (putPt wn15 S1 q) HQ ?_
    clear hKK K t0 t1 t2 u0 u1 u2
    refine anyK_done (by kernel_rfl) ?_ 0
    intro wz hz
    exact LEAF.out g S1 m q wz (hide (M9.out.ext hz))

open Go.RowKit Go.Sort

/-- Some curve, its numbers small, and some few bytes. -/
def GivesDraw (w : World) (e : Ending) (w' : World) : Prop :=
  ∃ p A B N x y a g o m cap F, e = .returned (.tuple #[.agg #[.int .i64 p, .int .i64 A, .int .i64 B, .int .i64 N, .int .i64 x, .int .i64 y], .slice a m cap]) ∧ KBd p A B N ∧ BSeg w' a g o m F ∧ (∀ i, i < m → 0 ≤ F i ∧ F i ≤ 255) ∧ m ≤ 8 ∧ m ≤ cap ∧ Below w.heap.size w w' ∧ (0 < m → w.heap.size ≤ g)

/-- In mid-call: the answer's block, the cursor, the curve's block. -/
structure MidR (w wr : World) (C S : Nat) (a : Option Addr) (b off n cap : Nat) (f : Nat → Int) (p A B N x y : Int) : Prop where
  res : CvF wr w.heap.size 0 0 0 0 0 0
  cv : CvF wr S p A B N x y
  cur : Cur wr C a n cap
  code : Code wr C a b off n f
  below : Below w.heap.size w wr
  hC : w.heap.size < C
  hS : C < S
  hb : 0 < n → b < w.heap.size

section
variable {w wr w1 : World} {C S : Nat} {a : Option Addr} {b off n cap : Nat} {f : Nat → Int} {p A B N x y : Int}

theorem MidR.grow {X : Nat → Prop} (h : MidR w wr C S a b off n cap f p A B N x y) (g : Grw X wr w1) (hX : ∀ k, k ≤ S → k ≠ C → ¬ X k) (hc : Cur w1 C a n cap) : MidR w w1 C S a b off n cap f p A B N x y := by
  have h1 := h.hC; have h2 := h.hS; have h3 := h.hb
  exact ⟨h.res.of_block (g.block _ h.res.lt (hX _ (by omega) (by omega))), h.cv.of_block (g.block _ h.cv.lt (hX _ (by omega) (by omega))), hc, h.code.grw g (fun hn => hX _ (by have := h3 hn; omega) (by have := h3 hn; omega)), h.below.trans (g.below (fun k hk => hX k (by omega) (by omega)) h.below.size), h1, h2, h3⟩

theorem MidR.ext (h : MidR w wr C S a b off n cap f p A B N x y) (e : Ext wr w1) : MidR w w1 C S a b off n cap f p A B N x y := h.grow (X := fun _ => False) (.of_ext e) (fun _ _ _ k => k) (h.cur.ext e)
theorem MidR.grwC (h : MidR w wr C S a b off n cap f p A B N x y) (g : Grw (Cx C) wr w1) (hc : Cur w1 C a n cap) : MidR w w1 C S a b off n cap f p A B N x y := h.grow g (fun _ _ hn e => hn e) hc
theorem MidR.touch (h : MidR w wr C S a b off n cap f p A B N x y) (t : Touch C wr w1) (hc : Cur w1 C a n cap) : MidR w w1 C S a b off n cap f p A B N x y := h.grwC (.of_touch t rfl) hc
theorem MidR.turn {g : Nat} (h : MidR w wr C S a b off n cap f p A B N x y) (t : Touch g wr w1) (hg : S < g) : MidR w w1 C S a b off n cap f p A B N x y := by
  have h2 := h.hS
  refine h.grow (X := fun k => k = g) (.of_touch t rfl) (fun k hk _ e => by omega) (h.cur.of_block (t.grown.block _ h.cur.lt (by simp; omega)))

theorem MidR.done (h : MidR w wr C S a b off n cap f p A B N x y) {a' : Option Addr} {g o m cap' : Nat} {F : Nat → Int} (hk : KBd p A B N) (hs : BSeg wr a' g o m F) (hg : 0 < m → S < g) (hr : ∀ i, i < m → 0 ≤ F i ∧ F i ≤ 255) (hm : m ≤ 8) (hc : m ≤ cap') :
    GivesDraw w (.returned (.tuple #[.agg #[.int .i64 p, .int .i64 A, .int .i64 B, .int .i64 N, .int .i64 x, .int .i64 y], .slice a' m cap'])) (putCv wr w.heap.size p A B N x y) := by
  have h1 := h.hC; have h2 := h.hS
  exact ⟨p, A, B, N, x, y, a', g, o, m, cap', F, rfl, hk, hs.touch (touch_putCv wr w.heap.size p A B N x y) (fun hm => by have := hg hm; omega), hr, hm, hc, below_putCv h.below (Nat.le_refl _) _ _ _ _ _ _, fun hm => by have := hg hm; omega⟩

end

theorem MidR.appended {w wr w4 : World} {C S : Nat} {a : Option Addr} {b off n cap : Nat} {f : Nat → Int} {p A B N x y : Int} {o : Obj} {g : Nat} (h : MidR w wr C S a b off n cap f p A B N x y) (hg : (wr.alloc o).grownBy w4 (some g)) (hS : S < g) : MidR w w4 C S a b off n cap f p A B N x y := by
  have h2 := h.hS
  have k := h.ext (Ext.alloc wr o)
  exact k.grow (X := fun i => i = g) ⟨hg.os, hg.tape, hg.output, hg.size, fun i hi hn => hg.block i hi (by simp; exact hn)⟩ (fun i hi _ e => by omega) (k.cur.of_block (hg.block _ k.cur.lt (by simp; omega)))

theorem byts_app (F : Nat → Int) (m : Nat) (x : Int) : byts F m ++ [.int .u8 x] = byts (fun i => if i = m then x else F i) (m + 1) := by
  rw [byts_succ]
  congr 1
  · unfold byts
    refine List.map_congr_left (fun i hi => ?_)
    have := List.mem_range.1 hi
    simp [show i ≠ m by omega]
  · simp

/-- What lies from base on is kept. -/
theorem owns_keep {w w' : World} {base n : Nat} {v : Value} {xs : List Value} (h : w.ownsRow base 5 1 v n xs) (hk : ∀ k, base ≤ k → k < w.heap.size → w'.heap[k]? = w.heap[k]?) : w'.ownsRow base 5 1 v n xs := by
  refine ⟨h.1, ?_⟩
  rcases h.2 with hn | ⟨g, cap, cur, hv, hb, hg, rest⟩
  · exact .inl hn
  · exact .inr ⟨g, cap, cur, hv, hb, by rw [hk g hb (by
      rcases Nat.lt_or_ge g w.heap.size with k | k
      · exact k
      · rw [Array.getElem?_eq_none k] at hg; cases hg)]; exact hg, rest⟩

theorem bone_cell' (x : Int) : ∀ u ∈ [Value.int .u8 x], u.oneCell' = true := by
  intro u hu
  simp at hu
  subst hu
  rfl

theorem seg_lit8 (w : World) (xs : Array Value) (m : Nat) (g : Nat → Int) (h : ∀ i, i < m → xs[i]? = some (.int .u8 (g i))) : BSeg (w.alloc (.cells xs 5)) (some ⟨w.heap.size, 0, none⟩) w.heap.size 0 m g :=
  ⟨fun _ => rfl, fun i hi => by rw [Nat.zero_add]; exact (World.cell?_alloc_at _ _ _ _ rfl).trans (h i hi)⟩

theorem ptByte_range {P A B N gx gy : Int} {q : Pt} (hc : CvOk P A B N gx gy) (ha : On P.toNat A B q) (sh : Bool) (i : Nat) : 0 ≤ ptByte q sh i ∧ ptByte q sh i ≤ 255 := by
  obtain ⟨⟨x0, x1⟩, y0, y1⟩ := on_range hc ha
  unfold ptByte xb
  repeat' split
  all_goals omega

set_option maxHeartbeats 6400000 in
set_option maxRecDepth 100000 in
theorem drawPointRead_any (a : Option Addr) (b off n cap : Nat) (f : Nat → Int) (w : World) (hs : BSeg w a b off n f) (hB : ∀ i, i < n → 0 ≤ f i ∧ f i ≤ 255) (hn : n ≤ 1048576) :
    Calls Tryd.prog 13 #[.slice a n cap] w fun e w' => GivesDraw w e w' := by
  go_enter Tryd.func13, Tryd.ntmps13
  go_wp2_with fail
  have E0 := Ext.alloc w (.cells #[.int .i64 0, .int .i64 0, .int .i64 0, .int .i64 0, .int .i64 0, .int .i64 0] 25)
  have F0 := CvF.alloc w 0 0 0 0 0 0 25
  refine (l1New_any a b off n cap f _ (hs.of_all E0) hB hn).mono ?_
  rintro e w1 ⟨rfl, hC1, sz1, hw1⟩
  have F1 := F0.of_block (hw1.block _ F0.lt)
  have E1 : Ext w w1 := E0.trans hw1
  simp only [World.size_alloc] at hC1 sz1
  have hK1 : Code w1 (w.heap.size + 1) a b off n f := ⟨hs.of_all E1, hB, fun h => by have := hs.lt h; omega⟩
  clear E0 F0 hw1
  generalize hCn : w.heap.size + 1 = C at *
  go_wp2_with fail
  show Calls Tryd.prog 50 #[.pointer (some ⟨C, 0, none⟩)] w1 _
  refine (l3DrawAny_any C a b off n cap f _ hC1 hK1 hn).mono ?_
  rintro e w2 ⟨p, A, B, N, x, y, rfl, hk, hx, hy, hC2, G2⟩
  have F2 := F1.of_block (G2.block _ F1.lt (by unfold Cx; omega))
  have M2 : Hid (MidR w (w2.alloc (.cells #[.int .i64 p, .int .i64 A, .int .i64 B, .int .i64 N, .int .i64 x, .int .i64 y] 25)) C w2.heap.size a b off n cap f p A B N x y) := ⟨F2.of_block ((Ext.alloc w2 _).block _ F2.lt), CvF.alloc w2 p A B N x y _, hC2.ext (Ext.alloc w2 _), (hK1.grw G2 hK1.ne).ext (Ext.alloc w2 _), (Below.trans E1 ((G2.below (fun k hk => by unfold Cx; omega) (Below.size E1)))).trans ((show Below w2.heap.size w2 _ from Ext.alloc w2 _).mono (by have := G2.size; have := Below.size E1; omega)), by omega, by have := G2.size; omega, fun h => hs.lt h⟩
  clear F1 F2 G2 hC2 hC1 hK1 E1 sz1 hx hy
  go_wp2
  generalize (w2.alloc (.cells #[.int .i64 p, .int .i64 A, .int .i64 B, .int .i64 N, .int .i64 x, .int .i64 y] 25)) = V at *
  generalize w2.heap.size = S at *
  clear w2 w1
  have xS : ¬ Cx C S := by have := M2.out.hS; unfold Cx; omega
  obtain ⟨k0, k1, k2, k3, k4, k5⟩ := M2.out.cv.c
  have e0 := cell_reC k0 xS
  have e1 := cell_reC k1 xS
  have e2 := cell_reC k2 xS
  have e3 := cell_reC k3 xS
  have e4 := cell_reC k4 xS
  have e5 := cell_reC k5 xS
  clear k0 k1 k2 k3 k4 k5 xS
  refine anyK_begin (Cx C) 12 rfl (by kernel_rfl) ?_
  refine anyK_take 0 3 9 rfl (by decide) (by kernel_rfl) (fun _ _ d _ _ h => by cases d <;> exact h) ?_
  repeat (refine headC_step (fun K hK => ?_); go_simp; first | (refine hK _ ?_; clear hK K) | (apply Exists.intro; refine ⟨fun _ => ?_, hK _ ?_⟩; (fail); clear hK K))
  refine headC_nil ?_
  refine anyK_take 4 1 8 rfl (by decide) (by kernel_rfl) (fun _ _ d _ _ h => by cases d <;> exact h) ?_
  repeat (refine headC_step (fun K hK => ?_); go_simp; first | (refine hK _ ?_; clear hK K) | (apply Exists.intro; refine ⟨fun _ => ?_, hK _ ?_⟩; (fail); clear hK K))
  refine headC_nil ?_
  clear e0 e1 e2 e3 e4 e5
  refine anyK_one 3 (by kernel_rfl) ?_
  refine stepK_run rfl ?_
  intro w3' h3 K hKK
  go_simp
  have M3' := M2.out.ext h3
  refine (l3DrawPoint_any C a b off n cap f p A B N x y _ M3'.cur M3'.code hn hk).mono ?_
  rintro e w3 ⟨q, rfl, hC3, G3⟩
  have M3 := hide (M3'.grwC G3 hC3)
  have H3 : Grw (Cx C) V w3 := (Grw.of_ext h3).trans G3
  go_simp
  refine hKK _ _ H3 ?_
  clear hKK K h3 G3 hC3 M3' w3' M2
  refine anyK_one 5 (by kernel_rfl) ?_
  refine stepK_run rfl ?_
  intro w5' h5 K hKK
  go_simp
  have M5' := M3.out.ext h5
  refine (l1Once_any C a b off n cap f 2 _ M5'.cur M5'.code hn (by omega) (by omega)).mono ?_
  rintro e w5 ⟨sh, rfl, hC5, T5⟩
  have M5 := hide (M5'.touch T5 hC5)
  have H5 : Grw (Cx C) V w5 := (H3.trans (.of_ext h5)).trans (.of_touch T5 rfl)
  go_simp
  refine hKK _ _ H5 ?_
  clear hKK K h5 T5 hC5 M5' w5' M3 H3
  refine anyK_one 6 (by kernel_rfl) ?_
  refine stepK_run rfl ?_
  intro w6' h6 K hKK
  go_simp
  have M6' := M5.out.ext h6
  refine (specPointBytes_any p A B N x y q sh _ (by have := hk.p1; omega) (by have := hk.n1; omega)).mono ?_
  rintro e w6 ⟨ok, hok, ab, gb, cb, rfl, hgb, hO, hw6, hcb, hown⟩
  have M6 := hide (M6'.ext hw6)
  have H6 : Grw (Cx C) V w6 := (H5.trans (.of_ext h6)).trans (.of_ext hw6)
  have sB : S < w6'.heap.size := M6'.cv.lt
  have hr : ∀ i, i < ptLen q sh ok → 0 ≤ ptByte q sh i ∧ ptByte q sh i ≤ 255 := fun i hi => by
    cases ok
    · simp [ptLen] at hi
    · exact ptByte_range (hok.1 rfl).1 (hok.1 rfl).2 sh i
  have hm7 : ptLen q sh ok ≤ 7 := by unfold ptLen; (repeat' split) <;> omega
  go_simp
  refine hKK _ _ H6 ?_
  clear hKK K h6 hw6 M6' M5 H5 hok hO hgb
  generalize ptLen q sh ok = m at *
  generalize ptByte q sh = F at *
  generalize w6'.heap.size = base at *
  clear w6'
  replace hown := hide hown
  refine anyK_take 7 5 0 rfl (by decide) (by kernel_rfl) (fun _ _ d _ _ h => by cases d <;> exact h) ?_
  repeat (refine headC_step (fun K hK => ?_); go_simp; first | (refine hK _ ?_; clear hK K) | (apply Exists.intro; refine ⟨fun _ => ?_, hK _ ?_⟩; (fail); clear hK K))
  refine headC_nil ?_
  refine anyK_done (by kernel_rfl) ?_ 0
  intro wz hz
  have MZ := hide (M6.out.ext hz)
  have OZ := hide (owns_keep hown.out (fun k _ hk => hz.block k hk))
  clear hown hz M6 H6 w6
  replace hr := hide hr
  by_cases hm : m = 0
  · subst hm
    obtain ⟨⟨⟨z0, z1, z2, z3, z4, z5⟩, fz⟩, ⟨⟨k0, k1, k2, k3, k4, k5⟩, fk⟩, -, -, -, hC', hS', -⟩ := MZ.out
    go_wp2
    clear z0 z1 z2 z3 z4 z5 fz k0 k1 k2 k3 k4 k5 fk hC' hS'
    obtain ⟨⟨⟨z0, z1, z2, z3, z4, z5⟩, fz⟩, -, -, -, -, -, -, -⟩ := MZ.out
    refine bodyPost_ret (v := .tuple #[.agg #[.int .i64 p, .int .i64 A, .int .i64 B, .int .i64 N, .int .i64 x, .int .i64 y], .slice ab 0 cb]) (by simp [results, Tryd.results13, go_sem, z0, z1, z2, z3, z4, z5]) rfl (MZ.out.done hk (show BSeg _ ab 0 0 0 F from ⟨fun h => absurd h (Nat.lt_irrefl _), fun i hi => absurd hi (Nat.not_lt_zero _)⟩) (fun h => absurd h (Nat.lt_irrefl _)) hr.out (by omega) hcb)
  have hm0 : 0 < m := by omega
  have hmz : (0 : Int) < (m : Int) := by omega
  have hCS : C < S := MZ.out.hS
  obtain ⟨a2, g, c2, hv2, hbg, hBO⟩ := bown_of_owns OZ.out
  cases hv2
  obtain rfl := hBO.at' hm0
  clear hBO
  go_wp2_with fail
  refine (l1Below_any C a b off n cap f 8 _ MZ.out.cur MZ.out.code hn (by omega) (by omega)).mono ?_
  rintro e w3 ⟨d, rfl, d0, d1, hC3, T3⟩
  have M1 := hide (MZ.out.touch T3 hC3)
  have O1 := hide (owns_keep OZ.out (fun k hk hl => T3.grown.block k hl (by simp; omega)))
  clear T3 hC3 MZ OZ
  by_cases c0 : d = 0
  · subst c0
    go_wp2_with fail
    refine (l1Below_any C a b off n cap f (m : Int) _ M1.out.cur M1.out.code hn (by omega) (by omega)).mono ?_
    rintro e w4 ⟨i, rfl, i0, i1, hC3, T3⟩
    have M4 := hide (M1.out.touch T3 hC3)
    have O4 := hide (owns_keep O1.out (fun k hk hl => T3.grown.block k hl (by simp; omega)))
    clear T3 hC3 M1 O1
    go_wp2_with fail
    refine (l1Byte_any C a b off n cap f _ M4.out.cur M4.out.code hn).mono ?_
    rintro e w5 ⟨v, rfl, v0, v1, hC3, T3⟩
    have M5 := hide (M4.out.touch T3 hC3)
    have O5 := hide (owns_keep O4.out (fun k hk hl => T3.grown.block k hl (by simp; omega)))
    clear T3 hC3 M4 O4
    obtain ⟨i, rfl⟩ := Int.eq_ofNat_of_zero_le i0
    have him : i < m := by omega
    have him' : (i : Int) < (m : Int) := by omega
    obtain ⟨a2, g2, c2, hv2, -, hBO⟩ := bown_of_owns O5.out
    cases hv2
    cases hBO.at' hm0
    have M6 := hide (M5.out.turn ((Touch.refl g w5).set i (.int .u8 v)) (by omega))
    have B6 := hBO.set him v
    have cb0 := hBO.cell i him
    have fb0 := hBO.free i him
    simp only [Nat.zero_add] at B6 cb0 fb0
    replace B6 := hide B6
    clear hBO
    obtain ⟨⟨⟨z0, z1, z2, z3, z4, z5⟩, fz⟩, ⟨⟨k0, k1, k2, k3, k4, k5⟩, fk⟩, -, -, -, hC', hS', -⟩ := M5.out
    go_wp2
    clear z0 z1 z2 z3 z4 z5 fz k0 k1 k2 k3 k4 k5 fk hC' hS'
    clear cb0 fb0
    generalize w5.setCell ⟨g, i, none⟩ (.int .u8 v) = W3 at *
    obtain ⟨⟨⟨z0, z1, z2, z3, z4, z5⟩, fz⟩, -, -, -, -, -, -, -⟩ := M6.out
    refine bodyPost_ret (v := .tuple #[.agg #[.int .i64 p, .int .i64 A, .int .i64 B, .int .i64 N, .int .i64 x, .int .i64 y], .slice (some ⟨g, 0, none⟩) m cb]) (by simp [results, Tryd.results13, go_sem, z0, z1, z2, z3, z4, z5]) rfl (M6.out.done hk B6.out.toBSeg (fun _ => by omega) (fun j hj => by show 0 ≤ (if j = i then v else F j) ∧ (if j = i then v else F j) ≤ 255; split; exact ⟨v0, v1⟩; exact hr.out j hj) (by omega) hcb)
  by_cases c1 : d = 1
  · subst c1
    go_wp2_with fail
    refine (l1Below_any C a b off n cap f (m : Int) _ M1.out.cur M1.out.code hn (by omega) (by omega)).mono ?_
    rintro e w4 ⟨i, rfl, i0, i1, hC3, T3⟩
    have M4 := hide (M1.out.touch T3 hC3)
    have O4 := hide (owns_keep O1.out (fun k hk hl => T3.grown.block k hl (by simp; omega)))
    clear T3 hC3 M1 O1
    obtain ⟨i, rfl⟩ := Int.eq_ofNat_of_zero_le i0
    have him : i < m := by omega
    have hic : i ≤ cb := by omega
    obtain ⟨a2, g2, c2, hv2, -, hBO⟩ := bown_of_owns O4.out
    cases hv2
    cases hBO.at' hm0
    have BS := hide (hBO.toBSeg.cut (Nat.le_of_lt him))
    clear hBO
    obtain ⟨⟨⟨z0, z1, z2, z3, z4, z5⟩, fz⟩, ⟨⟨k0, k1, k2, k3, k4, k5⟩, fk⟩, -, -, -, hC', hS', -⟩ := M4.out
    go_wp2
    clear z0 z1 z2 z3 z4 z5 fz k0 k1 k2 k3 k4 k5 fk hC' hS'
    obtain ⟨⟨⟨z0, z1, z2, z3, z4, z5⟩, fz⟩, -, -, -, -, -, -, -⟩ := M4.out
    refine bodyPost_ret (v := .tuple #[.agg #[.int .i64 p, .int .i64 A, .int .i64 B, .int .i64 N, .int .i64 x, .int .i64 y], .slice (some ⟨g, 0, none⟩) i cb]) (by simp [results, Tryd.results13, go_sem, z0, z1, z2, z3, z4, z5]) rfl (M4.out.done hk BS.out (fun _ => by omega) (fun j hj => hr.out j (by omega)) (by omega) hic)
  by_cases c2 : d = 2
  · subst c2
    obtain ⟨i0, hi, hz0, hz1, hz2⟩ := info_parts Tryd.info5
    have hgl : base ≤ w3.heap.size := by
      obtain ⟨a2, g2, c2, hv2, hb2, hB2⟩ := bown_of_owns O1.out
      have := hB2.toBSeg.lt hm0
      omega
    go_wp2_with (at_builtin; (refine wpList_append_own _ rfl _ _ 22 rfl base 5 i0 (.int .u8 0) 1 1 Tryd.underlying22 hi hz0 hz1 hz2 rfl (by decide) _ _ _ rfl (O1.out.alloc _) ⟨w3.heap.size, 0, none⟩ 1 1 [.int .u8 0] rfl rfl (cell_one_new _ _ _) (bone_cell' _) (by unfold maxLen; omega) (by omega) (by simp; omega) ?_); intro v' w4 hown' hgrow hnil; have M4 := hide (M1.out.appended hgrow (show S < g by omega)); obtain ⟨⟨⟨z0, z1, z2, z3, z4, z5⟩, fz⟩, ⟨⟨k0, k1, k2, k3, k4, k5⟩, fk⟩, -, -, -, hC', hS', -⟩ := M4.out)
    clear z0 z1 z2 z3 z4 z5 fz k0 k1 k2 k3 k4 k5 fk hC' hS'
    rw [byts_app] at hown'
    have hc3 := hown'
    obtain ⟨a3, g3, c3, hv3, hb3, hB3⟩ := bown_of_owns hown'
    subst hv3
    replace hc3 := owns_cap hc3
    have BS := hide hB3.toBSeg
    clear hown' hgrow hnil hB3
    obtain ⟨⟨⟨z0, z1, z2, z3, z4, z5⟩, fz⟩, -, -, -, -, -, -, -⟩ := M4.out
    refine bodyPost_ret (v := .tuple #[.agg #[.int .i64 p, .int .i64 A, .int .i64 B, .int .i64 N, .int .i64 x, .int .i64 y], .slice a3 (m + 1) c3]) (by simp [results, Tryd.results13, go_sem, z0, z1, z2, z3, z4, z5]) rfl (M4.out.done hk BS.out (fun _ => by omega) (fun j hj => by show 0 ≤ (if j = m then 0 else F j) ∧ (if j = m then 0 else F j) ≤ 255; split; omega; exact hr.out j (by omega)) (by omega) hc3)
  by_cases c3 : d = 3
  · subst c3
    go_wp2_with fail
    refine (l1Below_any C a b off n cap f 2 _ M1.out.cur M1.out.code hn (by omega) (by omega)).mono ?_
    rintro e w4 ⟨i, rfl, i0, i1, hC3, T3⟩
    have M4 := hide (M1.out.touch T3 hC3)
    have O4 := hide (owns_keep O1.out (fun k hk hl => T3.grown.block k hl (by simp; omega)))
    clear T3 hC3 M1 O1
    go_wp2_with fail
    refine (l1Below_any C a b off n cap f 5 _ M4.out.cur M4.out.code hn (by omega) (by omega)).mono ?_
    rintro e w5 ⟨j, rfl, j0, j1, hC3, T3⟩
    have M5 := hide (M4.out.touch T3 hC3)
    have O5 := hide (owns_keep O4.out (fun k hk hl => T3.grown.block k hl (by simp; omega)))
    clear T3 hC3 M4 O4
    go_wp2_with fail
    refine (l1Byte_any C a b off n cap f _ M5.out.cur M5.out.code hn).mono ?_
    rintro e w6 ⟨v, rfl, v0, v1, hC3, T3⟩
    have M6 := hide (M5.out.touch T3 hC3)
    have O6 := hide (owns_keep O5.out (fun k hk hl => T3.grown.block k hl (by simp; omega)))
    clear T3 hC3 M5 O5
    obtain ⟨G, hG⟩ : ∃ G : Nat → Int, G = fun k => if k = 0 then 2 + i else if k = 1 then 0 else if k = 2 then j else v := ⟨_, rfl⟩
    have BS := seg_lit8 (putCv w6 w.heap.size p A B N x y) #[.int .u8 (2 + i), .int .u8 0, .int .u8 j, .int .u8 v] 4 G (fun k hk => by
      rw [hG]
      have : k = 0 ∨ k = 1 ∨ k = 2 ∨ k = 3 := by omega
      rcases this with rfl | rfl | rfl | rfl <;> rfl)
    rw [size_putCv] at BS
    replace BS := hide BS
    have hGr : Hid (∀ k, k < 4 → 0 ≤ G k ∧ G k ≤ 255) := fun k hk => by
      rw [hG]
      have : k = 0 ∨ k = 1 ∨ k = 2 ∨ k = 3 := by omega
      rcases this with rfl | rfl | rfl | rfl <;> simp <;> omega
    have sG : S < w6.heap.size := M6.out.cv.lt
    have rG : w.heap.size < w6.heap.size := M6.out.res.lt
    clear hG
    obtain ⟨⟨⟨z0, z1, z2, z3, z4, z5⟩, fz⟩, ⟨⟨k0, k1, k2, k3, k4, k5⟩, fk⟩, -, -, -, hC', hS', -⟩ := M6.out
    go_wp2
    clear z0 z1 z2 z3 z4 z5 fz k0 k1 k2 k3 k4 k5 fk hC' hS'
    obtain ⟨⟨⟨z0, z1, z2, z3, z4, z5⟩, fz⟩, -, -, -, -, -, -, -⟩ := M6.out
    refine bodyPost_ret (v := .tuple #[.agg #[.int .i64 p, .int .i64 A, .int .i64 B, .int .i64 N, .int .i64 x, .int .i64 y], .slice (some ⟨w6.heap.size, 0, none⟩) 4 4]) (by simp [results, Tryd.results13, go_sem, z0, z1, z2, z3, z4, z5, rG]) rfl ?_
    exact ⟨p, A, B, N, x, y, some ⟨w6.heap.size, 0, none⟩, w6.heap.size, 0, 4, 4, G, rfl, hk, BS.out, hGr.out, by omega, by omega, (below_putCv M6.out.below (Nat.le_refl _) p A B N x y).alloc (by rw [size_putCv]; exact M6.out.below.size) _, fun _ => M6.out.below.size⟩
  · skip
    obtain ⟨⟨⟨z0, z1, z2, z3, z4, z5⟩, fz⟩, ⟨⟨k0, k1, k2, k3, k4, k5⟩, fk⟩, -, -, -, hC', hS', -⟩ := M1.out
    obtain ⟨a2, g2, c2, hv2, -, hBO⟩ := bown_of_owns O1.out
    cases hv2
    cases hBO.at' hm0
    have BS := hide hBO.toBSeg
    clear hBO
    go_wp2
    clear z0 z1 z2 z3 z4 z5 fz k0 k1 k2 k3 k4 k5 fk hC' hS'
    obtain ⟨⟨⟨z0, z1, z2, z3, z4, z5⟩, fz⟩, -, -, -, -, -, -, -⟩ := M1.out
    refine bodyPost_ret (v := .tuple #[.agg #[.int .i64 p, .int .i64 A, .int .i64 B, .int .i64 N, .int .i64 x, .int .i64 y], .slice (some ⟨g, 0, none⟩) m cb]) (by simp [results, Tryd.results13, go_sem, z0, z1, z2, z3, z4, z5]) rfl (M1.out.done hk BS.out (fun _ => by omega) hr.out (by omega) hcb)

end Go.Proofs.YtcfpmillbdkpcaaDoor
