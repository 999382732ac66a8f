/- Walk: l3DrawPoint of the model: some point; the cursor alone has turned. -/
import Derived.Test.YtnhemiaklkkilaaDoorDrawD
namespace Go.Proofs.YtnhemiaklkkilaaDoor
set_option linter.unusedVariables false
open Go.RowKit Go.Sort

section
variable {P : Program} {ops : Array Oper} {md : Region.Mode} {Q : Exit → Act → World → Prop}

theorem anyS_sub {C C' : World → Prop} (h : ∀ w, C' w → C w) : ∀ (f : Nat) (listed : Array Bool) (a : Act) (G : World → Prop), anyS P md ops Q C' f listed a G → anyS P md ops Q C f listed a G
  | 0, _, _, _, k => k
  | f + 1, _, _, _, k => ⟨k.1, fun i hi w hw => wpOp_mono (fun a' w' ⟨G', hk, hw', hr⟩ => ⟨G', ⟨fun w2 h2 => h w2 (hk.sub w2 h2), hk.up⟩, hw', anyS_sub h f _ _ _ hr⟩) (k.2 i hi w hw)⟩

/-- From here on more is known: reads may lie in W1. -/
theorem anyK_rebase {X X' : Nat → Prop} {V W1 W : World} {listed : Array Bool} {a : Act} {f : Nat} (h : ∀ w, Grw X' W1 w → Grw X V w) (hW : Grw X' W1 W) (k : anyK P md ops Q X' W1 f listed a W) : anyK P md ops Q X V f listed a W :=
  fun _ => anyS_sub h _ _ _ _ (k hW)

end

/-- The call answers some point, and of what was there turns the cursor alone. -/
def GivesPoint (w : World) (C : Nat) (a : Option Addr) (n cap : Nat) (e : Ending) (w' : World) : Prop :=
  ∃ q : Pt, e = .returned (.agg #[.int .i64 q.x, .int .i64 q.y, .bool q.far]) ∧ Cur w' C a n cap ∧ Grw (Cx C) w w'

/-- In mid-call: the curve's block, the answer's, the point's, the cursor. -/
structure MidP (w wr : World) (C S1 : Nat) (a : Option Addr) (n cap : Nat) (p A B N x y : Int) (q : Pt) : Prop where
  cv : CvAt wr w.heap.size p A B N x y
  res : PtAt wr (w.heap.size + 1) zeroP
  pt : PtAt wr S1 q
  cur : Cur wr C a n cap
  grw : Grw (Cx C) w wr
  hS : w.heap.size + 1 < S1
  hC : C < w.heap.size

theorem CvAt.of_block {w w' : World} {C : Nat} {p A B N x y : Int} (h : CvAt w C p A B N x y) (e : w'.heap[C]? = w.heap[C]?) : CvAt w' C p A B N x y := by
  have k : ∀ q, w'.cell? ⟨C, q, none⟩ = w.cell? ⟨C, q, none⟩ := fun q => World.cell?_of_block (a := ⟨C, q, none⟩) e
  obtain ⟨c0, c1, c2, c3, c4, c5⟩ := h
  exact ⟨(k _).trans c0, (k _).trans c1, (k _).trans c2, (k _).trans c3, (k _).trans c4, (k _).trans c5⟩

section
variable {w wr w1 : World} {C S1 : Nat} {a : Option Addr} {n cap : Nat} {p A B N x y : Int} {q : Pt}

theorem MidP.grow (h : MidP w wr C S1 a n cap p A B N x y q) (g : Grw (Cx C) wr w1) (hc : Cur w1 C a n cap) : MidP w w1 C S1 a n cap p A B N x y q := by
  have h2 := h.hS; have h3 := h.hC
  exact ⟨h.cv.of_block (g.block _ (block_lt_of_cell h.cv.c0) (by unfold Cx; omega)), h.res.of_block (g.block _ h.res.lt (by unfold Cx; omega)), h.pt.of_block (g.block _ h.pt.lt (by unfold Cx; omega)), hc, h.grw.trans g, h2, h3⟩

theorem MidP.ext (h : MidP w wr C S1 a n cap p A B N x y q) (e : Ext wr w1) : MidP w w1 C S1 a n cap p A B N x y q := h.grow (.of_ext e) (h.cur.ext e)
theorem MidP.touch (h : MidP w wr C S1 a n cap p A B N x y q) (t : Touch C wr w1) (hc : Cur w1 C a n cap) : MidP w w1 C S1 a n cap p A B N x y q := h.grow (.of_touch t rfl) hc

theorem MidP.turn {q' : Pt} (h : MidP w wr C S1 a n cap p A B N x y q) (t : Touch S1 wr w1) (hp : PtAt w1 S1 q') : MidP w w1 C S1 a n cap p A B N x y q' := by
  have h2 := h.hS; have h3 := h.hC
  have hb : ∀ k, k < wr.heap.size → k ≠ S1 → w1.heap[k]? = wr.heap[k]? := fun k hk hn => t.grown.block k hk (by simp; exact hn)
  exact ⟨h.cv.of_block (hb _ (block_lt_of_cell h.cv.c0) (by omega)), h.res.of_block (hb _ h.res.lt (by omega)), hp, h.cur.of_block (hb _ h.cur.lt (by omega)), h.grw.later (below_touch (Below.refl w.heap.size wr) t (by omega)) (Nat.le_refl _), h2, h3⟩

theorem MidP.done (h : MidP w wr C S1 a n cap p A B N x y q) : GivesPoint w C a n cap (.returned (.agg #[.int .i64 q.x, .int .i64 q.y, .bool q.far])) (putPt wr (w.heap.size + 1) q) := by
  have h3 := h.hC
  refine ⟨q, rfl, h.cur.of_block ((touch_putPt wr (w.heap.size + 1) q).grown.block _ h.cur.lt (by simp; omega)), h.grw.later (below_put (Below.refl w.heap.size wr) (by omega) q) (Nat.le_refl _)⟩

end

/-- Block C, and all that came after s but g. -/
def Xg (C s g i : Nat) : Prop := i = C ∨ (s ≤ i ∧ i ≠ g)

theorem grw_rebase {C s g : Nat} {V w0 w : World} (h : Grw (Cx C) V w0) (hs : V.heap.size ≤ s) (k : Grw (Xg C s g) w0 w) : Grw (Cx C) V w :=
  ⟨k.os.trans h.os, k.tape.trans h.tape, k.output.trans h.output, Nat.le_trans h.size k.size, fun i hi hn => (k.block i (Nat.lt_of_lt_of_le hi h.size) (fun e => by
    rcases e with e | e
    · exact hn e
    · omega)).trans (h.block i hi hn)⟩

theorem midP_of {w V wr : World} {C S1 : Nat} {a : Option Addr} {n cap : Nat} {p A B N x y : Int} {q : Pt} (KV : CvAt V w.heap.size p A B N x y) (RV : PtAt V (w.heap.size + 1) zeroP) (GV : Grw (Cx C) w V) (hV : V.heap.size = w.heap.size + 2) (hl : C < w.heap.size) (HV : Grw (Cx C) V wr) (hc : Cur wr C a n cap) (ps : PtAt wr S1 q) (sS : V.heap.size ≤ S1) : MidP w wr C S1 a n cap p A B N x y q :=
  ⟨KV.of_block (HV.block _ (by omega) (by unfold Cx; omega)), RV.of_block (HV.block _ (by omega) (by unfold Cx; omega)), ps, hc, GV.trans HV, by omega, hl⟩

theorem PtAt.setX {w : World} {C : Nat} {a : Pt} (h : PtAt w C a) (v : Int) : PtAt (w.setCell ⟨C, 0, none⟩ (.int .i64 v)) C ⟨v, a.y, a.far⟩ := by
  obtain ⟨c0, c1, c2, f0, f1, f2⟩ := h
  refine ⟨?_, ?_, ?_, ?_, ?_, ?_⟩
  all_goals first | (simp [go_sem, c0, c1, c2, f0, f1, f2]; done) | skip

theorem PtAt.setY {w : World} {C : Nat} {a : Pt} (h : PtAt w C a) (v : Int) : PtAt (w.setCell ⟨C, 1, none⟩ (.int .i64 v)) C ⟨a.x, v, a.far⟩ := by
  obtain ⟨c0, c1, c2, f0, f1, f2⟩ := h
  refine ⟨?_, ?_, ?_, ?_, ?_, ?_⟩
  all_goals first | (simp [go_sem, c0, c1, c2, f0, f1, f2]; done) | skip

set_option maxHeartbeats 6400000 in
set_option maxRecDepth 100000 in
theorem l3DrawPoint_any (C : Nat) (a : Option Addr) (b off n cap : Nat) (f : Nat → Int) (p A B N x y : Int) (w : World) (hC : Cur w C a n cap) (hK : Code w C a b off n f) (hn : n ≤ 1048576) (hk : KBd p A B N) :
    Calls Tryd.prog 43 #[.pointer (some ⟨C, 0, none⟩), .agg #[.int .i64 p, .int .i64 A, .int .i64 B, .int .i64 N, .int .i64 x, .int .i64 y]] w fun e w' => GivesPoint w C a n cap e w' := by
  have hl := hC.lt
  go_enter Tryd.func43, Tryd.ntmps43
  go_wp2
  rename_i K1 hK1
  have LEAF : ∀ (g S1 : Nat) (m : Int) (q : Pt) (w1 : World), Hid (MidP w w1 C S1 a n cap p A B N x y q) → K1 ⟨#[.pointer (some ⟨C, 0, none⟩), .agg #[.int .i64 p, .int .i64 A, .int .i64 B, .int .i64 N, .int .i64 x, .int .i64 y], undef, .pointer (some ⟨w.heap.size, 0, none⟩), .pointer (some ⟨w.heap.size + 1, 0, none⟩), .pointer (some ⟨S1, 0, none⟩), .slice (some ⟨g, 0, none⟩) 3 3, .pointer (some ⟨g, 0, none⟩), .agg #[.int .i64 103, .int .i64 2, .int .i64 11, .int .i64 97, .int .i64 1, .int .i64 23], .pointer (some ⟨C, 0, none⟩), .int .i64 m, .agg #[.int .i64 1, .int .i64 23, .bool false], .agg #[.int .i64 q.x, .int .i64 q.y, .bool q.far], undef, undef, undef, undef, undef, undef, undef, undef, undef, undef, undef, undef, undef, undef, undef, undef, undef, undef, undef, undef, undef, undef, undef, undef, undef, undef, undef, undef, undef, undef, undef, undef, undef, undef, undef, undef, undef, undef, undef, undef, undef, undef, undef, undef, undef, undef, undef, undef], []⟩ w1 := by
    intro g S1 m q w1 M1
    refine hK1 _ _ ?_
    clear hK1 K1
    obtain ⟨k0, k1, k2, k3, k4, k5⟩ := M1.out.cv
    go_wp2_with fail
    clear k0 k1 k2 k3 k4 k5
    rename_i K2 hK2 K3 hK3 K4 hK4
    have LEAF2 : ∀ (v12 v13 v14 v15 v16 v17 v18 v19 v20 v21 v22 v23 v24 v25 v26 v27 v28 v29 v30 v31 v32 v33 v34 v35 v36 v37 v38 : Value) (q : Pt) (w2 : World), Hid (MidP w w2 C S1 a n cap p A B N x y q) → K2 ⟨#[.pointer (some ⟨C, 0, none⟩), .agg #[.int .i64 p, .int .i64 A, .int .i64 B, .int .i64 N, .int .i64 x, .int .i64 y], undef, .pointer (some ⟨w.heap.size, 0, none⟩), .pointer (some ⟨w.heap.size + 1, 0, none⟩), .pointer (some ⟨S1, 0, none⟩), .slice (some ⟨g, 0, none⟩) 3 3, .pointer (some ⟨g, 0, none⟩), .agg #[.int .i64 103, .int .i64 2, .int .i64 11, .int .i64 97, .int .i64 1, .int .i64 23], .pointer (some ⟨C, 0, none⟩), .int .i64 m, .agg #[.int .i64 1, .int .i64 23, .bool false], v12, v13, v14, v15, v16, v17, v18, v19, v20, v21, v22, v23, v24, v25, v26, v27, v28, v29, v30, v31, v32, v33, v34, v35, v36, v37, v38, undef, undef, undef, undef, undef, undef, undef, undef, undef, undef, undef, undef, undef, undef, undef, undef, undef, undef, undef, undef, undef, undef], []⟩ w2 := by
      clear hK4 K4 hK3 K3
      intro v12 v13 v14 v15 v16 v17 v18 v19 v20 v21 v22 v23 v24 v25 v26 v27 v28 v29 v30 v31 v32 v33 v34 v35 v36 v37 v38 q w2 M2
      refine hK2 _ _ ?_
      clear hK2 K2
      go_wp2_with fail
      refine (l1Below_any C a b off n cap f 20 _ M2.out.cur (hK.grw M2.out.grw hK.ne) hn (by omega) (by omega)).mono ?_
      rintro e w3 ⟨d, rfl, d0, d1, hC3, T3⟩
      have M3 := hide (M2.out.touch T3 hC3)
      clear M2 T3 hC3 w2
      by_cases c0 : d = 0
      · subst c0
        obtain ⟨v, hv⟩ : ∃ v, wrap64 (q.y + 1) = v := ⟨_, rfl⟩
        have hv2 : IntKind.i64.wrap (q.y + 1) = v := by rw [IntKind.wrap_i64, ← hv]; unfold wrap64; rfl
        have M5 := hide (M3.out.turn ((Touch.refl S1 w3).set 1 (.int .i64 v)) (M3.out.pt.setY v))
        obtain ⟨-, ⟨r0, r1, r2, s0, s1, s2⟩, ⟨t0, t1, t2, u0, u1, u2⟩, -, -, hS, -⟩ := M3.out
        simp only [zeroP] at r0 r1 r2
        go_wp2
        clear r0 r1 r2 s0 s1 s2 t0 t1 t2 u0 u1 u2 hS
        try rw [hv]
        generalize w3.setCell ⟨S1, 1, none⟩ (.int .i64 v) = W3 at *
        obtain ⟨-, ⟨r0, r1, r2, s0, s1, s2⟩, -, -, -, -, -⟩ := M5.out
        simp only [zeroP] at r0 r1 r2
        refine bodyPost_ret (v := .agg #[.int .i64 q.x, .int .i64 v, .bool q.far]) (by simp [results, Tryd.results43, go_sem, r0, r1, r2]) rfl M5.out.done
      by_cases c1 : d = 1
      · subst c1
        go_wp2_with fail
        refine (l1Below_any C a b off n cap f 2 _ M3.out.cur (hK.grw M3.out.grw hK.ne) hn (by omega) (by omega)).mono ?_
        rintro e w4 ⟨d, rfl, d0, d1, hC4, T4⟩
        have M4 := hide (M3.out.touch T4 hC4)
        have M5 := hide (M4.out.turn (touch_putPt w4 S1 ⟨d, 0, true⟩) (M4.out.pt.put ⟨d, 0, true⟩))
        simp only [putPt] at M5
        clear M3 T4 hC4 w3
        obtain ⟨-, ⟨r0, r1, r2, s0, s1, s2⟩, ⟨t0, t1, t2, u0, u1, u2⟩, -, -, hS, -⟩ := M4.out
        simp only [zeroP] at r0 r1 r2
        go_wp2
        clear r0 r1 r2 s0 s1 s2 t0 t1 t2 u0 u1 u2 hS
        generalize ((w4.setCell ⟨S1, 0, none⟩ (.int .i64 d)).setCell ⟨S1, 1, none⟩ (.int .i64 0)).setCell ⟨S1, 2, none⟩ (.bool true) = W3 at *
        obtain ⟨-, ⟨r0, r1, r2, s0, s1, s2⟩, -, -, -, -, -⟩ := M5.out
        simp only [zeroP] at r0 r1 r2
        refine bodyPost_ret (v := .agg #[.int .i64 d, .int .i64 0, .bool true]) (by simp [results, Tryd.results43, go_sem, r0, r1, r2]) rfl M5.out.done
      by_cases c2 : d = 2
      · subst c2
        have E3 := Ext.alloc w3 (.cells #[.int .i64 (-1), .int .i64 p, .int .i64 0] 3)
        have M4 := hide (M3.out.ext E3)
        obtain ⟨gg, hg⟩ : ∃ gg : Nat → Int, gg = fun i => if i = 0 then -1 else if i = 1 then p else 0 := ⟨_, rfl⟩
        have Sg := seg_lit w3 #[.int .i64 (-1), .int .i64 p, .int .i64 0] 3 gg (fun i hi => by
          rw [hg]
          have : i = 0 ∨ i = 1 ∨ i = 2 := by omega
          rcases this with rfl | rfl | rfl <;> rfl)
        have hne : w3.heap.size ≠ C := by have := M3.out.cur.lt; omega
        clear hg
        obtain ⟨k0, k1, k2, k3, k4, k5⟩ := M3.out.cv
        go_wp2_with fail
        clear k0 k1 k2 k3 k4 k5
        refine (l1PickInt_of C a b off n cap f _ w3.heap.size 0 3 _ _ _ M4.out.cur (hK.grw M4.out.grw hK.ne) hn Sg (by omega) (by omega) hne).mono ?_
        rintro e w4 ⟨i, hi, rfl, hC4, T4⟩
        have M6 := hide (M4.out.touch T4 hC4)
        clear M4 M3 T4 hC4 Sg E3 hne
        generalize gg i = v at *
        have M5 := hide (M6.out.turn ((Touch.refl S1 w4).set 0 (.int .i64 v)) (M6.out.pt.setX v))
        obtain ⟨-, ⟨r0, r1, r2, s0, s1, s2⟩, ⟨t0, t1, t2, u0, u1, u2⟩, -, -, hS, -⟩ := M6.out
        simp only [zeroP] at r0 r1 r2
        go_wp2
        clear r0 r1 r2 s0 s1 s2 t0 t1 t2 u0 u1 u2 hS
        generalize w4.setCell ⟨S1, 0, none⟩ (.int .i64 v) = W3 at *
        obtain ⟨-, ⟨r0, r1, r2, s0, s1, s2⟩, -, -, -, -, -⟩ := M5.out
        simp only [zeroP] at r0 r1 r2
        refine bodyPost_ret (v := .agg #[.int .i64 v, .int .i64 q.y, .bool q.far]) (by simp [results, Tryd.results43, go_sem, r0, r1, r2]) rfl M5.out.done
      · skip
        obtain ⟨-, ⟨r0, r1, r2, s0, s1, s2⟩, ⟨t0, t1, t2, u0, u1, u2⟩, -, -, hS, -⟩ := M3.out
        simp only [zeroP] at r0 r1 r2
        go_wp2
        clear r0 r1 r2 s0 s1 s2 t0 t1 t2 u0 u1 u2 hS
        obtain ⟨-, ⟨r0, r1, r2, s0, s1, s2⟩, -, -, -, -, -⟩ := M3.out
        simp only [zeroP] at r0 r1 r2
        refine bodyPost_ret (v := .agg #[.int .i64 q.x, .int .i64 q.y, .bool q.far]) (by simp [results, Tryd.results43, go_sem, r0, r1, r2]) rfl M3.out.done
    clear hK2
    replace LEAF2 := hide LEAF2
    refine (l3On_any p A B N x y x y false _ hk.p0 hk.p1 hk.a0 hk.a1 hk.b0 hk.b1).mono ?_
    rintro r w2 ⟨⟨ok, rfl, -, hb⟩, hw2⟩
    have M2 := hide (M1.out.ext hw2)
    clear M1 hw2 w1
    cases ok
    · go_wp2
      exact LEAF2.out _ _ _ _ _ _ _ _ _ _ _ _ _ _ _ _ _ _ _ _ _ _ _ _ _ _ _ q w2 M2
    replace hb := hide (hb rfl rfl)
    obtain ⟨k0, k1, k2, k3, k4, k5⟩ := M2.out.cv
    go_wp2_with fail
    clear k0 k1 k2 k3 k4 k5
    refine (l1In_int _ _ _ _).mono ?_
    rintro r w' ⟨rfl, hw⟩
    replace hw := hw.symm
    subst hw
    by_cases c : 5 ≤ p ∧ p ≤ 1048576
    rotate_left
    · rw [show (decide (5 ≤ p) && decide (p ≤ 1048576)) = false by simp; omega]
      clear c
      go_wp2
      exact LEAF2.out _ _ _ _ _ _ _ _ _ _ _ _ _ _ _ _ _ _ _ _ _ _ _ _ _ _ _ q w2 M2
    rw [show (decide (5 ≤ p) && decide (p ≤ 1048576)) = true by simp; omega]
    obtain ⟨p5, pM⟩ := c
    obtain ⟨k0, k1, k2, k3, k4, k5⟩ := M2.out.cv
    go_wp2_with fail
    clear k0 k1 k2 k3 k4 k5
    refine (specPrimeInt_any p _ (by omega)).mono ?_
    rintro r w' ⟨⟨ok, rfl, hpr⟩, hw⟩
    replace hw := hw.symm
    subst hw
    cases ok
    · clear hpr
      go_wp2
      exact LEAF2.out _ _ _ _ _ _ _ _ _ _ _ _ _ _ _ _ _ _ _ _ _ _ _ _ _ _ _ q w2 M2
    replace hpr := (hpr.1 rfl).2.2
    have ip : ((p.toNat : Nat) : Int) = p := by omega
    have HM := hide (fun (n : Nat) (hn : n ≤ 9223372036854775807) (w : World) => l3Mul_any p.toNat A B N x y n ⟨x, y, false⟩ w hpr (by omega) (by omega) hk.a0 hk.a1 ⟨hb.out.1, by rw [ip]; exact hb.out.2.1, hb.out.2.2.1, by rw [ip]; exact hb.out.2.2.2⟩ hn)
    rw [ip] at HM
    clear hpr hb ip
    go_wp2
    obtain ⟨X, hX⟩ : ∃ X : Nat → Prop, X = fun k => k = C ∨ k = S1 := ⟨_, rfl⟩
    have hS := M2.out.hS
    have hCw := M2.out.hC
    have xK : ¬ X w.heap.size := by rw [hX]; simp; omega
    have xC : X C := by rw [hX]; simp
    have xS : X S1 := by rw [hX]; simp
    clear hX
    obtain ⟨k0, k1, k2, k3, k4, k5⟩ := M2.out.cv
    have e0 := cell_reC k0 xK
    have e1 := cell_reC k1 xK
    have e2 := cell_reC k2 xK
    have e3 := cell_reC k3 xK
    have e4 := cell_reC k4 xK
    have e5 := cell_reC k5 xK
    clear k0 k1 k2 k3 k4 k5
    refine anyK_begin X 10 rfl (by kernel_rfl) ?_
    refine anyK_take 0 2 8 rfl (by decide) (by kernel_rfl) (fun _ _ d _ _ h => by cases d <;> exact h) ?_
    repeat (refine headC_step (fun K hK => ?_); go_simp; first | (refine hK _ ?_; clear hK K) | (apply Exists.intro; refine ⟨fun _ => ?_, hK _ ?_⟩; (fail); clear hK K))
    refine headC_nil ?_
    refine anyK_take 3 5 3 rfl (by decide) (by kernel_rfl) (fun _ _ d _ _ h => by cases d <;> exact h) ?_
    repeat (refine headC_step (fun K hK => ?_); go_simp; first | (refine hK _ ?_; clear hK K) | (apply Exists.intro; refine ⟨fun _ => ?_, hK _ ?_⟩; (fail); clear hK K))
    refine headC_nil ?_
    clear e0 e1 e2 e3 e4 e5
    refine anyK_one 2 (by kernel_rfl) ?_
    refine stepK_run rfl ?_
    intro w3' h3 K hKK
    go_simp
    have M3' := M2.out.ext h3
    refine (l1Below_any C a b off n cap f 200 _ M3'.cur (hK.grw M3'.grw hK.ne) hn (by omega) (by omega)).mono ?_
    rintro e w3 ⟨m3, rfl, m30, m31, hC3, T3⟩
    have M3 := hide (M3'.touch T3 hC3)
    have H3 : Grw X w2 w3 := (Grw.of_ext h3).trans (.of_touch T3 xC)
    go_simp
    refine hKK _ _ H3 ?_
    clear hKK K h3 T3 hC3 M3' w3'
    obtain ⟨m3, rfl⟩ := Int.eq_ofNat_of_zero_le m30
    obtain ⟨q3, hq3⟩ : ∃ q3, mulF p.toNat A m3 ⟨x, y, false⟩ = q3 := ⟨_, rfl⟩
    have HM3 := hide (fun w => HM.out m3 (by omega) w)
    rw [hq3] at HM3
    simp only [ptV] at HM3
    replace HM3 := hide HM3
    clear hq3 HM
    refine anyK_one 8 (by kernel_rfl) ?_
    refine stepK_run rfl ?_
    intro w4' h4 K hKK
    go_simp
    refine (HM3 _).mono ?_
    rintro e w4 ⟨rfl, hw4⟩
    replace hw4 := Ext.trans h4 hw4
    have M4 := hide (M3.out.ext hw4)
    have H4 : Grw X w2 w4 := H3.trans (.of_ext hw4)
    go_simp
    refine hKK _ _ H4 ?_
    clear hKK K h4 hw4 w4' M3 H3 HM3
    refine anyK_one 9 (by kernel_rfl) ?_
    refine stepK_run rfl ?_
    intro w5 h5 K hKK
    have M5 := hide (M4.out.ext h5)
    have H5 : Grw X w2 (putPt w5 S1 q3) := (H4.trans (.of_ext h5)).trans (.of_touch (touch_putPt w5 S1 q3) xS)
    obtain ⟨t0, t1, t2, u0, u1, u2⟩ := M5.out.pt
    go_simp
    refine hKK _ (putPt w5 S1 q3) H5 ?_
    clear hKK K t0 t1 t2 u0 u1 u2 h5 H4 M4
    have M6 := hide (M5.out.turn (touch_putPt w5 S1 q3) (M5.out.pt.put q3))
    refine anyK_done (by kernel_rfl) ?_ 0
    intro wz hz
    exact LEAF2.out _ _ _ _ _ _ _ _ _ _ _ _ _ _ _ _ _ _ _ _ _ _ _ _ _ _ _ q3 wz (hide (M6.out.ext hz))
  clear hK1
  replace LEAF := hide LEAF
  have EV : Ext w ((w.alloc (.cells #[.int .i64 p, .int .i64 A, .int .i64 B, .int .i64 N, .int .i64 x, .int .i64 y] 25)).alloc (.cells #[.int .i64 0, .int .i64 0, .bool false] 27)) := (Ext.alloc _ _).trans (Ext.alloc _ _)
  have KV : CvAt ((w.alloc (.cells #[.int .i64 p, .int .i64 A, .int .i64 B, .int .i64 N, .int .i64 x, .int .i64 y] 25)).alloc (.cells #[.int .i64 0, .int .i64 0, .bool false] 27)) w.heap.size p A B N x y := (CvAt.alloc w p A B N x y 25).of_block (Below.heap_alloc _ _ _ (by simp))
  have RV : PtAt ((w.alloc (.cells #[.int .i64 p, .int .i64 A, .int .i64 B, .int .i64 N, .int .i64 x, .int .i64 y] 25)).alloc (.cells #[.int .i64 0, .int .i64 0, .bool false] 27)) (w.heap.size + 1) zeroP := by
    have := PtAt.alloc (w.alloc (.cells #[.int .i64 p, .int .i64 A, .int .i64 B, .int .i64 N, .int .i64 x, .int .i64 y] 25)) zeroP 27
    rwa [World.size_alloc] at this
  have hVs : ((w.alloc (.cells #[.int .i64 p, .int .i64 A, .int .i64 B, .int .i64 N, .int .i64 x, .int .i64 y] 25)).alloc (.cells #[.int .i64 0, .int .i64 0, .bool false] 27)).heap.size = w.heap.size + 2 := by simp
  have hCV := hC.ext EV
  have hKV := hK.ext EV
  have GV : Grw (Cx C) w ((w.alloc (.cells #[.int .i64 p, .int .i64 A, .int .i64 B, .int .i64 N, .int .i64 x, .int .i64 y] 25)).alloc (.cells #[.int .i64 0, .int .i64 0, .bool false] 27)) := .of_ext EV
  generalize ((w.alloc (.cells #[.int .i64 p, .int .i64 A, .int .i64 B, .int .i64 N, .int .i64 x, .int .i64 y] 25)).alloc (.cells #[.int .i64 0, .int .i64 0, .bool false] 27)) = V at *
  have HVV : Grw (Cx C) V V := .refl _ _
  clear EV
  refine anyK_begin (Cx C) 9 rfl (by kernel_rfl) ?_
  refine anyK_take 3 1 8 rfl (by decide) (by kernel_rfl) (fun _ _ d _ _ h => by cases d <;> exact h) ?_
  repeat (refine headC_step (fun K hK => ?_); go_simp; first | (refine hK _ ?_; clear hK K) | (apply Exists.intro; refine ⟨fun _ => ?_, hK _ ?_⟩; (fail); clear hK K))
  refine headC_nil ?_
  refine anyK_take 5 1 7 rfl (by decide) (by kernel_rfl) (fun _ _ d _ _ h => by cases d <;> exact h) ?_
  repeat (refine headC_step (fun K hK => ?_); go_simp; first | (refine hK _ ?_; clear hK K) | (apply Exists.intro; refine ⟨fun _ => ?_, hK _ ?_⟩; (fail); clear hK K))
  refine headC_nil ?_
  refine anyK_two 0 7 (by kernel_rfl) ?_ ?_
  · skip
    refine stepK_run rfl ?_
    intro w0' h0 K hKK
    go_simp
    refine (l3Curves_any _).mono ?_
    rintro e w0 ⟨rfl, hv, hw0⟩
    have E0 : Ext V w0 := Ext.trans h0 hw0
    have HV0 : Grw (Cx C) V w0 := HVV.trans (.of_ext E0)
    have hC0 := hCV.ext E0
    have hK0 := hKV.ext E0
    have HG := hv 0 (by omega)
    have sg : V.heap.size ≤ w0'.heap.size := Nat.le_trans HVV.size (Below.size h0)
    go_simp
    refine hKK _ _ HV0 ?_
    clear hKK K hv hw0 E0 HVV hCV hKV
    generalize w0'.heap.size = g at *
    clear h0 w0'
    have H0 : Grw (Cx C) w0 w0 := .refl _ _
    have xg : ¬ Xg C V.heap.size g g := by rintro (h | h) <;> omega
    refine anyK_rebase (X' := Xg C V.heap.size g) (W1 := w0) (fun _ h => grw_rebase HV0 (Nat.le_refl _) h) (.refl _ _) ?_
    have e0 := cell_reC (show w0.cell? ⟨g, 0, none⟩ = some (.int .i64 103) from HG.c0) xg
    have e1 := cell_reC (show w0.cell? ⟨g, 1, none⟩ = some (.int .i64 2) from HG.c1) xg
    have e2 := cell_reC (show w0.cell? ⟨g, 2, none⟩ = some (.int .i64 11) from HG.c2) xg
    have e3 := cell_reC (show w0.cell? ⟨g, 3, none⟩ = some (.int .i64 97) from HG.c3) xg
    have e4 := cell_reC (show w0.cell? ⟨g, 4, none⟩ = some (.int .i64 1) from HG.c4) xg
    have e5 := cell_reC (show w0.cell? ⟨g, 5, none⟩ = some (.int .i64 23) from HG.c5) xg
    refine anyK_take 1 2 4 rfl (by decide) (by kernel_rfl) (fun _ _ d _ _ h => by cases d <;> exact h) ?_
    repeat (refine headC_step (fun K hK => ?_); go_simp; first | (refine hK _ ?_; clear hK K) | (apply Exists.intro; refine ⟨fun _ => ?_, hK _ ?_⟩; (fail); clear hK K))
    refine headC_nil ?_
    clear e0 e1 e2 e3 e4 e5 xg
    refine anyK_two 4 7 (by kernel_rfl) ?_ ?_
    · skip
      refine stepK_run rfl ?_
      intro wn1' hn1 K hKK
      go_simp
      refine (l1Below_any C a b off n cap f 97 _ (hC0.ext hn1) (hK0.ext hn1) hn (by omega) (by omega)).mono ?_
      rintro e wn1 ⟨m, rfl, m0, m1, hCn1, Tn1⟩
      have HVn1 : Grw (Cx C) V wn1 := (HV0.trans (.of_ext hn1)).trans (.of_touch Tn1 rfl)
      have Hn1 : Grw (Cx C) w0 wn1 := (H0.trans (.of_ext hn1)).trans (.of_touch Tn1 rfl)
      have hKn1 := (hK0.ext hn1).touch Tn1
      go_simp
      refine hKK _ _ (Hn1.mono (by rintro k rfl; exact .inl rfl)) ?_
      clear hKK K hn1 Tn1 HV0 hC0 hK0 H0 wn1'
      refine anyK_two 6 7 (by kernel_rfl) ?_ ?_
      · skip
        obtain ⟨q, hq⟩ : ∃ q, mulF 103 2 m.toNat ⟨1, 23, false⟩ = q := ⟨_, rfl⟩
        have HM := fun w => l3Mul_ok crv0 crv0.g m m0 (by omega) w
        simp only [ptV, show (103 : Int).toNat = 103 from rfl, hq] at HM
        replace HM := hide HM
        clear hq
        refine stepK_run rfl ?_
        intro wn2' hn2 K hKK
        go_simp
        refine (HM.out _).mono ?_
        rintro e wn2 ⟨rfl, hwn2⟩
        replace hwn2 := Ext.trans hn2 hwn2
        have HVn2 : Grw (Cx C) V wn2 := HVn1.trans (.of_ext hwn2)
        have hCn2 := hCn1.ext hwn2
        have hKn2 := hKn1.ext hwn2
        have Hn2 : Grw (Cx C) w0 wn2 := Hn1.trans (.of_ext hwn2)
        go_simp
        refine hKK _ _ (Hn2.mono (by rintro k rfl; exact .inl rfl)) ?_
        clear hKK K hn2 hwn2 HVn1 hCn1 hKn1 Hn1 wn2' HM
        refine anyK_one 7 (by kernel_rfl) ?_
        refine stepK_run rfl ?_
        intro wn3' hn3 K hKK
        go_simp
        have En3 := Ext.trans hn3 (Ext.alloc wn3' (.cells #[.int .i64 0, .int .i64 0, .bool false] 27))
        have PSn3 : PtAt (wn3'.alloc (.cells #[.int .i64 0, .int .i64 0, .bool false] 27)) wn3'.heap.size zeroP := PtAt.alloc wn3' zeroP 27
        have sS : V.heap.size ≤ wn3'.heap.size := Nat.le_trans HVn2.size (Below.size hn3)
        have gS : wn3'.heap.size ≠ g := by have := HG.lt; have := Hn2.size; have := Below.size hn3; omega
        generalize wn3'.alloc (.cells #[.int .i64 0, .int .i64 0, .bool false] 27) = wn3 at *
        have HVn3 : Grw (Cx C) V wn3 := HVn2.trans (.of_ext En3)
        have hCn3 := hCn2.ext En3
        have hKn3 := hKn2.ext En3
        have Hn3 : Grw (Cx C) w0 wn3 := Hn2.trans (.of_ext En3)
        refine hKK _ _ (Hn3.mono (by rintro k rfl; exact .inl rfl)) ?_
        clear hKK K hn3 En3 HVn2 hCn2 hKn2 Hn2
        generalize wn3'.heap.size = S1 at *
        clear wn3'
        refine anyK_one 8 (by kernel_rfl) ?_
        refine stepK_run rfl ?_
        intro wn4 hn4 K hKK
        have HVn4 : Grw (Cx C) V wn4 := HVn3.trans (.of_ext hn4)
        have hCn4 := hCn3.ext hn4
        have hKn4 := hKn3.ext hn4
        have PSn4 := PSn3.of_block (hn4.block _ PSn3.lt)
        have Hn4 : Grw (Cx C) w0 wn4 := Hn3.trans (.of_ext hn4)
        have HQ : Grw (Xg C V.heap.size g) w0 (putPt wn4 S1 q) := (Hn4.mono (by rintro k rfl; exact .inl rfl)).trans (.of_touch (touch_putPt wn4 S1 q) (.inr ⟨sS, gS⟩))
        have M8 := hide (midP_of KV RV GV hVs hl HVn4 hCn4 PSn4 sS)
        have M9 := hide (M8.out.turn (touch_putPt wn4 S1 q) (M8.out.pt.put q))
        obtain ⟨t0, t1, t2, u0, u1, u2⟩ := PSn4
        simp only [zeroP] at t0 t1 t2
        go_simp
        refine hKK _ (putPt wn4 S1 q) HQ ?_
        clear hKK K t0 t1 t2 u0 u1 u2
        refine anyK_done (by kernel_rfl) ?_ 0
        intro wz hz
        exact LEAF.out g S1 m q wz (hide (M9.out.ext hz))
      · skip
        refine stepK_run rfl ?_
        intro wn5' hn5 K hKK
        go_simp
        have En5 := Ext.trans hn5 (Ext.alloc wn5' (.cells #[.int .i64 0, .int .i64 0, .bool false] 27))
        have PSn5 : PtAt (wn5'.alloc (.cells #[.int .i64 0, .int .i64 0, .bool false] 27)) wn5'.heap.size zeroP := PtAt.alloc wn5' zeroP 27
        have sS : V.heap.size ≤ wn5'.heap.size := Nat.le_trans HVn1.size (Below.size hn5)
        have gS : wn5'.heap.size ≠ g := by have := HG.lt; have := Hn1.size; have := Below.size hn5; omega
        generalize wn5'.alloc (.cells #[.int .i64 0, .int .i64 0, .bool false] 27) = wn5 at *
        have HVn5 : Grw (Cx C) V wn5 := HVn1.trans (.of_ext En5)
        have hCn5 := hCn1.ext En5
        have hKn5 := hKn1.ext En5
        have Hn5 : Grw (Cx C) w0 wn5 := Hn1.trans (.of_ext En5)
        refine hKK _ _ (Hn5.mono (by rintro k rfl; exact .inl rfl)) ?_
        clear hKK K hn5 En5 HVn1 hCn1 hKn1 Hn1
        generalize wn5'.heap.size = S1 at *
        clear wn5'
        refine anyK_one 6 (by kernel_rfl) ?_
        obtain ⟨q, hq⟩ : ∃ q, mulF 103 2 m.toNat ⟨1, 23, false⟩ = q := ⟨_, rfl⟩
        have HM := fun w => l3Mul_ok crv0 crv0.g m m0 (by omega) w
        simp only [ptV, show (103 : Int).toNat = 103 from rfl, hq] at HM
        replace HM := hide HM
        clear hq
        refine stepK_run rfl ?_
        intro wn6' hn6 K hKK
        go_simp
        refine (HM.out _).mono ?_
        rintro e wn6 ⟨rfl, hwn6⟩
        replace hwn6 := Ext.trans hn6 hwn6
        have HVn6 : Grw (Cx C) V wn6 := HVn5.trans (.of_ext hwn6)
        have hCn6 := hCn5.ext hwn6
        have hKn6 := hKn5.ext hwn6
        have PSn6 := PSn5.of_block (hwn6.block _ PSn5.lt)
        have Hn6 : Grw (Cx C) w0 wn6 := Hn5.trans (.of_ext hwn6)
        go_simp
        refine hKK _ _ (Hn6.mono (by rintro k rfl; exact .inl rfl)) ?_
        clear hKK K hn6 hwn6 HVn5 hCn5 hKn5 PSn5 Hn5 wn6' HM
        refine anyK_one 8 (by kernel_rfl) ?_
        refine stepK_run rfl ?_
        intro wn7 hn7 K hKK
        have HVn7 : Grw (Cx C) V wn7 := HVn6.trans (.of_ext hn7)
        have hCn7 := hCn6.ext hn7
        have hKn7 := hKn6.ext hn7
        have PSn7 := PSn6.of_block (hn7.block _ PSn6.lt)
        have Hn7 : Grw (Cx C) w0 wn7 := Hn6.trans (.of_ext hn7)
        have HQ : Grw (Xg C V.heap.size g) w0 (putPt wn7 S1 q) := (Hn7.mono (by rintro k rfl; exact .inl rfl)).trans (.of_touch (touch_putPt wn7 S1 q) (.inr ⟨sS, gS⟩))
        have M8 := hide (midP_of KV RV GV hVs hl HVn7 hCn7 PSn7 sS)
        have M9 := hide (M8.out.turn (touch_putPt wn7 S1 q) (M8.out.pt.put q))
        obtain ⟨t0, t1, t2, u0, u1, u2⟩ := PSn7
        simp only [zeroP] at t0 t1 t2
        go_simp
        refine hKK _ (putPt wn7 S1 q) HQ ?_
        clear hKK K t0 t1 t2 u0 u1 u2
        refine anyK_done (by kernel_rfl) ?_ 0
        intro wz hz
        exact LEAF.out g S1 m q wz (hide (M9.out.ext hz))
    · skip
      refine stepK_run rfl ?_
      intro wn8' hn8 K hKK
      go_simp
      have En8 := Ext.trans hn8 (Ext.alloc wn8' (.cells #[.int .i64 0, .int .i64 0, .bool false] 27))
      have PSn8 : PtAt (wn8'.alloc (.cells #[.int .i64 0, .int .i64 0, .bool false] 27)) wn8'.heap.size zeroP := PtAt.alloc wn8' zeroP 27
      have sS : V.heap.size ≤ wn8'.heap.size := Nat.le_trans HV0.size (Below.size hn8)
      have gS : wn8'.heap.size ≠ g := by have := HG.lt; have := H0.size; have := Below.size hn8; omega
      generalize wn8'.alloc (.cells #[.int .i64 0, .int .i64 0, .bool false] 27) = wn8 at *
      have HVn8 : Grw (Cx C) V wn8 := HV0.trans (.of_ext En8)
      have hCn8 := hC0.ext En8
      have hKn8 := hK0.ext En8
      have Hn8 : Grw (Cx C) w0 wn8 := H0.trans (.of_ext En8)
      refine hKK _ _ (Hn8.mono (by rintro k rfl; exact .inl rfl)) ?_
      clear hKK K hn8 En8 HV0 hC0 hK0 H0
      generalize wn8'.heap.size = S1 at *
      clear wn8'
      refine anyK_one 4 (by kernel_rfl) ?_
      refine stepK_run rfl ?_
      intro wn9' hn9 K hKK
      go_simp
      refine (l1Below_any C a b off n cap f 97 _ (hCn8.ext hn9) (hKn8.ext hn9) hn (by omega) (by omega)).mono ?_
      rintro e wn9 ⟨m, rfl, m0, m1, hCn9, Tn9⟩
      have HVn9 : Grw (Cx C) V wn9 := (HVn8.trans (.of_ext hn9)).trans (.of_touch Tn9 rfl)
      have Hn9 : Grw (Cx C) w0 wn9 := (Hn8.trans (.of_ext hn9)).trans (.of_touch Tn9 rfl)
      have hKn9 := (hKn8.ext hn9).touch Tn9
      have PSn9 := (PSn8.of_block (hn9.block _ PSn8.lt)).of_block (Tn9.grown.block _ (PSn8.of_block (hn9.block _ PSn8.lt)).lt (by simp; omega))
      go_simp
      refine hKK _ _ (Hn9.mono (by rintro k rfl; exact .inl rfl)) ?_
      clear hKK K hn9 Tn9 HVn8 hCn8 hKn8 PSn8 Hn8 wn9'
      refine anyK_one 6 (by kernel_rfl) ?_
      obtain ⟨q, hq⟩ : ∃ q, mulF 103 2 m.toNat ⟨1, 23, false⟩ = q := ⟨_, rfl⟩
      have HM := fun w => l3Mul_ok crv0 crv0.g m m0 (by omega) w
      simp only [ptV, show (103 : Int).toNat = 103 from rfl, hq] at HM
      replace HM := hide HM
      clear hq
      refine stepK_run rfl ?_
      intro wn10' hn10 K hKK
      go_simp
      refine (HM.out _).mono ?_
      rintro e wn10 ⟨rfl, hwn10⟩
      replace hwn10 := Ext.trans hn10 hwn10
      have HVn10 : Grw (Cx C) V wn10 := HVn9.trans (.of_ext hwn10)
      have hCn10 := hCn9.ext hwn10
      have hKn10 := hKn9.ext hwn10
      have PSn10 := PSn9.of_block (hwn10.block _ PSn9.lt)
      have Hn10 : Grw (Cx C) w0 wn10 := Hn9.trans (.of_ext hwn10)
      go_simp
      refine hKK _ _ (Hn10.mono (by rintro k rfl; exact .inl rfl)) ?_
      clear hKK K hn10 hwn10 HVn9 hCn9 hKn9 PSn9 Hn9 wn10' HM
      refine anyK_one 8 (by kernel_rfl) ?_
      refine stepK_run rfl ?_
      intro wn11 hn11 K hKK
      have HVn11 : Grw (Cx C) V wn11 := HVn10.trans (.of_ext hn11)
      have hCn11 := hCn10.ext hn11
      have hKn11 := hKn10.ext hn11
      have PSn11 := PSn10.of_block (hn11.block _ PSn10.lt)
      have Hn11 : Grw (Cx C) w0 wn11 := Hn10.trans (.of_ext hn11)
      have HQ : Grw (Xg C V.heap.size g) w0 (putPt wn11 S1 q) := (Hn11.mono (by rintro k rfl; exact .inl rfl)).trans (.of_touch (touch_putPt wn11 S1 q) (.inr ⟨sS, gS⟩))
      have M8 := hide (midP_of KV RV GV hVs hl HVn11 hCn11 PSn11 sS)
      have M9 := hide (M8.out.turn (touch_putPt wn11 S1 q) (M8.out.pt.put q))
      obtain ⟨t0, t1, t2, u0, u1, u2⟩ := PSn11
      simp only [zeroP] at t0 t1 t2
      go_simp
      refine hKK _ (putPt wn11 S1 q) HQ ?_
      clear hKK K t0 t1 t2 u0 u1 u2
      refine anyK_done (by kernel_rfl) ?_ 0
      intro wz hz
      exact LEAF.out g S1 m q wz (hide (M9.out.ext hz))
  · skip
    refine stepK_run rfl ?_
    intro wn12' hn12 K hKK
    go_simp
    have En12 := Ext.trans hn12 (Ext.alloc wn12' (.cells #[.int .i64 0, .int .i64 0, .bool false] 27))
    have PSn12 : PtAt (wn12'.alloc (.cells #[.int .i64 0, .int .i64 0, .bool false] 27)) wn12'.heap.size zeroP := PtAt.alloc wn12' zeroP 27
    have sS : V.heap.size ≤ wn12'.heap.size := Nat.le_trans HVV.size (Below.size hn12)
    generalize wn12'.alloc (.cells #[.int .i64 0, .int .i64 0, .bool false] 27) = wn12 at *
    have HVn12 : Grw (Cx C) V wn12 := HVV.trans (.of_ext En12)
    have hCn12 := hCV.ext En12
    have hKn12 := hKV.ext En12
    refine hKK _ _ HVn12 ?_
    clear hKK K hn12 En12 HVV hCV hKV
    generalize wn12'.heap.size = S1 at *
    clear wn12'
    refine anyK_one 0 (by kernel_rfl) ?_
    refine stepK_run rfl ?_
    intro w0' h0 K hKK
    go_simp
    refine (l3Curves_any _).mono ?_
    rintro e w0 ⟨rfl, hv, hw0⟩
    have E0 : Ext wn12 w0 := Ext.trans h0 hw0
    have HV0 : Grw (Cx C) V w0 := HVn12.trans (.of_ext E0)
    have hC0 := hCn12.ext E0
    have hK0 := hKn12.ext E0
    have PS0 := PSn12.of_block (E0.block _ PSn12.lt)
    have HG := hv 0 (by omega)
    have sg : V.heap.size ≤ w0'.heap.size := Nat.le_trans HVn12.size (Below.size h0)
    have gS : S1 ≠ w0'.heap.size := by have := PSn12.lt; have := Below.size h0; omega
    go_simp
    refine hKK _ _ HV0 ?_
    clear hKK K hv hw0 E0 HVn12 hCn12 hKn12 PSn12
    generalize w0'.heap.size = g at *
    clear h0 w0'
    have H0 : Grw (Cx C) w0 w0 := .refl _ _
    have xg : ¬ Xg C V.heap.size g g := by rintro (h | h) <;> omega
    refine anyK_rebase (X' := Xg C V.heap.size g) (W1 := w0) (fun _ h => grw_rebase HV0 (Nat.le_refl _) h) (.refl _ _) ?_
    have e0 := cell_reC (show w0.cell? ⟨g, 0, none⟩ = some (.int .i64 103) from HG.c0) xg
    have e1 := cell_reC (show w0.cell? ⟨g, 1, none⟩ = some (.int .i64 2) from HG.c1) xg
    have e2 := cell_reC (show w0.cell? ⟨g, 2, none⟩ = some (.int .i64 11) from HG.c2) xg
    have e3 := cell_reC (show w0.cell? ⟨g, 3, none⟩ = some (.int .i64 97) from HG.c3) xg
    have e4 := cell_reC (show w0.cell? ⟨g, 4, none⟩ = some (.int .i64 1) from HG.c4) xg
    have e5 := cell_reC (show w0.cell? ⟨g, 5, none⟩ = some (.int .i64 23) from HG.c5) xg
    refine anyK_take 1 2 3 rfl (by decide) (by kernel_rfl) (fun _ _ d _ _ h => by cases d <;> exact h) ?_
    repeat (refine headC_step (fun K hK => ?_); go_simp; first | (refine hK _ ?_; clear hK K) | (apply Exists.intro; refine ⟨fun _ => ?_, hK _ ?_⟩; (fail); clear hK K))
    refine headC_nil ?_
    clear e0 e1 e2 e3 e4 e5 xg
    refine anyK_one 4 (by kernel_rfl) ?_
    refine stepK_run rfl ?_
    intro wn13' hn13 K hKK
    go_simp
    refine (l1Below_any C a b off n cap f 97 _ (hC0.ext hn13) (hK0.ext hn13) hn (by omega) (by omega)).mono ?_
    rintro e wn13 ⟨m, rfl, m0, m1, hCn13, Tn13⟩
    have HVn13 : Grw (Cx C) V wn13 := (HV0.trans (.of_ext hn13)).trans (.of_touch Tn13 rfl)
    have Hn13 : Grw (Cx C) w0 wn13 := (H0.trans (.of_ext hn13)).trans (.of_touch Tn13 rfl)
    have hKn13 := (hK0.ext hn13).touch Tn13
    have PSn13 := (PS0.of_block (hn13.block _ PS0.lt)).of_block (Tn13.grown.block _ (PS0.of_block (hn13.block _ PS0.lt)).lt (by simp; omega))
    go_simp
    refine hKK _ _ (Hn13.mono (by rintro k rfl; exact .inl rfl)) ?_
    clear hKK K hn13 Tn13 HV0 hC0 hK0 PS0 H0 wn13'
    refine anyK_one 6 (by kernel_rfl) ?_
    obtain ⟨q, hq⟩ : ∃ q, mulF 103 2 m.toNat ⟨1, 23, false⟩ = q := ⟨_, rfl⟩
    have HM := fun w => l3Mul_ok crv0 crv0.g m m0 (by omega) w
    simp only [ptV, show (103 : Int).toNat = 103 from rfl, hq] at HM
    replace HM := hide HM
    clear hq
    refine stepK_run rfl ?_
    intro wn14' hn14 K hKK
    go_simp
    refine (HM.out _).mono ?_
    rintro e wn14 ⟨rfl, hwn14⟩
    replace hwn14 := Ext.trans hn14 hwn14
    have HVn14 : Grw (Cx C) V wn14 := HVn13.trans (.of_ext hwn14)
    have hCn14 := hCn13.ext hwn14
    have hKn14 := hKn13.ext hwn14
    have PSn14 := PSn13.of_block (hwn14.block _ PSn13.lt)
    have Hn14 : Grw (Cx C) w0 wn14 := Hn13.trans (.of_ext hwn14)
    go_simp
    refine hKK _ _ (Hn14.mono (by rintro k rfl; exact .inl rfl)) ?_
    clear hKK K hn14 hwn14 HVn13 hCn13 hKn13 PSn13 Hn13 wn14' HM
    refine anyK_one 8 (by kernel_rfl) ?_
    refine stepK_run rfl ?_
    intro wn15 hn15 K hKK
    have HVn15 : Grw (Cx C) V wn15 := HVn14.trans (.of_ext hn15)
    have hCn15 := hCn14.ext hn15
    have hKn15 := hKn14.ext hn15
    have PSn15 := PSn14.of_block (hn15.block _ PSn14.lt)
    have Hn15 : Grw (Cx C) w0 wn15 := Hn14.trans (.of_ext hn15)
    have HQ : Grw (Xg C V.heap.size g) w0 (putPt wn15 S1 q) := (Hn15.mono (by rintro k rfl; exact .inl rfl)).trans (.of_touch (touch_putPt wn15 S1 q) (.inr ⟨sS, gS⟩))
    have M8 := hide (midP_of KV RV GV hVs hl HVn15 hCn15 PSn15 sS)
    have M9 := hide (M8.out.turn (touch_putPt wn15 S1 q) (M8.out.pt.put q))
    obtain ⟨t0, t1, t2, u0, u1, u2⟩ := PSn15
    simp only [zeroP] at t0 t1 t2
    go_simp
    refine hKK _ (putPt wn15 S1 q) HQ ?_
    clear hKK K t0 t1 t2 u0 u1 u2
    refine anyK_done (by kernel_rfl) ?_ 0
    intro wz hz
    exact LEAF.out g S1 m q wz (hide (M9.out.ext hz))

end Go.Proofs.YtnhemiaklkkilaaDoor
