/- Walks: the model's draws of twisted curves and pairs. Walks: the model's draws of pairs and of bytes. Walk: the law of twisted curves. -/
import Derived.Test.YtcfpmillbdkpcaaDoorCursN
import Derived.Test.YtcfpmillbdkpcaaDoorStepsC
import Derived.Test.YtcfpmillbdkpcaaDoorBytPr
import Derived.Test.YtcfpmillbdkpcaaDoorExpAll
import Derived.Laws.BytesArg
namespace Go.Proofs.YtcfpmillbdkpcaaDoor
set_option linter.unusedVariables false

set_option linter.unusedSimpArgs false
open Go.RowKit Go.Sort

theorem Blk.of_block {w w' : World} {C : Nat} {vs : List Value} (h : Blk w C vs) (e : w'.heap[C]? = w.heap[C]?) : Blk w' C vs := fun i v hi =>
  ⟨(World.cell?_of_block (a := ⟨C, i, none⟩) e).trans (h i v hi).1, (World.frozen?_of_block (a := ⟨C, i, none⟩) e).trans (h i v hi).2⟩

theorem Blk.set {w : World} {C : Nat} {vs : List Value} (h : Blk w C vs) (i : Nat) (hi : i < vs.length) (v : Value) : Blk (w.setCell ⟨C, i, none⟩ v) C (vs.set i v) := fun k x hx => by
  rw [World.frozen?_setCell]
  by_cases e : i = k
  · subst e
    rw [List.getElem?_set_self hi] at hx
    cases hx
    have := h i _ (List.getElem?_eq_getElem hi)
    exact ⟨World.cell?_setCell_same _ _ _ this.1, this.2⟩
  · rw [List.getElem?_set_ne e] at hx
    exact ⟨(World.cell?_setCell_other _ _ _ _ (fun q => e (by have := congrArg Addr.off q; simp at this; omega))).trans (h k x hx).1, (h k x hx).2⟩

theorem touch_putL (C : Nat) : ∀ (vs : List Value) (i : Nat) (w0 w : World), Touch C w0 w → Touch C w0 (putL C i vs w)
  | [], _, _, _, h => h
  | v :: vs, i, w0, w, h => touch_putL C vs (i + 1) w0 _ (h.set i v)

theorem Cur.lt {w : World} {C : Nat} {a : Option Addr} {n cap : Nat} (h : Cur w C a n cap) : C < w.heap.size := block_lt_of_cell h.c0

/-- In mid-draw: blocks of the call's own, the cursor, the bytes that are drawn of. -/
structure Md (w wr : World) (C : Nat) (a : Option Addr) (b off n cap : Nat) (f : Nat → Int) (bs : List (Nat × List Value)) : Prop where
  blk : ∀ x, x ∈ bs → Blk wr x.1 x.2 ∧ w.heap.size ≤ x.1 ∧ x.1 < wr.heap.size ∧ x.1 ≠ C
  cur : Cur wr C a n cap
  code : Code wr C a b off n f
  grw : Grw (Cx C) w wr
  old : 0 < n → b < w.heap.size

section
variable {w wr w1 : World} {C : Nat} {a : Option Addr} {b off n cap : Nat} {f : Nat → Int} {bs : List (Nat × List Value)}

theorem Md.ext (h : Md w wr C a b off n cap f bs) (e : Ext wr w1) : Md w w1 C a b off n cap f bs :=
  ⟨fun x hx => ⟨(h.blk x hx).1.ext e (h.blk x hx).2.2.1, (h.blk x hx).2.1, Nat.lt_of_lt_of_le (h.blk x hx).2.2.1 (Below.size e), (h.blk x hx).2.2.2⟩, h.cur.of_block (e.block C h.cur.lt), ⟨h.code.seg.of_all e, h.code.byts, h.code.ne⟩, h.grw.trans (.of_ext e), h.old⟩

theorem Md.touch (h : Md w wr C a b off n cap f bs) (t : Touch C wr w1) (hc : Cur w1 C a n cap) : Md w w1 C a b off n cap f bs :=
  ⟨fun x hx => ⟨(h.blk x hx).1.of_block (t.grown.block _ (h.blk x hx).2.2.1 (by simp; exact (h.blk x hx).2.2.2)), (h.blk x hx).2.1, Nat.lt_of_lt_of_le (h.blk x hx).2.2.1 t.grown.size, (h.blk x hx).2.2.2⟩, hc, h.code.touch t, h.grw.trans (.of_touch t rfl), h.old⟩

theorem Md.add (h : Md w wr C a b off n cap f bs) (vs : List Value) (t : TypeId) : Md w (wr.alloc (.cells vs.toArray t)) C a b off n cap f ((wr.heap.size, vs) :: bs) := by
  have e := h.ext (Ext.alloc wr (.cells vs.toArray t))
  refine ⟨fun x hx => ?_, e.cur, e.code, e.grw, e.old⟩
  rcases List.mem_cons.1 hx with rfl | hx
  · exact ⟨Blk.alloc wr vs t, h.grw.size, by simp, by have := h.cur.lt; simp only; omega⟩
  · exact e.blk x hx

theorem Md.turn {S : Nat} {vs vs' : List Value} (h : Md w wr C a b off n cap f ((S, vs) :: bs)) (t : Touch S wr w1) (hB : Blk w1 S vs') (hne : ∀ x, x ∈ bs → x.1 ≠ S) : Md w w1 C a b off n cap f ((S, vs') :: bs) := by
  have hS := h.blk (S, vs) (List.mem_cons_self ..)
  refine ⟨fun x hx => ?_, h.cur.of_block (t.grown.block C h.cur.lt (by simp; exact fun e => hS.2.2.2 e.symm)), ⟨h.code.seg.touch t (fun q => by have := h.old q; have := hS.2.1; simp only at this; omega), h.code.byts, h.code.ne⟩, ?_, h.old⟩
  · rcases List.mem_cons.1 hx with rfl | hx
    · exact ⟨hB, hS.2.1, Nat.lt_of_lt_of_le hS.2.2.1 t.grown.size, hS.2.2.2⟩
    · have q := h.blk x (List.mem_cons_of_mem _ hx)
      exact ⟨q.1.of_block (t.grown.block _ q.2.2.1 (by simp; exact hne x hx)), q.2.1, Nat.lt_of_lt_of_le q.2.2.1 t.grown.size, q.2.2.2⟩
  · exact ⟨t.grown.os.trans h.grw.os, t.grown.tape.trans h.grw.tape, t.grown.output.trans h.grw.output, Nat.le_trans h.grw.size t.grown.size, fun q hq hn => (t.grown.block q (Nat.lt_of_lt_of_le hq h.grw.size) (by simp; have := hS.2.1; simp only at this; omega)).trans (h.grw.block q hq hn)⟩

theorem Md.put {S : Nat} {vs : List Value} (h : Md w wr C a b off n cap f ((S, vs) :: bs)) (vs' : List Value) (hl : vs'.length = vs.length) (hne : ∀ x, x ∈ bs → x.1 ≠ S) : Md w (putL S 0 vs' wr) C a b off n cap f ((S, vs') :: bs) :=
  h.turn (touch_putL S vs' 0 wr wr (Touch.refl S wr)) ((h.blk _ (List.mem_cons_self ..)).1.put vs' hl) hne

theorem Md.set {S : Nat} {vs : List Value} (h : Md w wr C a b off n cap f ((S, vs) :: bs)) (i : Nat) (hi : i < vs.length) (v : Value) (hne : ∀ x, x ∈ bs → x.1 ≠ S) : Md w (wr.setCell ⟨S, i, none⟩ v) C a b off n cap f ((S, vs.set i v) :: bs) :=
  h.turn ((Touch.refl S wr).set i v) ((h.blk _ (List.mem_cons_self ..)).1.set i hi v) hne

theorem Md.swap {x y : Nat × List Value} (h : Md w wr C a b off n cap f (x :: y :: bs)) : Md w wr C a b off n cap f (y :: x :: bs) :=
  ⟨fun z hz => h.blk z (by simp only [List.mem_cons] at hz ⊢; rcases hz with q | q | q; exact .inr (.inl q); exact .inl q; exact .inr (.inr q)), h.cur, h.code, h.grw, h.old⟩

theorem Md.drop {x : Nat × List Value} (h : Md w wr C a b off n cap f (x :: bs)) : Md w wr C a b off n cap f bs := ⟨fun z hz => h.blk z (List.mem_cons_of_mem _ hz), h.cur, h.code, h.grw, h.old⟩

theorem Md.below (h : Md w wr C a b off n cap f bs) (hC : w.heap.size ≤ C) : Below w.heap.size w wr := h.grw.below (fun q hq e => by unfold Cx at e; omega) (Nat.le_refl _)

end

/-- The twisted curve j lies in block S, from place o on. -/
structure EdO (w : World) (S o j : Nat) : Prop where
  c0 : w.cell? ⟨S, o, none⟩ = some (.int .i64 (eP j))
  c1 : w.cell? ⟨S, o + 1, none⟩ = some (.int .i64 (eD j))
  c2 : w.cell? ⟨S, o + 2, none⟩ = some (.int .i64 (eL j))
  c3 : w.cell? ⟨S, o + 3, none⟩ = some (.int .i64 (eX j))
  c4 : w.cell? ⟨S, o + 4, none⟩ = some (.int .i64 (eY j))

theorem EdO.of_block {w w' : World} {S o j : Nat} (h : EdO w S o j) (e : w'.heap[S]? = w.heap[S]?) : EdO w' S o j := by
  have k : ∀ q, w'.cell? ⟨S, q, none⟩ = w.cell? ⟨S, q, none⟩ := fun q => World.cell?_of_block (a := ⟨S, q, none⟩) e
  exact ⟨(k _).trans h.c0, (k _).trans h.c1, (k _).trans h.c2, (k _).trans h.c3, (k _).trans h.c4⟩

theorem EdO.lt {w : World} {S o j : Nat} (h : EdO w S o j) : S < w.heap.size := block_lt_of_cell h.c0

set_option maxHeartbeats 800000 in
set_option maxRecDepth 100000 in
theorem l4Bases_any (w : World) : Calls Tryd.prog 54 #[] w fun e w' => e = .returned (.slice (some ⟨w.heap.size, 0, none⟩) 3 3) ∧ (∀ j, j < 3 → EdO w' w.heap.size (j * 5) j) ∧ Ext w w' := by
  go_enter Tryd.func54, Tryd.ntmps54
  go_wp2
  go_ret
  refine ⟨rfl, fun j hj => ?_, Ext.alloc _ _⟩
  match j, hj with
  | 0, _ => constructor <;> exact (World.cell?_alloc_at _ _ _ _ rfl).trans rfl
  | 1, _ => constructor <;> exact (World.cell?_alloc_at _ _ _ _ rfl).trans rfl
  | 2, _ => constructor <;> exact (World.cell?_alloc_at _ _ _ _ rfl).trans rfl

/-- A twisted curve's numbers are small. -/
structure EBd (P D L x y : Int) : Prop where
  p0 : 0 ≤ P
  p1 : P ≤ 1048576
  d0 : 0 ≤ D
  d1 : D ≤ 1048576
  l0 : 0 ≤ L
  l1 : L ≤ 1048576
  x0 : 0 ≤ x
  x1 : x ≤ 10000
  y0 : 0 ≤ y
  y1 : y ≤ 10000

theorem ebd (j : Nat) : EBd (eP j) (eD j) (eL j) (eX j) (eY j) ∧ eP j ≤ 10037 ∧ eX j ≤ 9000 := by
  match j with
  | 0 => exact ⟨⟨by decide, by decide, by decide, by decide, by decide, by decide, by decide, by decide, by decide, by decide⟩, by decide, by decide⟩
  | 1 => exact ⟨⟨by decide, by decide, by decide, by decide, by decide, by decide, by decide, by decide, by decide, by decide⟩, by decide, by decide⟩
  | _ + 2 => exact ⟨⟨by simp [eP], by simp [eP], by simp [eD], by simp [eD], by simp [eL], by simp [eL], by simp [eX], by simp [eX], by simp [eY], by simp [eY]⟩, by simp [eP], by simp [eX]⟩

theorem seg_lit (w : World) (xs : Array Value) (m : Nat) (g : Nat → Int) (h : ∀ i, i < m → xs[i]? = some (.int .i64 (g i))) : Seg (w.alloc (.cells xs 3)) (some ⟨w.heap.size, 0, none⟩) w.heap.size 0 m g :=
  ⟨fun _ => rfl, fun i hi => by rw [Nat.zero_add]; exact (World.cell?_alloc_at _ _ _ _ rfl).trans (h i hi)⟩

/-- The call answers some twisted curve of small numbers, and of what was there turns the cursor alone. -/
def GivesAnyE (w : World) (C : Nat) (a : Option Addr) (b off n cap : Nat) (f : Nat → Int) (e : Ending) (w' : World) : Prop :=
  ∃ P D L x y : Int, e = .returned (.agg #[.int .i64 P, .int .i64 D, .int .i64 L, .int .i64 x, .int .i64 y]) ∧ EBd P D L x y ∧ Md w w' C a b off n cap f []

set_option maxHeartbeats 6400000 in
set_option maxRecDepth 100000 in
theorem l4DrawAny_any (C : Nat) (a : Option Addr) (b off n cap : Nat) (f : Nat → Int) (w : World) (hM : Md w w C a b off n cap f []) (hn : n ≤ 1048576) :
    Calls Tryd.prog 70 #[.pointer (some ⟨C, 0, none⟩)] w fun e w' => GivesAnyE w C a b off n cap f e w' := by
  have hl := hM.cur.lt
  have M0 := hM.add [.int .i64 0, .int .i64 0, .int .i64 0, .int .i64 0, .int .i64 0] 37
  go_enter Tryd.func70, Tryd.ntmps70
  go_wp2_with fail
  refine (l4Bases_any _).mono ?_
  rintro e w1 ⟨rfl, hv, hw1⟩
  have M1 := hide (M0.ext hw1)
  go_wp2_with fail
  refine (l1Below_any C a b off n cap f 3 _ M1.out.cur M1.out.code hn (by omega) (by omega)).mono ?_
  rintro e w2 ⟨x, rfl, x0, x1, hC2, T2⟩
  have M2 := M1.out.touch T2 hC2
  obtain ⟨j, rfl⟩ := Int.eq_ofNat_of_zero_le x0
  have hj : j < 3 := by omega
  have hj' : (j : Int) < 3 := by omega
  have kS : EdO w2 (w.heap.size + 1) (j * 5) j := by
    have q := hv j hj
    rw [World.size_alloc] at q
    exact q.of_block (T2.grown.block _ q.lt (by simp; omega))
  clear M1 hv hw1 T2 hC2 M0 hM
  obtain ⟨c0, c1, c2, c3, c4⟩ := kS
  have M3' := hide (M2.add [.int .i64 (eP j), .int .i64 (eD j), .int .i64 (eL j), .int .i64 (eX j), .int .i64 (eY j)] 37)
  have hk' := ebd j
  have hRS : w.heap.size ≠ w2.heap.size := by have := (M2.blk (w.heap.size, [.int .i64 0, .int .i64 0, .int .i64 0, .int .i64 0, .int .i64 0]) (by simp)).2.2.1; simp only at this; omega
  go_wp2_with fail
  clear c0 c1 c2 c3 c4
  generalize eP j = P at *
  generalize eD j = D at *
  generalize eL j = L at *
  generalize eX j = x at *
  generalize eY j = y at *
  refine (l1Below_any C a b off n cap f 25 _ M3'.out.cur M3'.out.code hn (by omega) (by omega)).mono ?_
  rintro e w3 ⟨d, rfl, d0, d1, hC3, T3⟩
  have M3 := hide (M3'.out.touch T3 hC3)
  clear M3' T3 hC3 M2 hj hj' x0 x1
  generalize w2.heap.size = S at *
  obtain ⟨hk, hp1, hx1⟩ := hk'
  by_cases c0 : d = 0
  · subst c0
    have E4 := Ext.alloc w3 (.cells #[.int .i64 0, .int .i64 13, .int .i64 103, .int .i64 1021, .int .i64 1048573, .int .i64 21] 3)
    have M4 := hide (M3.out.ext E4)
    obtain ⟨g, hg⟩ : ∃ g : Nat → Int, g = fun i => if i = 0 then 0 else if i = 1 then 13 else if i = 2 then 103 else if i = 3 then 1021 else if i = 4 then 1048573 else 21 := ⟨_, rfl⟩
    have Sg := seg_lit w3 #[.int .i64 0, .int .i64 13, .int .i64 103, .int .i64 1021, .int .i64 1048573, .int .i64 21] 6 g (fun i hi => by
      rw [hg]
      have : i = 0 ∨ i = 1 ∨ i = 2 ∨ i = 3 ∨ i = 4 ∨ i = 5 := by omega
      rcases this with rfl | rfl | rfl | rfl | rfl | rfl <;> rfl)
    have hb : ∀ i, i < 6 → 0 ≤ g i ∧ g i ≤ 1048576 := fun i hi => by
      rw [hg]
      have h : i = 0 ∨ i = 1 ∨ i = 2 ∨ i = 3 ∨ i = 4 ∨ i = 5 := by omega
      have := hk.p0; have := hk.p1
      rcases h with rfl | rfl | rfl | rfl | rfl | rfl <;> simp <;> omega
    clear hg
    have hne : w3.heap.size ≠ C := by have := M3.out.cur.lt; omega
    have KR := (M3.out.blk (w.heap.size, [.int .i64 0, .int .i64 0, .int .i64 0, .int .i64 0, .int .i64 0]) (by simp)).1
    have KS := (M3.out.blk (S, [.int .i64 P, .int .i64 D, .int .i64 L, .int .i64 x, .int .i64 y]) (by simp)).1
    have z0 := (KR 0 _ rfl).1
    have z1 := (KR 1 _ rfl).1
    have z2 := (KR 2 _ rfl).1
    have z3 := (KR 3 _ rfl).1
    have z4 := (KR 4 _ rfl).1
    have y0 := (KR 0 _ rfl).2
    have y1 := (KR 1 _ rfl).2
    have y2 := (KR 2 _ rfl).2
    have y3 := (KR 3 _ rfl).2
    have y4 := (KR 4 _ rfl).2
    have k0 := (KS 0 _ rfl).1
    have k1 := (KS 1 _ rfl).1
    have k2 := (KS 2 _ rfl).1
    have k3 := (KS 3 _ rfl).1
    have k4 := (KS 4 _ rfl).1
    have u0 := (KS 0 _ rfl).2
    have u1 := (KS 1 _ rfl).2
    have u2 := (KS 2 _ rfl).2
    have u3 := (KS 3 _ rfl).2
    have u4 := (KS 4 _ rfl).2
    clear KR KS
    go_wp2_with fail
    clear z0 y0 k0 u0 z1 y1 k1 u1 z2 y2 k2 u2 z3 y3 k3 u3 z4 y4 k4 u4
    refine (l1PickInt_of C a b off n cap f _ w3.heap.size 0 6 _ _ _ M4.out.cur M4.out.code hn Sg (by omega) (by omega) hne).mono ?_
    rintro e w4 ⟨i, hi, rfl, hC4, T4⟩
    have M5 := hide (M4.out.touch T4 hC4)
    clear M3 M4 T4 hC4 Sg E4 hne
    have hv := hb i hi
    generalize g i = v at *
    clear hb
    have KR := (M5.out.blk (w.heap.size, [.int .i64 0, .int .i64 0, .int .i64 0, .int .i64 0, .int .i64 0]) (by simp)).1
    have KS := (M5.out.blk (S, [.int .i64 P, .int .i64 D, .int .i64 L, .int .i64 x, .int .i64 y]) (by simp)).1
    have z0 := (KR 0 _ rfl).1
    have z1 := (KR 1 _ rfl).1
    have z2 := (KR 2 _ rfl).1
    have z3 := (KR 3 _ rfl).1
    have z4 := (KR 4 _ rfl).1
    have y0 := (KR 0 _ rfl).2
    have y1 := (KR 1 _ rfl).2
    have y2 := (KR 2 _ rfl).2
    have y3 := (KR 3 _ rfl).2
    have y4 := (KR 4 _ rfl).2
    have k0 := (KS 0 _ rfl).1
    have k1 := (KS 1 _ rfl).1
    have k2 := (KS 2 _ rfl).1
    have k3 := (KS 3 _ rfl).1
    have k4 := (KS 4 _ rfl).1
    have u0 := (KS 0 _ rfl).2
    have u1 := (KS 1 _ rfl).2
    have u2 := (KS 2 _ rfl).2
    have u3 := (KS 3 _ rfl).2
    have u4 := (KS 4 _ rfl).2
    clear KR KS
    go_wp2
    clear z0 y0 k0 u0 z1 y1 k1 u1 z2 y2 k2 u2 z3 y3 k3 u3 z4 y4 k4 u4
    have M6 := M5.out.set 0 (by simp) (.int .i64 v) (by simp only [List.mem_singleton]; rintro q rfl; exact hRS)
    generalize w4.setCell ⟨S, 0, none⟩ (.int .i64 v) = wE at *
    obtain ⟨W, hW⟩ : ∃ W, putL w.heap.size 0 [.int .i64 v, .int .i64 D, .int .i64 L, .int .i64 x, .int .i64 y] wE = W := ⟨_, rfl⟩
    have MF := M6.swap.put [.int .i64 v, .int .i64 D, .int .i64 L, .int .i64 x, .int .i64 y] rfl (by simp only [List.mem_singleton]; rintro q rfl; exact hRS.symm)
    rw [hW] at MF
    have BW := (MF.blk _ (List.mem_cons_self ..)).1
    have HG : Hid (GivesAnyE w C a b off n cap f (.returned (.agg #[.int .i64 v, .int .i64 D, .int .i64 L, .int .i64 x, .int .i64 y])) W) := ⟨v, D, L, x, y, rfl, ⟨hv.1, hv.2, hk.d0, hk.d1, hk.l0, hk.l1, hk.x0, hk.x1, hk.y0, hk.y1⟩, MF.drop.drop⟩
    simp only [putL, Nat.zero_add, Nat.reduceAdd] at hW
    simp only [hW]
    have q0 := (BW 0 _ rfl).1
    have q1 := (BW 1 _ rfl).1
    have q2 := (BW 2 _ rfl).1
    have q3 := (BW 3 _ rfl).1
    have q4 := (BW 4 _ rfl).1
    refine bodyPost_ret (v := .agg #[.int .i64 v, .int .i64 D, .int .i64 L, .int .i64 x, .int .i64 y]) (by simp [results, Tryd.results70, go_sem, q0, q1, q2, q3, q4]) rfl HG.out
  by_cases c1 : d = 1
  · subst c1
    have E4 := Ext.alloc w3 (.cells #[.int .i64 1, .int .i64 2, .int .i64 4, .int .i64 P] 3)
    have M4 := hide (M3.out.ext E4)
    obtain ⟨g, hg⟩ : ∃ g : Nat → Int, g = fun i => if i = 0 then 1 else if i = 1 then 2 else if i = 2 then 4 else P := ⟨_, rfl⟩
    have Sg := seg_lit w3 #[.int .i64 1, .int .i64 2, .int .i64 4, .int .i64 P] 4 g (fun i hi => by
      rw [hg]
      have : i = 0 ∨ i = 1 ∨ i = 2 ∨ i = 3 := by omega
      rcases this with rfl | rfl | rfl | rfl <;> rfl)
    have hb : ∀ i, i < 4 → 0 ≤ g i ∧ g i ≤ 1048576 := fun i hi => by
      rw [hg]
      have h : i = 0 ∨ i = 1 ∨ i = 2 ∨ i = 3 := by omega
      have := hk.p0; have := hk.p1
      rcases h with rfl | rfl | rfl | rfl <;> simp <;> omega
    clear hg
    have hne : w3.heap.size ≠ C := by have := M3.out.cur.lt; omega
    have KR := (M3.out.blk (w.heap.size, [.int .i64 0, .int .i64 0, .int .i64 0, .int .i64 0, .int .i64 0]) (by simp)).1
    have KS := (M3.out.blk (S, [.int .i64 P, .int .i64 D, .int .i64 L, .int .i64 x, .int .i64 y]) (by simp)).1
    have z0 := (KR 0 _ rfl).1
    have z1 := (KR 1 _ rfl).1
    have z2 := (KR 2 _ rfl).1
    have z3 := (KR 3 _ rfl).1
    have z4 := (KR 4 _ rfl).1
    have y0 := (KR 0 _ rfl).2
    have y1 := (KR 1 _ rfl).2
    have y2 := (KR 2 _ rfl).2
    have y3 := (KR 3 _ rfl).2
    have y4 := (KR 4 _ rfl).2
    have k0 := (KS 0 _ rfl).1
    have k1 := (KS 1 _ rfl).1
    have k2 := (KS 2 _ rfl).1
    have k3 := (KS 3 _ rfl).1
    have k4 := (KS 4 _ rfl).1
    have u0 := (KS 0 _ rfl).2
    have u1 := (KS 1 _ rfl).2
    have u2 := (KS 2 _ rfl).2
    have u3 := (KS 3 _ rfl).2
    have u4 := (KS 4 _ rfl).2
    clear KR KS
    go_wp2_with fail
    clear z0 y0 k0 u0 z1 y1 k1 u1 z2 y2 k2 u2 z3 y3 k3 u3 z4 y4 k4 u4
    refine (l1PickInt_of C a b off n cap f _ w3.heap.size 0 4 _ _ _ M4.out.cur M4.out.code hn Sg (by omega) (by omega) hne).mono ?_
    rintro e w4 ⟨i, hi, rfl, hC4, T4⟩
    have M5 := hide (M4.out.touch T4 hC4)
    clear M3 M4 T4 hC4 Sg E4 hne
    have hv := hb i hi
    generalize g i = v at *
    clear hb
    have KR := (M5.out.blk (w.heap.size, [.int .i64 0, .int .i64 0, .int .i64 0, .int .i64 0, .int .i64 0]) (by simp)).1
    have KS := (M5.out.blk (S, [.int .i64 P, .int .i64 D, .int .i64 L, .int .i64 x, .int .i64 y]) (by simp)).1
    have z0 := (KR 0 _ rfl).1
    have z1 := (KR 1 _ rfl).1
    have z2 := (KR 2 _ rfl).1
    have z3 := (KR 3 _ rfl).1
    have z4 := (KR 4 _ rfl).1
    have y0 := (KR 0 _ rfl).2
    have y1 := (KR 1 _ rfl).2
    have y2 := (KR 2 _ rfl).2
    have y3 := (KR 3 _ rfl).2
    have y4 := (KR 4 _ rfl).2
    have k0 := (KS 0 _ rfl).1
    have k1 := (KS 1 _ rfl).1
    have k2 := (KS 2 _ rfl).1
    have k3 := (KS 3 _ rfl).1
    have k4 := (KS 4 _ rfl).1
    have u0 := (KS 0 _ rfl).2
    have u1 := (KS 1 _ rfl).2
    have u2 := (KS 2 _ rfl).2
    have u3 := (KS 3 _ rfl).2
    have u4 := (KS 4 _ rfl).2
    clear KR KS
    go_wp2
    clear z0 y0 k0 u0 z1 y1 k1 u1 z2 y2 k2 u2 z3 y3 k3 u3 z4 y4 k4 u4
    have M6 := M5.out.set 1 (by simp) (.int .i64 v) (by simp only [List.mem_singleton]; rintro q rfl; exact hRS)
    generalize w4.setCell ⟨S, 1, none⟩ (.int .i64 v) = wE at *
    obtain ⟨W, hW⟩ : ∃ W, putL w.heap.size 0 [.int .i64 P, .int .i64 v, .int .i64 L, .int .i64 x, .int .i64 y] wE = W := ⟨_, rfl⟩
    have MF := M6.swap.put [.int .i64 P, .int .i64 v, .int .i64 L, .int .i64 x, .int .i64 y] rfl (by simp only [List.mem_singleton]; rintro q rfl; exact hRS.symm)
    rw [hW] at MF
    have BW := (MF.blk _ (List.mem_cons_self ..)).1
    have HG : Hid (GivesAnyE w C a b off n cap f (.returned (.agg #[.int .i64 P, .int .i64 v, .int .i64 L, .int .i64 x, .int .i64 y])) W) := ⟨P, v, L, x, y, rfl, ⟨hk.p0, hk.p1, hv.1, hv.2, hk.l0, hk.l1, hk.x0, hk.x1, hk.y0, hk.y1⟩, MF.drop.drop⟩
    simp only [putL, Nat.zero_add, Nat.reduceAdd] at hW
    simp only [hW]
    have q0 := (BW 0 _ rfl).1
    have q1 := (BW 1 _ rfl).1
    have q2 := (BW 2 _ rfl).1
    have q3 := (BW 3 _ rfl).1
    have q4 := (BW 4 _ rfl).1
    refine bodyPost_ret (v := .agg #[.int .i64 P, .int .i64 v, .int .i64 L, .int .i64 x, .int .i64 y]) (by simp [results, Tryd.results70, go_sem, q0, q1, q2, q3, q4]) rfl HG.out
  by_cases c2 : d = 2
  · subst c2
    have E4 := Ext.alloc w3 (.cells #[.int .i64 0, .int .i64 5, .int .i64 12, .int .i64 263] 3)
    have M4 := hide (M3.out.ext E4)
    obtain ⟨g, hg⟩ : ∃ g : Nat → Int, g = fun i => if i = 0 then 0 else if i = 1 then 5 else if i = 2 then 12 else 263 := ⟨_, rfl⟩
    have Sg := seg_lit w3 #[.int .i64 0, .int .i64 5, .int .i64 12, .int .i64 263] 4 g (fun i hi => by
      rw [hg]
      have : i = 0 ∨ i = 1 ∨ i = 2 ∨ i = 3 := by omega
      rcases this with rfl | rfl | rfl | rfl <;> rfl)
    have hb : ∀ i, i < 4 → 0 ≤ g i ∧ g i ≤ 1048576 := fun i hi => by
      rw [hg]
      have h : i = 0 ∨ i = 1 ∨ i = 2 ∨ i = 3 := by omega
      have := hk.p0; have := hk.p1
      rcases h with rfl | rfl | rfl | rfl <;> simp <;> omega
    clear hg
    have hne : w3.heap.size ≠ C := by have := M3.out.cur.lt; omega
    have KR := (M3.out.blk (w.heap.size, [.int .i64 0, .int .i64 0, .int .i64 0, .int .i64 0, .int .i64 0]) (by simp)).1
    have KS := (M3.out.blk (S, [.int .i64 P, .int .i64 D, .int .i64 L, .int .i64 x, .int .i64 y]) (by simp)).1
    have z0 := (KR 0 _ rfl).1
    have z1 := (KR 1 _ rfl).1
    have z2 := (KR 2 _ rfl).1
    have z3 := (KR 3 _ rfl).1
    have z4 := (KR 4 _ rfl).1
    have y0 := (KR 0 _ rfl).2
    have y1 := (KR 1 _ rfl).2
    have y2 := (KR 2 _ rfl).2
    have y3 := (KR 3 _ rfl).2
    have y4 := (KR 4 _ rfl).2
    have k0 := (KS 0 _ rfl).1
    have k1 := (KS 1 _ rfl).1
    have k2 := (KS 2 _ rfl).1
    have k3 := (KS 3 _ rfl).1
    have k4 := (KS 4 _ rfl).1
    have u0 := (KS 0 _ rfl).2
    have u1 := (KS 1 _ rfl).2
    have u2 := (KS 2 _ rfl).2
    have u3 := (KS 3 _ rfl).2
    have u4 := (KS 4 _ rfl).2
    clear KR KS
    go_wp2_with fail
    clear z0 y0 k0 u0 z1 y1 k1 u1 z2 y2 k2 u2 z3 y3 k3 u3 z4 y4 k4 u4
    refine (l1PickInt_of C a b off n cap f _ w3.heap.size 0 4 _ _ _ M4.out.cur M4.out.code hn Sg (by omega) (by omega) hne).mono ?_
    rintro e w4 ⟨i, hi, rfl, hC4, T4⟩
    have M5 := hide (M4.out.touch T4 hC4)
    clear M3 M4 T4 hC4 Sg E4 hne
    have hv := hb i hi
    generalize g i = v at *
    clear hb
    have KR := (M5.out.blk (w.heap.size, [.int .i64 0, .int .i64 0, .int .i64 0, .int .i64 0, .int .i64 0]) (by simp)).1
    have KS := (M5.out.blk (S, [.int .i64 P, .int .i64 D, .int .i64 L, .int .i64 x, .int .i64 y]) (by simp)).1
    have z0 := (KR 0 _ rfl).1
    have z1 := (KR 1 _ rfl).1
    have z2 := (KR 2 _ rfl).1
    have z3 := (KR 3 _ rfl).1
    have z4 := (KR 4 _ rfl).1
    have y0 := (KR 0 _ rfl).2
    have y1 := (KR 1 _ rfl).2
    have y2 := (KR 2 _ rfl).2
    have y3 := (KR 3 _ rfl).2
    have y4 := (KR 4 _ rfl).2
    have k0 := (KS 0 _ rfl).1
    have k1 := (KS 1 _ rfl).1
    have k2 := (KS 2 _ rfl).1
    have k3 := (KS 3 _ rfl).1
    have k4 := (KS 4 _ rfl).1
    have u0 := (KS 0 _ rfl).2
    have u1 := (KS 1 _ rfl).2
    have u2 := (KS 2 _ rfl).2
    have u3 := (KS 3 _ rfl).2
    have u4 := (KS 4 _ rfl).2
    clear KR KS
    go_wp2
    clear z0 y0 k0 u0 z1 y1 k1 u1 z2 y2 k2 u2 z3 y3 k3 u3 z4 y4 k4 u4
    have M6 := M5.out.set 2 (by simp) (.int .i64 v) (by simp only [List.mem_singleton]; rintro q rfl; exact hRS)
    generalize w4.setCell ⟨S, 2, none⟩ (.int .i64 v) = wE at *
    obtain ⟨W, hW⟩ : ∃ W, putL w.heap.size 0 [.int .i64 P, .int .i64 D, .int .i64 v, .int .i64 x, .int .i64 y] wE = W := ⟨_, rfl⟩
    have MF := M6.swap.put [.int .i64 P, .int .i64 D, .int .i64 v, .int .i64 x, .int .i64 y] rfl (by simp only [List.mem_singleton]; rintro q rfl; exact hRS.symm)
    rw [hW] at MF
    have BW := (MF.blk _ (List.mem_cons_self ..)).1
    have HG : Hid (GivesAnyE w C a b off n cap f (.returned (.agg #[.int .i64 P, .int .i64 D, .int .i64 v, .int .i64 x, .int .i64 y])) W) := ⟨P, D, v, x, y, rfl, ⟨hk.p0, hk.p1, hk.d0, hk.d1, hv.1, hv.2, hk.x0, hk.x1, hk.y0, hk.y1⟩, MF.drop.drop⟩
    simp only [putL, Nat.zero_add, Nat.reduceAdd] at hW
    simp only [hW]
    have q0 := (BW 0 _ rfl).1
    have q1 := (BW 1 _ rfl).1
    have q2 := (BW 2 _ rfl).1
    have q3 := (BW 3 _ rfl).1
    have q4 := (BW 4 _ rfl).1
    refine bodyPost_ret (v := .agg #[.int .i64 P, .int .i64 D, .int .i64 v, .int .i64 x, .int .i64 y]) (by simp [results, Tryd.results70, go_sem, q0, q1, q2, q3, q4]) rfl HG.out
  by_cases c3 : d = 3
  · subst c3
    have hx0 := hk.x0
    have KR := (M3.out.blk (w.heap.size, [.int .i64 0, .int .i64 0, .int .i64 0, .int .i64 0, .int .i64 0]) (by simp)).1
    have KS := (M3.out.blk (S, [.int .i64 P, .int .i64 D, .int .i64 L, .int .i64 x, .int .i64 y]) (by simp)).1
    have z0 := (KR 0 _ rfl).1
    have z1 := (KR 1 _ rfl).1
    have z2 := (KR 2 _ rfl).1
    have z3 := (KR 3 _ rfl).1
    have z4 := (KR 4 _ rfl).1
    have y0 := (KR 0 _ rfl).2
    have y1 := (KR 1 _ rfl).2
    have y2 := (KR 2 _ rfl).2
    have y3 := (KR 3 _ rfl).2
    have y4 := (KR 4 _ rfl).2
    have k0 := (KS 0 _ rfl).1
    have k1 := (KS 1 _ rfl).1
    have k2 := (KS 2 _ rfl).1
    have k3 := (KS 3 _ rfl).1
    have k4 := (KS 4 _ rfl).1
    have u0 := (KS 0 _ rfl).2
    have u1 := (KS 1 _ rfl).2
    have u2 := (KS 2 _ rfl).2
    have u3 := (KS 3 _ rfl).2
    have u4 := (KS 4 _ rfl).2
    clear KR KS
    go_wp2
    clear z0 y0 k0 u0 z1 y1 k1 u1 z2 y2 k2 u2 z3 y3 k3 u3 z4 y4 k4 u4
    have M6 := M3.out.set 3 (by simp) (.int .i64 (x + 1)) (by simp only [List.mem_singleton]; rintro q rfl; exact hRS)
    generalize w3.setCell ⟨S, 3, none⟩ (.int .i64 (x + 1)) = wE at *
    obtain ⟨W, hW⟩ : ∃ W, putL w.heap.size 0 [.int .i64 P, .int .i64 D, .int .i64 L, .int .i64 (x + 1), .int .i64 y] wE = W := ⟨_, rfl⟩
    have MF := M6.swap.put [.int .i64 P, .int .i64 D, .int .i64 L, .int .i64 (x + 1), .int .i64 y] rfl (by simp only [List.mem_singleton]; rintro q rfl; exact hRS.symm)
    rw [hW] at MF
    have BW := (MF.blk _ (List.mem_cons_self ..)).1
    have HG : Hid (GivesAnyE w C a b off n cap f (.returned (.agg #[.int .i64 P, .int .i64 D, .int .i64 L, .int .i64 (x + 1), .int .i64 y])) W) := ⟨P, D, L, (x + 1), y, rfl, ⟨hk.p0, hk.p1, hk.d0, hk.d1, hk.l0, hk.l1, by omega, by omega, hk.y0, hk.y1⟩, MF.drop.drop⟩
    simp only [putL, Nat.zero_add, Nat.reduceAdd] at hW
    simp only [hW]
    have q0 := (BW 0 _ rfl).1
    have q1 := (BW 1 _ rfl).1
    have q2 := (BW 2 _ rfl).1
    have q3 := (BW 3 _ rfl).1
    have q4 := (BW 4 _ rfl).1
    refine bodyPost_ret (v := .agg #[.int .i64 P, .int .i64 D, .int .i64 L, .int .i64 (x + 1), .int .i64 y]) (by simp [results, Tryd.results70, go_sem, q0, q1, q2, q3, q4]) rfl HG.out
  by_cases c4 : d = 4
  · subst c4
    have KR := (M3.out.blk (w.heap.size, [.int .i64 0, .int .i64 0, .int .i64 0, .int .i64 0, .int .i64 0]) (by simp)).1
    have KS := (M3.out.blk (S, [.int .i64 P, .int .i64 D, .int .i64 L, .int .i64 x, .int .i64 y]) (by simp)).1
    have z0 := (KR 0 _ rfl).1
    have z1 := (KR 1 _ rfl).1
    have z2 := (KR 2 _ rfl).1
    have z3 := (KR 3 _ rfl).1
    have z4 := (KR 4 _ rfl).1
    have y0 := (KR 0 _ rfl).2
    have y1 := (KR 1 _ rfl).2
    have y2 := (KR 2 _ rfl).2
    have y3 := (KR 3 _ rfl).2
    have y4 := (KR 4 _ rfl).2
    have k0 := (KS 0 _ rfl).1
    have k1 := (KS 1 _ rfl).1
    have k2 := (KS 2 _ rfl).1
    have k3 := (KS 3 _ rfl).1
    have k4 := (KS 4 _ rfl).1
    have u0 := (KS 0 _ rfl).2
    have u1 := (KS 1 _ rfl).2
    have u2 := (KS 2 _ rfl).2
    have u3 := (KS 3 _ rfl).2
    have u4 := (KS 4 _ rfl).2
    clear KR KS
    go_wp2
    clear z0 y0 k0 u0 z1 y1 k1 u1 z2 y2 k2 u2 z3 y3 k3 u3 z4 y4 k4 u4
    have M6 := (M3.out.set 3 (by simp) (.int .i64 0) (by simp only [List.mem_singleton]; rintro q rfl; exact hRS)).set 4 (by simp) (.int .i64 1) (by simp only [List.mem_singleton]; rintro q rfl; exact hRS)
    generalize (w3.setCell ⟨S, 3, none⟩ (.int .i64 0)).setCell ⟨S, 4, none⟩ (.int .i64 1) = wE at *
    obtain ⟨W, hW⟩ : ∃ W, putL w.heap.size 0 [.int .i64 P, .int .i64 D, .int .i64 L, .int .i64 0, .int .i64 1] wE = W := ⟨_, rfl⟩
    have MF := M6.swap.put [.int .i64 P, .int .i64 D, .int .i64 L, .int .i64 0, .int .i64 1] rfl (by simp only [List.mem_singleton]; rintro q rfl; exact hRS.symm)
    rw [hW] at MF
    have BW := (MF.blk _ (List.mem_cons_self ..)).1
    have HG : Hid (GivesAnyE w C a b off n cap f (.returned (.agg #[.int .i64 P, .int .i64 D, .int .i64 L, .int .i64 0, .int .i64 1])) W) := ⟨P, D, L, 0, 1, rfl, ⟨hk.p0, hk.p1, hk.d0, hk.d1, hk.l0, hk.l1, by omega, by omega, by omega, by omega⟩, MF.drop.drop⟩
    simp only [putL, Nat.zero_add, Nat.reduceAdd] at hW
    simp only [hW]
    have q0 := (BW 0 _ rfl).1
    have q1 := (BW 1 _ rfl).1
    have q2 := (BW 2 _ rfl).1
    have q3 := (BW 3 _ rfl).1
    have q4 := (BW 4 _ rfl).1
    refine bodyPost_ret (v := .agg #[.int .i64 P, .int .i64 D, .int .i64 L, .int .i64 0, .int .i64 1]) (by simp [results, Tryd.results70, go_sem, q0, q1, q2, q3, q4]) rfl HG.out
  have e0 : (d == 0) = false := by simpa using c0
  have e1 : (d == 1) = false := by simpa using c1
  have e2 : (d == 2) = false := by simpa using c2
  have e3 : (d == 3) = false := by simpa using c3
  have e4 : (d == 4) = false := by simpa using c4
  have KR := (M3.out.blk (w.heap.size, [.int .i64 0, .int .i64 0, .int .i64 0, .int .i64 0, .int .i64 0]) (by simp)).1
  have KS := (M3.out.blk (S, [.int .i64 P, .int .i64 D, .int .i64 L, .int .i64 x, .int .i64 y]) (by simp)).1
  have z0 := (KR 0 _ rfl).1
  have z1 := (KR 1 _ rfl).1
  have z2 := (KR 2 _ rfl).1
  have z3 := (KR 3 _ rfl).1
  have z4 := (KR 4 _ rfl).1
  have y0 := (KR 0 _ rfl).2
  have y1 := (KR 1 _ rfl).2
  have y2 := (KR 2 _ rfl).2
  have y3 := (KR 3 _ rfl).2
  have y4 := (KR 4 _ rfl).2
  have k0 := (KS 0 _ rfl).1
  have k1 := (KS 1 _ rfl).1
  have k2 := (KS 2 _ rfl).1
  have k3 := (KS 3 _ rfl).1
  have k4 := (KS 4 _ rfl).1
  have u0 := (KS 0 _ rfl).2
  have u1 := (KS 1 _ rfl).2
  have u2 := (KS 2 _ rfl).2
  have u3 := (KS 3 _ rfl).2
  have u4 := (KS 4 _ rfl).2
  clear KR KS
  go_wp2
  clear z0 y0 k0 u0 z1 y1 k1 u1 z2 y2 k2 u2 z3 y3 k3 u3 z4 y4 k4 u4
  have M6 := M3.out
  generalize w3 = wE at *
  obtain ⟨W, hW⟩ : ∃ W, putL w.heap.size 0 [.int .i64 P, .int .i64 D, .int .i64 L, .int .i64 x, .int .i64 y] wE = W := ⟨_, rfl⟩
  have MF := M6.swap.put [.int .i64 P, .int .i64 D, .int .i64 L, .int .i64 x, .int .i64 y] rfl (by simp only [List.mem_singleton]; rintro q rfl; exact hRS.symm)
  rw [hW] at MF
  have BW := (MF.blk _ (List.mem_cons_self ..)).1
  have HG : Hid (GivesAnyE w C a b off n cap f (.returned (.agg #[.int .i64 P, .int .i64 D, .int .i64 L, .int .i64 x, .int .i64 y])) W) := ⟨P, D, L, x, y, rfl, hk, MF.drop.drop⟩
  simp only [putL, Nat.zero_add, Nat.reduceAdd] at hW
  simp only [hW]
  have q0 := (BW 0 _ rfl).1
  have q1 := (BW 1 _ rfl).1
  have q2 := (BW 2 _ rfl).1
  have q3 := (BW 3 _ rfl).1
  have q4 := (BW 4 _ rfl).1
  refine bodyPost_ret (v := .agg #[.int .i64 P, .int .i64 D, .int .i64 L, .int .i64 x, .int .i64 y]) (by simp [results, Tryd.results70, go_sem, q0, q1, q2, q3, q4]) rfl HG.out

theorem Md.sub {w wr : World} {C : Nat} {a : Option Addr} {b off n cap : Nat} {f : Nat → Int} {bs bs' : List (Nat × List Value)} (h : Md w wr C a b off n cap f bs) (hp : ∀ x, x ∈ bs' → x ∈ bs) : Md w wr C a b off n cap f bs' := ⟨fun z hz => h.blk z (hp z hz), h.cur, h.code, h.grw, h.old⟩

/-- A drawn twisted curve and two pairs of it. -/
def GivesEd (w : World) (e : Ending) (w' : World) : Prop :=
  ∃ (j m n : Nat), j < 3 ∧ m ≤ 3000 ∧ n ≤ 3000 ∧ e = .returned (.tuple #[.agg #[.int .i64 (eP j), .int .i64 (eD j), .int .i64 (eL j), .int .i64 (eX j), .int .i64 (eY j)], prV (mulE (eP j).toNat (eD j) m ⟨eX j, eY j⟩), prV (mulE (eP j).toNat (eD j) n ⟨eX j, eY j⟩)]) ∧ Ext w w'

set_option maxHeartbeats 6400000 in
set_option maxRecDepth 100000 in
theorem drawEd_any (a : Option Addr) (b off n cap : Nat) (f : Nat → Int) (w : World) (hs : BSeg w a b off n f) (hB : ∀ i, i < n → 0 ≤ f i ∧ f i ≤ 255) (hn : n ≤ 1048576) :
    Calls Tryd.prog 14 #[.slice a n cap] w fun e w' => GivesEd w e w' := by
  have E0 : Ext w (((w.alloc (.cells #[.int .i64 0, .int .i64 0, .int .i64 0, .int .i64 0, .int .i64 0] 37)).alloc (.cells #[.int .i64 0, .int .i64 0] 39)).alloc (.cells #[.int .i64 0, .int .i64 0] 39)) := ((Ext.alloc _ _).trans (Ext.alloc _ _)).trans (Ext.alloc _ _)
  go_enter Tryd.func14, Tryd.ntmps14
  go_wp2_with fail
  refine (l1New_any a b off n cap f _ (hs.of_all E0) hB hn).mono ?_
  rintro e w0 ⟨rfl, hC0, sz0, hw0⟩
  obtain ⟨B0, B1, B2, hE, hz⟩ := box3 w [.int .i64 0, .int .i64 0, .int .i64 0, .int .i64 0, .int .i64 0] [.int .i64 0, .int .i64 0] [.int .i64 0, .int .i64 0] 37 39 39 hw0
  simp only [World.size_alloc] at hC0 sz0
  have hbw : 0 < n → b < w.heap.size := fun h => hs.lt h
  obtain ⟨C, hCn⟩ : ∃ C, w.heap.size + 1 + 1 + 1 = C := ⟨_, rfl⟩
  have M0 : Md w w0 C a b off n cap f [(w.heap.size, [.int .i64 0, .int .i64 0, .int .i64 0, .int .i64 0, .int .i64 0]), (w.heap.size + 1, [.int .i64 0, .int .i64 0]), (w.heap.size + 1 + 1, [.int .i64 0, .int .i64 0])] := by
    rw [hCn] at hC0 sz0
    refine ⟨fun x hx => ?_, hC0, ⟨hs.of_all hE, hB, fun h => by have := hbw h; omega⟩, .of_ext hE, hbw⟩
    simp only [List.mem_cons, List.not_mem_nil, or_false] at hx
    rcases hx with rfl | rfl | rfl
    · exact ⟨B0, by simp only; omega, by simp only; omega, by simp only; omega⟩
    · exact ⟨B1, by simp only; omega, by simp only; omega, by simp only; omega⟩
    · exact ⟨B2, by simp only; omega, by simp only; omega, by simp only; omega⟩
  have hz0 : C < w0.heap.size := M0.cur.lt
  simp only [World.size_alloc, hCn]
  clear E0 hw0 hE B0 B1 B2 hC0 sz0 hz
  go_wp2_with fail
  refine (l4Bases_any _).mono ?_
  rintro e w1 ⟨rfl, hv, hw1⟩
  have M1 := hide (M0.ext hw1)
  go_wp2_with fail
  refine (l1Below_any C a b off n cap f 3 _ M1.out.cur M1.out.code hn (by omega) (by omega)).mono ?_
  rintro e w2 ⟨x, rfl, x0, x1, hC2, T2⟩
  have M2 := M1.out.touch T2 hC2
  obtain ⟨j, rfl⟩ := Int.eq_ofNat_of_zero_le x0
  have hj : j < 3 := by omega
  have hj' : (j : Int) < 3 := by omega
  have kS : EdO w2 w0.heap.size (j * 5) j := (hv j hj).of_block (T2.grown.block _ (hv j hj).lt (by simp; omega))
  have hz2 : C < w2.heap.size := M2.cur.lt
  clear M1 hv hw1 T2 hC2 M0
  obtain ⟨c0, c1, c2, c3, c4⟩ := kS
  have M3 := M2.add [.int .i64 (eP j), .int .i64 (eD j), .int .i64 (eL j), .int .i64 (eX j), .int .i64 (eY j)] 37
  have K3 := (M3.blk (w2.heap.size, [.int .i64 (eP j), .int .i64 (eD j), .int .i64 (eL j), .int .i64 (eX j), .int .i64 (eY j)]) (by simp)).1
  have M4 := hide (M3.add [.int .i64 (eX j), .int .i64 (eY j)] 39)
  simp only [World.size_alloc] at M4
  have k0 := (K3 0 _ rfl).1
  have k1 := (K3 1 _ rfl).1
  have k2 := (K3 2 _ rfl).1
  have k3 := (K3 3 _ rfl).1
  have k4 := (K3 4 _ rfl).1
  go_wp2
  clear c0 c1 c2 c3 c4 k0 k1 k2 k3 k4 K3 M3
  have hev := ev_ok hj
  obtain ⟨V, hV⟩ : ∃ V, (w2.alloc (.cells #[.int .i64 (eP j), .int .i64 (eD j), .int .i64 (eL j), .int .i64 (eX j), .int .i64 (eY j)] 37)).alloc (.cells #[.int .i64 (eX j), .int .i64 (eY j)] 39) = V := ⟨_, rfl⟩
  replace M4 : Hid (Md w V C a b off n cap f [(w2.heap.size + 1, [.int .i64 (eX j), .int .i64 (eY j)]), (w2.heap.size, [.int .i64 (eP j), .int .i64 (eD j), .int .i64 (eL j), .int .i64 (eX j), .int .i64 (eY j)]), (w.heap.size, [.int .i64 0, .int .i64 0, .int .i64 0, .int .i64 0, .int .i64 0]), (w.heap.size + 1, [.int .i64 0, .int .i64 0]), (w.heap.size + 1 + 1, [.int .i64 0, .int .i64 0])]) := hV ▸ M4.out
  simp only [hV]
  clear hV M2 hj' x0 x1
  generalize w2.heap.size = S at *
  obtain ⟨X, hX⟩ : ∃ X : Nat → Prop, X = fun k => w.heap.size ≤ k ∧ k ≤ C := ⟨_, rfl⟩
  have xS : ¬ X S := by rw [hX]; simp; omega
  have xG : ¬ X (S + 1) := by rw [hX]; simp; omega
  have xR0 : X w.heap.size := by rw [hX]; simp; omega
  have xR1 : X (w.heap.size + 1) := by rw [hX]; simp; omega
  have xR2 : X (w.heap.size + 1 + 1) := by rw [hX]; simp; omega
  have xC : X C := by rw [hX]; simp; omega
  have xw : ∀ k, k < w.heap.size → ¬ X k := fun k h => by rw [hX]; simp; omega
  clear hX
  have KS := (M4.out.blk (S, [.int .i64 (eP j), .int .i64 (eD j), .int .i64 (eL j), .int .i64 (eX j), .int .i64 (eY j)]) (by simp)).1
  have KG := (M4.out.blk (S + 1, [.int .i64 (eX j), .int .i64 (eY j)]) (by simp)).1
  have e0 := cell_reC (KS 0 _ rfl).1 xS
  have e1 := cell_reC (KS 1 _ rfl).1 xS
  have e2 := cell_reC (KS 2 _ rfl).1 xS
  have e3 := cell_reC (KS 3 _ rfl).1 xS
  have e4 := cell_reC (KS 4 _ rfl).1 xS
  have d0 := cell_reC (KG 0 _ rfl).1 xG
  have d1 := cell_reC (KG 1 _ rfl).1 xG
  clear KS KG
  have HM4 : Grw X V V := .refl _ _
  refine anyK_begin X 14 rfl (by kernel_rfl) ?_
  refine anyK_take 0 3 11 rfl (by decide) (by kernel_rfl) (fun _ _ d _ _ h => by cases d <;> exact h) ?_
  repeat (refine headC_step (fun K hK => ?_); go_simp; first | (refine hK _ ?_; clear hK K) | (apply Exists.intro; refine ⟨fun _ => ?_, hK _ ?_⟩; (fail); clear hK K))
  refine headC_nil ?_
  refine anyK_take 4 1 10 rfl (by decide) (by kernel_rfl) (fun _ _ d _ _ h => by cases d <;> exact h) ?_
  repeat (refine headC_step (fun K hK => ?_); go_simp; first | (refine hK _ ?_; clear hK K) | (apply Exists.intro; refine ⟨fun _ => ?_, hK _ ?_⟩; (fail); clear hK K))
  refine headC_nil ?_
  refine anyK_take 6 2 8 rfl (by decide) (by kernel_rfl) (fun _ _ d _ _ h => by cases d <;> exact h) ?_
  repeat (refine headC_step (fun K hK => ?_); go_simp; first | (refine hK _ ?_; clear hK K) | (apply Exists.intro; refine ⟨fun _ => ?_, hK _ ?_⟩; (fail); clear hK K))
  refine headC_nil ?_
  refine anyK_take 9 1 7 rfl (by decide) (by kernel_rfl) (fun _ _ d _ _ h => by cases d <;> exact h) ?_
  repeat (refine headC_step (fun K hK => ?_); go_simp; first | (refine hK _ ?_; clear hK K) | (apply Exists.intro; refine ⟨fun _ => ?_, hK _ ?_⟩; (fail); clear hK K))
  refine headC_nil ?_
  clear e0 e1 e2 e3 e4 d0 d1
  refine anyK_one 3 (by kernel_rfl) ?_
  refine stepK_run rfl ?_
  intro wa ha K hK
  go_simp
  refine (l1Below_any C a b off n cap f 3000 _ (M4.out.ext ha).cur (M4.out.ext ha).code hn (by omega) (by omega)).mono ?_
  rintro e wb3 ⟨ma, rfl, ma0, ma1, hCm, Tm⟩
  have M5 := hide ((M4.out.ext ha).touch Tm hCm)
  have HM5 : Grw X V wb3 := (HM4.trans (.of_ext ha)).trans (.of_touch Tm xC)
  go_simp
  refine hK _ _ HM5 ?_
  clear hK K ha Tm hCm M4 HM4
  obtain ⟨A1, hA1⟩ : ∃ A1, mulE (eP j).toNat (eD j) ma.toNat ⟨eX j, eY j⟩ = A1 := ⟨_, rfl⟩
  have HMA1 := fun w => l4Mul_ok hev hev.on ma0 (show ma ≤ 1099511627776 by omega) w
  rw [hA1] at HMA1
  replace HMA1 := hide HMA1
  refine anyK_one 5 (by kernel_rfl) ?_
  refine stepK_run rfl ?_
  intro wa ha K hK
  go_simp
  refine (HMA1.out _).mono ?_
  rintro e wb5 ⟨rfl, hb⟩
  have hx := ha.trans hb
  have M6 := hide (M5.out.ext hx)
  have HM6 : Grw X V wb5 := HM5.trans (.of_ext hx)
  go_simp
  refine hK _ _ HM6 ?_
  clear hK K ha hb hx M5 HM5 HMA1
  refine anyK_one 8 (by kernel_rfl) ?_
  refine stepK_run rfl ?_
  intro wa ha K hK
  go_simp
  refine (l1Below_any C a b off n cap f 300 _ (M6.out.ext ha).cur (M6.out.ext ha).code hn (by omega) (by omega)).mono ?_
  rintro e wb8 ⟨mb, rfl, mb0, mb1, hCm, Tm⟩
  have M7 := hide ((M6.out.ext ha).touch Tm hCm)
  have HM7 : Grw X V wb8 := (HM6.trans (.of_ext ha)).trans (.of_touch Tm xC)
  go_simp
  refine hK _ _ HM7 ?_
  clear hK K ha Tm hCm M6 HM6
  obtain ⟨A2, hA2⟩ : ∃ A2, mulE (eP j).toNat (eD j) mb.toNat ⟨eX j, eY j⟩ = A2 := ⟨_, rfl⟩
  have HMA2 := fun w => l4Mul_ok hev hev.on mb0 (show mb ≤ 1099511627776 by omega) w
  rw [hA2] at HMA2
  replace HMA2 := hide HMA2
  refine anyK_one 10 (by kernel_rfl) ?_
  refine stepK_run rfl ?_
  intro wa ha K hK
  go_simp
  refine (HMA2.out _).mono ?_
  rintro e wb10 ⟨rfl, hb⟩
  have hx := ha.trans hb
  have M8' := hide (M7.out.ext hx)
  have HM8' : Grw X V wb10 := HM7.trans (.of_ext hx)
  go_simp
  refine hK _ _ HM8' ?_
  clear hK K ha hb hx M7 HM7 HMA2
  have M8 := hide (M8'.out.sub (bs' := [(w.heap.size, [.int .i64 0, .int .i64 0, .int .i64 0, .int .i64 0, .int .i64 0]), (w.heap.size + 1, [.int .i64 0, .int .i64 0]), (w.heap.size + 1 + 1, [.int .i64 0, .int .i64 0])]) (by simp only [List.mem_cons, List.not_mem_nil, or_false]; rintro q (q1 | q1 | q1) <;> simp [q1]))
  have HM8 := HM8'
  clear M8' HM8'
  refine anyK_one 11 (by kernel_rfl) ?_
  refine stepK_run rfl ?_
  intro wa ha K hK
  have MA := M8.out.ext ha
  have KZ := (MA.blk (w.heap.size, [.int .i64 0, .int .i64 0, .int .i64 0, .int .i64 0, .int .i64 0]) (by simp)).1
  have z0 := (KZ 0 _ rfl).1
  have z1 := (KZ 1 _ rfl).1
  have z2 := (KZ 2 _ rfl).1
  have z3 := (KZ 3 _ rfl).1
  have z4 := (KZ 4 _ rfl).1
  have y0 := (KZ 0 _ rfl).2
  have y1 := (KZ 1 _ rfl).2
  have y2 := (KZ 2 _ rfl).2
  have y3 := (KZ 3 _ rfl).2
  have y4 := (KZ 4 _ rfl).2
  go_simp
  have HM9 : Grw X V (putL (w.heap.size) 0 [.int .i64 (eP j), .int .i64 (eD j), .int .i64 (eL j), .int .i64 (eX j), .int .i64 (eY j)] wa) := Grw.putL xR0 _ _ _ (HM8.trans (.of_ext ha))
  have M9 := hide ((MA.sub (bs' := (w.heap.size, [.int .i64 0, .int .i64 0, .int .i64 0, .int .i64 0, .int .i64 0]) :: [(w.heap.size + 1, [.int .i64 0, .int .i64 0]), (w.heap.size + 1 + 1, [.int .i64 0, .int .i64 0])]) (by simp only [List.mem_cons, List.not_mem_nil, or_false]; rintro q (q1 | q1 | q1) <;> simp [q1])).put [.int .i64 (eP j), .int .i64 (eD j), .int .i64 (eL j), .int .i64 (eX j), .int .i64 (eY j)] rfl (by simp only [List.mem_cons, List.not_mem_nil, or_false]; rintro q (rfl | rfl) <;> (simp only; omega)))
  refine hK _ (putL (w.heap.size) 0 [.int .i64 (eP j), .int .i64 (eD j), .int .i64 (eL j), .int .i64 (eX j), .int .i64 (eY j)] wa) HM9 ?_
  clear hK K ha MA KZ z0 z1 z2 z3 z4 y0 y1 y2 y3 y4 M8 HM8
  generalize putL (w.heap.size) 0 [.int .i64 (eP j), .int .i64 (eD j), .int .i64 (eL j), .int .i64 (eX j), .int .i64 (eY j)] wa = wb11 at *
  refine anyK_one 12 (by kernel_rfl) ?_
  refine stepK_run rfl ?_
  intro wa ha K hK
  have MA := M9.out.ext ha
  have KZ := (MA.blk (w.heap.size + 1, [.int .i64 0, .int .i64 0]) (by simp)).1
  have z0 := (KZ 0 _ rfl).1
  have z1 := (KZ 1 _ rfl).1
  have y0 := (KZ 0 _ rfl).2
  have y1 := (KZ 1 _ rfl).2
  go_simp
  have HM10 : Grw X V (putL (w.heap.size + 1) 0 [.int .i64 A1.x, .int .i64 A1.y] wa) := Grw.putL xR1 _ _ _ (HM9.trans (.of_ext ha))
  have M10 := hide ((MA.sub (bs' := (w.heap.size + 1, [.int .i64 0, .int .i64 0]) :: [(w.heap.size, [.int .i64 (eP j), .int .i64 (eD j), .int .i64 (eL j), .int .i64 (eX j), .int .i64 (eY j)]), (w.heap.size + 1 + 1, [.int .i64 0, .int .i64 0])]) (by simp only [List.mem_cons, List.not_mem_nil, or_false]; rintro q (q1 | q1 | q1) <;> simp [q1])).put [.int .i64 A1.x, .int .i64 A1.y] rfl (by simp only [List.mem_cons, List.not_mem_nil, or_false]; rintro q (rfl | rfl) <;> (simp only; omega)))
  refine hK _ (putL (w.heap.size + 1) 0 [.int .i64 A1.x, .int .i64 A1.y] wa) HM10 ?_
  clear hK K ha MA KZ z0 z1 y0 y1 M9 HM9
  generalize putL (w.heap.size + 1) 0 [.int .i64 A1.x, .int .i64 A1.y] wa = wb12 at *
  refine anyK_one 13 (by kernel_rfl) ?_
  refine stepK_run rfl ?_
  intro wa ha K hK
  have MA := M10.out.ext ha
  have KZ := (MA.blk (w.heap.size + 1 + 1, [.int .i64 0, .int .i64 0]) (by simp)).1
  have z0 := (KZ 0 _ rfl).1
  have z1 := (KZ 1 _ rfl).1
  have y0 := (KZ 0 _ rfl).2
  have y1 := (KZ 1 _ rfl).2
  go_simp
  have HM11 : Grw X V (putL (w.heap.size + 1 + 1) 0 [.int .i64 A2.x, .int .i64 A2.y] wa) := Grw.putL xR2 _ _ _ (HM10.trans (.of_ext ha))
  have M11 := hide ((MA.sub (bs' := (w.heap.size + 1 + 1, [.int .i64 0, .int .i64 0]) :: [(w.heap.size + 1, [.int .i64 A1.x, .int .i64 A1.y]), (w.heap.size, [.int .i64 (eP j), .int .i64 (eD j), .int .i64 (eL j), .int .i64 (eX j), .int .i64 (eY j)])]) (by simp only [List.mem_cons, List.not_mem_nil, or_false]; rintro q (q1 | q1 | q1) <;> simp [q1])).put [.int .i64 A2.x, .int .i64 A2.y] rfl (by simp only [List.mem_cons, List.not_mem_nil, or_false]; rintro q (rfl | rfl) <;> (simp only; omega)))
  refine hK _ (putL (w.heap.size + 1 + 1) 0 [.int .i64 A2.x, .int .i64 A2.y] wa) HM11 ?_
  clear hK K ha MA KZ z0 z1 y0 y1 M10 HM10
  generalize putL (w.heap.size + 1 + 1) 0 [.int .i64 A2.x, .int .i64 A2.y] wa = wb13 at *
  refine anyK_done (by kernel_rfl) ?_ 0
  intro wz hz'
  have MZ := M11.out.ext hz'
  have HG : Hid (GivesEd w (.returned (.tuple #[.agg #[.int .i64 (eP j), .int .i64 (eD j), .int .i64 (eL j), .int .i64 (eX j), .int .i64 (eY j)], .agg #[.int .i64 A1.x, .int .i64 A1.y], .agg #[.int .i64 A2.x, .int .i64 A2.y]])) wz) := by
    refine ⟨j, ma.toNat, mb.toNat, hj, by omega, by omega, ?_, MZ.below (by omega)⟩
    rw [hA1, hA2]; rfl
  have Q0 := (MZ.blk (w.heap.size, [.int .i64 (eP j), .int .i64 (eD j), .int .i64 (eL j), .int .i64 (eX j), .int .i64 (eY j)]) (by simp)).1
  have Q1 := (MZ.blk (w.heap.size + 1, [.int .i64 A1.x, .int .i64 A1.y]) (by simp)).1
  have Q2 := (MZ.blk (w.heap.size + 1 + 1, [.int .i64 A2.x, .int .i64 A2.y]) (by simp)).1
  have k0 := (Q0 0 _ rfl).1
  have k1 := (Q0 1 _ rfl).1
  have k2 := (Q0 2 _ rfl).1
  have k3 := (Q0 3 _ rfl).1
  have k4 := (Q0 4 _ rfl).1
  have p0 := (Q1 0 _ rfl).1
  have p1 := (Q1 1 _ rfl).1
  have q0 := (Q2 0 _ rfl).1
  have q1 := (Q2 1 _ rfl).1
  clear Q0 Q1 Q2 MZ M11 HM11 hz' hA1 hA2 xw xC xR0 xR1 xR2 xS xG
  go_wp2
  refine bodyPost_ret (v := .tuple #[.agg #[.int .i64 (eP j), .int .i64 (eD j), .int .i64 (eL j), .int .i64 (eX j), .int .i64 (eY j)], .agg #[.int .i64 A1.x, .int .i64 A1.y], .agg #[.int .i64 A2.x, .int .i64 A2.y]]) (by simp [results, Tryd.results14, go_sem, k0, k1, k2, k3, k4, p0, p1, q0, q1]) rfl HG.out

set_option linter.unusedSimpArgs false
open Go.RowKit Go.Sort

theorem Md.self {w wr : World} {C : Nat} {a : Option Addr} {b off n cap : Nat} {f : Nat → Int} {bs : List (Nat × List Value)} (h : Md w wr C a b off n cap f bs) : Md wr wr C a b off n cap f [] := ⟨fun x hx => (by cases hx), h.cur, h.code, .refl _ _, fun q => Nat.lt_of_lt_of_le (h.old q) h.grw.size⟩

theorem Md.step {w wr w1 : World} {C : Nat} {a : Option Addr} {b off n cap : Nat} {f : Nat → Int} {bs : List (Nat × List Value)} (h : Md w wr C a b off n cap f bs) (q : Md wr w1 C a b off n cap f []) : Md w w1 C a b off n cap f bs :=
  ⟨fun x hx => ⟨(h.blk x hx).1.of_block (q.grw.block _ (h.blk x hx).2.2.1 (h.blk x hx).2.2.2), (h.blk x hx).2.1, Nat.lt_of_lt_of_le (h.blk x hx).2.2.1 q.grw.size, (h.blk x hx).2.2.2⟩, q.cur, q.code, h.grw.trans q.grw, h.old⟩

theorem accE_inE {p : Nat} (hp : 2 ≤ p) (D : Int) : ∀ (q n : Nat) (o a : Pr), InE p o → InE p (accE p D q n o a)
  | 0, _, _, _, h => h
  | q + 1, n, o, a, h => by
    unfold accE
    refine accE_inE hp D q _ _ _ ?_
    split
    · exact addE_inE (by omega) D o a
    · exact h

theorem mulE_inE {p : Nat} (hp : 2 ≤ p) (D : Int) (n : Nat) (a : Pr) : InE p (mulE p D n a) := accE_inE hp D 64 n oneE a ⟨by decide, by show (0 : Int) < p; omega, by decide, by show (1 : Int) < p; omega⟩

/-- The call answers some pair, and of what was there turns the cursor alone. -/
def GivesPairE (w : World) (C : Nat) (a : Option Addr) (b off n cap : Nat) (f : Nat → Int) (e : Ending) (w' : World) : Prop :=
  ∃ x y : Int, e = .returned (.agg #[.int .i64 x, .int .i64 y]) ∧ Md w w' C a b off n cap f []

set_option maxHeartbeats 12800000 in
set_option maxRecDepth 100000 in
theorem l4DrawPair_any (C : Nat) (a : Option Addr) (b off n cap : Nat) (f : Nat → Int) (P D L x y : Int) (hk : EBd P D L x y) (w : World) (hM : Md w w C a b off n cap f []) (hn : n ≤ 1048576) :
    Calls Tryd.prog 71 #[.pointer (some ⟨C, 0, none⟩), .agg #[.int .i64 P, .int .i64 D, .int .i64 L, .int .i64 x, .int .i64 y]] w fun e w' => GivesPairE w C a b off n cap f e w' := by
  have hl := hM.cur.lt
  have hp0 := hk.p0; have hp1 := hk.p1; have hd0 := hk.d0; have hd1 := hk.d1
  clear hk
  have M0 := (((hM.add [.int .i64 P, .int .i64 D, .int .i64 L, .int .i64 x, .int .i64 y] 37).add [.int .i64 0, .int .i64 0] 39).add [.int .i64 0, .int .i64 1] 39).add [.int .i64 x, .int .i64 y] 39
  simp only [World.size_alloc] at M0
  go_enter Tryd.func71, Tryd.ntmps71
  go_wp2_with fail
  refine (l1In_int _ _ _ _).mono ?_
  rintro r w' ⟨rfl, hw⟩
  obtain rfl := hw.symm
  obtain ⟨V, hV⟩ : ∃ V, (((w.alloc (.cells #[.int .i64 P, .int .i64 D, .int .i64 L, .int .i64 x, .int .i64 y] 37)).alloc (.cells #[.int .i64 0, .int .i64 0] 39)).alloc (.cells #[.int .i64 0, .int .i64 1] 39)).alloc (.cells #[.int .i64 x, .int .i64 y] 39) = V := ⟨_, rfl⟩
  replace M0 : Hid (Md w V C a b off n cap f [(w.heap.size + 1 + 1 + 1, [.int .i64 x, .int .i64 y]), (w.heap.size + 1 + 1, [.int .i64 0, .int .i64 1]), (w.heap.size + 1, [.int .i64 0, .int .i64 0]), (w.heap.size, [.int .i64 P, .int .i64 D, .int .i64 L, .int .i64 x, .int .i64 y])]) := hV ▸ M0
  simp only [hV]
  clear hV hM
  by_cases hin : 13 ≤ P ∧ P ≤ 1048576
  rotate_left
  · rw [show (decide (13 ≤ P) && decide (P ≤ 1048576)) = false by simp; omega]
    have M := hide (M0.out.sub (bs' := [(w.heap.size + 1 + 1, [.int .i64 0, .int .i64 1]), (w.heap.size + 1, [.int .i64 0, .int .i64 0]), (w.heap.size, [.int .i64 P, .int .i64 D, .int .i64 L, .int .i64 x, .int .i64 y])]) (by simp only [List.mem_cons, List.not_mem_nil, or_false]; rintro q (q1 | q1 | q1) <;> simp [q1]))
    clear M0 hin
    go_wp2_with fail
    refine (l1Below_any C a b off n cap f 20 _ M.out.cur M.out.code hn (by omega) (by omega)).mono ?_
    rintro e wt ⟨d, rfl, d0, d1, hCt, Tt⟩
    have MT := hide (M.out.touch Tt hCt)
    clear M Tt hCt
    by_cases c0 : d = 0
    · subst c0
      have KB := (MT.out.blk (w.heap.size, [.int .i64 P, .int .i64 D, .int .i64 L, .int .i64 x, .int .i64 y]) (by simp)).1
      have KR := (MT.out.blk (w.heap.size + 1, [.int .i64 0, .int .i64 0]) (by simp)).1
      have KS := (MT.out.blk (w.heap.size + 1 + 1, [.int .i64 0, .int .i64 1]) (by simp)).1
      have k0 := (KB 0 _ rfl).1
      have k1 := (KB 1 _ rfl).1
      have k2 := (KB 2 _ rfl).1
      have k3 := (KB 3 _ rfl).1
      have k4 := (KB 4 _ rfl).1
      have z0 := (KR 0 _ rfl).1
      have z1 := (KR 1 _ rfl).1
      have y0 := (KR 0 _ rfl).2
      have y1 := (KR 1 _ rfl).2
      have s0 := (KS 0 _ rfl).1
      have s1 := (KS 1 _ rfl).1
      have u0 := (KS 0 _ rfl).2
      have u1 := (KS 1 _ rfl).2
      clear KB KR KS
      go_wp2
      clear k0 k1 k2 k3 k4 z0 y0 s0 u0 z1 y1 s1 u1
      have M6 := MT.out.set 1 (by simp) (.int .i64 2) (by simp only [List.mem_cons, List.not_mem_nil, or_false]; rintro q (rfl | rfl) <;> (simp only; omega))
      generalize wt.setCell ⟨w.heap.size + 1 + 1, 1, none⟩ (.int .i64 2) = wE at *
      obtain ⟨W, hW⟩ : ∃ W, putL (w.heap.size + 1) 0 [.int .i64 0, .int .i64 2] wE = W := ⟨_, rfl⟩
      have MF := (M6.sub (bs' := (w.heap.size + 1, [.int .i64 0, .int .i64 0]) :: [(w.heap.size + 1 + 1, [.int .i64 0, .int .i64 2]), (w.heap.size, [.int .i64 P, .int .i64 D, .int .i64 L, .int .i64 x, .int .i64 y])]) (by simp only [List.mem_cons, List.not_mem_nil, or_false]; rintro q (q1 | q1 | q1) <;> simp [q1])).put [.int .i64 0, .int .i64 2] rfl (by simp only [List.mem_cons, List.not_mem_nil, or_false]; rintro q (rfl | rfl) <;> (simp only; omega))
      rw [hW] at MF
      have BW := (MF.blk _ (List.mem_cons_self ..)).1
      have HG : Hid (GivesPairE w C a b off n cap f (.returned (.agg #[.int .i64 0, .int .i64 2])) W) := ⟨0, 2, rfl, MF.sub (fun q hq => by cases hq)⟩
      simp only [putL, Nat.zero_add] at hW
      simp only [hW]
      have q0 := (BW 0 _ rfl).1
      have q1 := (BW 1 _ rfl).1
      refine bodyPost_ret (v := .agg #[.int .i64 0, .int .i64 2]) (by simp [results, Tryd.results71, go_sem, q0, q1]) rfl HG.out
    by_cases c1 : d = 1
    · subst c1
      have KB := (MT.out.blk (w.heap.size, [.int .i64 P, .int .i64 D, .int .i64 L, .int .i64 x, .int .i64 y]) (by simp)).1
      have KR := (MT.out.blk (w.heap.size + 1, [.int .i64 0, .int .i64 0]) (by simp)).1
      have KS := (MT.out.blk (w.heap.size + 1 + 1, [.int .i64 0, .int .i64 1]) (by simp)).1
      have k0 := (KB 0 _ rfl).1
      have k1 := (KB 1 _ rfl).1
      have k2 := (KB 2 _ rfl).1
      have k3 := (KB 3 _ rfl).1
      have k4 := (KB 4 _ rfl).1
      have z0 := (KR 0 _ rfl).1
      have z1 := (KR 1 _ rfl).1
      have y0 := (KR 0 _ rfl).2
      have y1 := (KR 1 _ rfl).2
      have s0 := (KS 0 _ rfl).1
      have s1 := (KS 1 _ rfl).1
      have u0 := (KS 0 _ rfl).2
      have u1 := (KS 1 _ rfl).2
      clear KB KR KS
      go_wp2
      clear k0 k1 k2 k3 k4 z0 y0 s0 u0 z1 y1 s1 u1
      have M6 := MT.out.put [.int .i64 0, .int .i64 (P - 1)] rfl (by simp only [List.mem_cons, List.not_mem_nil, or_false]; rintro q (rfl | rfl) <;> (simp only; omega))
      simp only [putL, Nat.zero_add] at M6
      generalize (wt.setCell ⟨w.heap.size + 1 + 1, 0, none⟩ (.int .i64 0)).setCell ⟨w.heap.size + 1 + 1, 1, none⟩ (.int .i64 (P - 1)) = wE at *
      obtain ⟨W, hW⟩ : ∃ W, putL (w.heap.size + 1) 0 [.int .i64 0, .int .i64 (P - 1)] wE = W := ⟨_, rfl⟩
      have MF := (M6.sub (bs' := (w.heap.size + 1, [.int .i64 0, .int .i64 0]) :: [(w.heap.size + 1 + 1, [.int .i64 0, .int .i64 (P - 1)]), (w.heap.size, [.int .i64 P, .int .i64 D, .int .i64 L, .int .i64 x, .int .i64 y])]) (by simp only [List.mem_cons, List.not_mem_nil, or_false]; rintro q (q1 | q1 | q1) <;> simp [q1])).put [.int .i64 0, .int .i64 (P - 1)] rfl (by simp only [List.mem_cons, List.not_mem_nil, or_false]; rintro q (rfl | rfl) <;> (simp only; omega))
      rw [hW] at MF
      have BW := (MF.blk _ (List.mem_cons_self ..)).1
      have HG : Hid (GivesPairE w C a b off n cap f (.returned (.agg #[.int .i64 0, .int .i64 (P - 1)])) W) := ⟨0, (P - 1), rfl, MF.sub (fun q hq => by cases hq)⟩
      simp only [putL, Nat.zero_add] at hW
      simp only [hW]
      have q0 := (BW 0 _ rfl).1
      have q1 := (BW 1 _ rfl).1
      refine bodyPost_ret (v := .agg #[.int .i64 0, .int .i64 (P - 1)]) (by simp [results, Tryd.results71, go_sem, q0, q1]) rfl HG.out
    by_cases c2 : d = 2
    · subst c2
      have E4 := Ext.alloc wt (.cells #[.int .i64 (-1), .int .i64 P] 3)
      have M4 := hide (MT.out.ext E4)
      obtain ⟨g, hg⟩ : ∃ g : Nat → Int, g = fun i => if i = 0 then -1 else P := ⟨_, rfl⟩
      have Sg := seg_lit wt #[.int .i64 (-1), .int .i64 P] 2 g (fun i hi => by
        rw [hg]
        have : i = 0 ∨ i = 1 := by omega
        rcases this with rfl | rfl <;> rfl)
      clear hg
      have hne : wt.heap.size ≠ C := by have := MT.out.cur.lt; omega
      have KB := (MT.out.blk (w.heap.size, [.int .i64 P, .int .i64 D, .int .i64 L, .int .i64 x, .int .i64 y]) (by simp)).1
      have KR := (MT.out.blk (w.heap.size + 1, [.int .i64 0, .int .i64 0]) (by simp)).1
      have KS := (MT.out.blk (w.heap.size + 1 + 1, [.int .i64 0, .int .i64 1]) (by simp)).1
      have k0 := (KB 0 _ rfl).1
      have k1 := (KB 1 _ rfl).1
      have k2 := (KB 2 _ rfl).1
      have k3 := (KB 3 _ rfl).1
      have k4 := (KB 4 _ rfl).1
      have z0 := (KR 0 _ rfl).1
      have z1 := (KR 1 _ rfl).1
      have y0 := (KR 0 _ rfl).2
      have y1 := (KR 1 _ rfl).2
      have s0 := (KS 0 _ rfl).1
      have s1 := (KS 1 _ rfl).1
      have u0 := (KS 0 _ rfl).2
      have u1 := (KS 1 _ rfl).2
      clear KB KR KS
      go_wp2_with fail
      clear k0 k1 k2 k3 k4 z0 y0 s0 u0 z1 y1 s1 u1
      refine (l1PickInt_of C a b off n cap f _ wt.heap.size 0 2 _ _ _ M4.out.cur M4.out.code hn Sg (by omega) (by omega) hne).mono ?_
      rintro e w4 ⟨i, hi, rfl, hC4, T4⟩
      have M5 := hide (M4.out.touch T4 hC4)
      clear MT M4 T4 hC4 Sg E4 hne
      generalize g i = v at *
      have KB := (M5.out.blk (w.heap.size, [.int .i64 P, .int .i64 D, .int .i64 L, .int .i64 x, .int .i64 y]) (by simp)).1
      have KR := (M5.out.blk (w.heap.size + 1, [.int .i64 0, .int .i64 0]) (by simp)).1
      have KS := (M5.out.blk (w.heap.size + 1 + 1, [.int .i64 0, .int .i64 1]) (by simp)).1
      have k0 := (KB 0 _ rfl).1
      have k1 := (KB 1 _ rfl).1
      have k2 := (KB 2 _ rfl).1
      have k3 := (KB 3 _ rfl).1
      have k4 := (KB 4 _ rfl).1
      have z0 := (KR 0 _ rfl).1
      have z1 := (KR 1 _ rfl).1
      have y0 := (KR 0 _ rfl).2
      have y1 := (KR 1 _ rfl).2
      have s0 := (KS 0 _ rfl).1
      have s1 := (KS 1 _ rfl).1
      have u0 := (KS 0 _ rfl).2
      have u1 := (KS 1 _ rfl).2
      clear KB KR KS
      go_wp2
      clear k0 k1 k2 k3 k4 z0 y0 s0 u0 z1 y1 s1 u1
      have M6 := M5.out.set 0 (by simp) (.int .i64 v) (by simp only [List.mem_cons, List.not_mem_nil, or_false]; rintro q (rfl | rfl) <;> (simp only; omega))
      generalize w4.setCell ⟨w.heap.size + 1 + 1, 0, none⟩ (.int .i64 v) = wE at *
      obtain ⟨W, hW⟩ : ∃ W, putL (w.heap.size + 1) 0 [.int .i64 v, .int .i64 1] wE = W := ⟨_, rfl⟩
      have MF := (M6.sub (bs' := (w.heap.size + 1, [.int .i64 0, .int .i64 0]) :: [(w.heap.size + 1 + 1, [.int .i64 v, .int .i64 1]), (w.heap.size, [.int .i64 P, .int .i64 D, .int .i64 L, .int .i64 x, .int .i64 y])]) (by simp only [List.mem_cons, List.not_mem_nil, or_false]; rintro q (q1 | q1 | q1) <;> simp [q1])).put [.int .i64 v, .int .i64 1] rfl (by simp only [List.mem_cons, List.not_mem_nil, or_false]; rintro q (rfl | rfl) <;> (simp only; omega))
      rw [hW] at MF
      have BW := (MF.blk _ (List.mem_cons_self ..)).1
      have HG : Hid (GivesPairE w C a b off n cap f (.returned (.agg #[.int .i64 v, .int .i64 1])) W) := ⟨v, 1, rfl, MF.sub (fun q hq => by cases hq)⟩
      simp only [putL, Nat.zero_add] at hW
      simp only [hW]
      have q0 := (BW 0 _ rfl).1
      have q1 := (BW 1 _ rfl).1
      refine bodyPost_ret (v := .agg #[.int .i64 v, .int .i64 1]) (by simp [results, Tryd.results71, go_sem, q0, q1]) rfl HG.out
    have e0 : (d == 0) = false := by simpa using c0
    have e1 : (d == 1) = false := by simpa using c1
    have e2 : (d == 2) = false := by simpa using c2
    have KB := (MT.out.blk (w.heap.size, [.int .i64 P, .int .i64 D, .int .i64 L, .int .i64 x, .int .i64 y]) (by simp)).1
    have KR := (MT.out.blk (w.heap.size + 1, [.int .i64 0, .int .i64 0]) (by simp)).1
    have KS := (MT.out.blk (w.heap.size + 1 + 1, [.int .i64 0, .int .i64 1]) (by simp)).1
    have k0 := (KB 0 _ rfl).1
    have k1 := (KB 1 _ rfl).1
    have k2 := (KB 2 _ rfl).1
    have k3 := (KB 3 _ rfl).1
    have k4 := (KB 4 _ rfl).1
    have z0 := (KR 0 _ rfl).1
    have z1 := (KR 1 _ rfl).1
    have y0 := (KR 0 _ rfl).2
    have y1 := (KR 1 _ rfl).2
    have s0 := (KS 0 _ rfl).1
    have s1 := (KS 1 _ rfl).1
    have u0 := (KS 0 _ rfl).2
    have u1 := (KS 1 _ rfl).2
    clear KB KR KS
    go_wp2
    clear k0 k1 k2 k3 k4 z0 y0 s0 u0 z1 y1 s1 u1
    have M6 := MT.out
    generalize wt = wE at *
    obtain ⟨W, hW⟩ : ∃ W, putL (w.heap.size + 1) 0 [.int .i64 0, .int .i64 1] wE = W := ⟨_, rfl⟩
    have MF := (M6.sub (bs' := (w.heap.size + 1, [.int .i64 0, .int .i64 0]) :: [(w.heap.size + 1 + 1, [.int .i64 0, .int .i64 1]), (w.heap.size, [.int .i64 P, .int .i64 D, .int .i64 L, .int .i64 x, .int .i64 y])]) (by simp only [List.mem_cons, List.not_mem_nil, or_false]; rintro q (q1 | q1 | q1) <;> simp [q1])).put [.int .i64 0, .int .i64 1] rfl (by simp only [List.mem_cons, List.not_mem_nil, or_false]; rintro q (rfl | rfl) <;> (simp only; omega))
    rw [hW] at MF
    have BW := (MF.blk _ (List.mem_cons_self ..)).1
    have HG : Hid (GivesPairE w C a b off n cap f (.returned (.agg #[.int .i64 0, .int .i64 1])) W) := ⟨0, 1, rfl, MF.sub (fun q hq => by cases hq)⟩
    simp only [putL, Nat.zero_add] at hW
    simp only [hW]
    have q0 := (BW 0 _ rfl).1
    have q1 := (BW 1 _ rfl).1
    refine bodyPost_ret (v := .agg #[.int .i64 0, .int .i64 1]) (by simp [results, Tryd.results71, go_sem, q0, q1]) rfl HG.out
  rw [show (decide (13 ≤ P) && decide (P ≤ 1048576)) = true by simp; omega]
  obtain ⟨p, rfl⟩ := Int.eq_ofNat_of_zero_le hp0
  have M4 := M0
  clear M0
  have KB := (M4.out.blk (w.heap.size, [.int .i64 (p : Int), .int .i64 D, .int .i64 L, .int .i64 x, .int .i64 y]) (by simp)).1
  have KT' := (M4.out.blk (w.heap.size + 1 + 1 + 1, [.int .i64 x, .int .i64 y]) (by simp)).1
  have k0 := (KB 0 _ rfl).1
  have k1 := (KB 1 _ rfl).1
  have k2 := (KB 2 _ rfl).1
  have k3 := (KB 3 _ rfl).1
  have k4 := (KB 4 _ rfl).1
  have t0 := (KT' 0 _ rfl).1
  have t1 := (KT' 1 _ rfl).1
  clear KB KT'
  by_cases hpr : Prime p
  rotate_left
  · have HP : Hid (∀ W : World, Calls Tryd.prog 98 #[.int .i64 (p : Int)] W fun r w' => r = .returned (.bool false) ∧ Ext W w') := fun W => prime_ext (p : Int) false W (by omega) ⟨fun q => (by cases q), fun q => absurd (by have := q.2.2; simpa using this) hpr⟩
    go_wp2_with fail
    refine (HP.out _).mono ?_
    rintro r w5 ⟨rfl, hw5⟩
    have M := hide ((M4.out.ext hw5).sub (bs' := [(w.heap.size + 1 + 1, [.int .i64 0, .int .i64 1]), (w.heap.size + 1, [.int .i64 0, .int .i64 0]), (w.heap.size, [.int .i64 (p : Int), .int .i64 D, .int .i64 L, .int .i64 x, .int .i64 y])]) (by simp only [List.mem_cons, List.not_mem_nil, or_false]; rintro q (q1 | q1 | q1) <;> simp [q1]))
    clear M4 hw5 HP k0 k1 k2 k3 k4 t0 t1
    go_wp2_with fail
    refine (l1Below_any C a b off n cap f 20 _ M.out.cur M.out.code hn (by omega) (by omega)).mono ?_
    rintro e wt ⟨d, rfl, d0, d1, hCt, Tt⟩
    have MT := hide (M.out.touch Tt hCt)
    clear M Tt hCt
    by_cases c0 : d = 0
    · subst c0
      have KB := (MT.out.blk (w.heap.size, [.int .i64 (p : Int), .int .i64 D, .int .i64 L, .int .i64 x, .int .i64 y]) (by simp)).1
      have KR := (MT.out.blk (w.heap.size + 1, [.int .i64 0, .int .i64 0]) (by simp)).1
      have KS := (MT.out.blk (w.heap.size + 1 + 1, [.int .i64 0, .int .i64 1]) (by simp)).1
      have k0 := (KB 0 _ rfl).1
      have k1 := (KB 1 _ rfl).1
      have k2 := (KB 2 _ rfl).1
      have k3 := (KB 3 _ rfl).1
      have k4 := (KB 4 _ rfl).1
      have z0 := (KR 0 _ rfl).1
      have z1 := (KR 1 _ rfl).1
      have y0 := (KR 0 _ rfl).2
      have y1 := (KR 1 _ rfl).2
      have s0 := (KS 0 _ rfl).1
      have s1 := (KS 1 _ rfl).1
      have u0 := (KS 0 _ rfl).2
      have u1 := (KS 1 _ rfl).2
      clear KB KR KS
      go_wp2
      clear k0 k1 k2 k3 k4 z0 y0 s0 u0 z1 y1 s1 u1
      have M6 := MT.out.set 1 (by simp) (.int .i64 2) (by simp only [List.mem_cons, List.not_mem_nil, or_false]; rintro q (rfl | rfl) <;> (simp only; omega))
      generalize wt.setCell ⟨w.heap.size + 1 + 1, 1, none⟩ (.int .i64 2) = wE at *
      obtain ⟨W, hW⟩ : ∃ W, putL (w.heap.size + 1) 0 [.int .i64 0, .int .i64 2] wE = W := ⟨_, rfl⟩
      have MF := (M6.sub (bs' := (w.heap.size + 1, [.int .i64 0, .int .i64 0]) :: [(w.heap.size + 1 + 1, [.int .i64 0, .int .i64 2]), (w.heap.size, [.int .i64 (p : Int), .int .i64 D, .int .i64 L, .int .i64 x, .int .i64 y])]) (by simp only [List.mem_cons, List.not_mem_nil, or_false]; rintro q (q1 | q1 | q1) <;> simp [q1])).put [.int .i64 0, .int .i64 2] rfl (by simp only [List.mem_cons, List.not_mem_nil, or_false]; rintro q (rfl | rfl) <;> (simp only; omega))
      rw [hW] at MF
      have BW := (MF.blk _ (List.mem_cons_self ..)).1
      have HG : Hid (GivesPairE w C a b off n cap f (.returned (.agg #[.int .i64 0, .int .i64 2])) W) := ⟨0, 2, rfl, MF.sub (fun q hq => by cases hq)⟩
      simp only [putL, Nat.zero_add] at hW
      simp only [hW]
      have q0 := (BW 0 _ rfl).1
      have q1 := (BW 1 _ rfl).1
      refine bodyPost_ret (v := .agg #[.int .i64 0, .int .i64 2]) (by simp [results, Tryd.results71, go_sem, q0, q1]) rfl HG.out
    by_cases c1 : d = 1
    · subst c1
      have KB := (MT.out.blk (w.heap.size, [.int .i64 (p : Int), .int .i64 D, .int .i64 L, .int .i64 x, .int .i64 y]) (by simp)).1
      have KR := (MT.out.blk (w.heap.size + 1, [.int .i64 0, .int .i64 0]) (by simp)).1
      have KS := (MT.out.blk (w.heap.size + 1 + 1, [.int .i64 0, .int .i64 1]) (by simp)).1
      have k0 := (KB 0 _ rfl).1
      have k1 := (KB 1 _ rfl).1
      have k2 := (KB 2 _ rfl).1
      have k3 := (KB 3 _ rfl).1
      have k4 := (KB 4 _ rfl).1
      have z0 := (KR 0 _ rfl).1
      have z1 := (KR 1 _ rfl).1
      have y0 := (KR 0 _ rfl).2
      have y1 := (KR 1 _ rfl).2
      have s0 := (KS 0 _ rfl).1
      have s1 := (KS 1 _ rfl).1
      have u0 := (KS 0 _ rfl).2
      have u1 := (KS 1 _ rfl).2
      clear KB KR KS
      go_wp2
      clear k0 k1 k2 k3 k4 z0 y0 s0 u0 z1 y1 s1 u1
      have M6 := MT.out.put [.int .i64 0, .int .i64 ((p : Int) - 1)] rfl (by simp only [List.mem_cons, List.not_mem_nil, or_false]; rintro q (rfl | rfl) <;> (simp only; omega))
      simp only [putL, Nat.zero_add] at M6
      generalize (wt.setCell ⟨w.heap.size + 1 + 1, 0, none⟩ (.int .i64 0)).setCell ⟨w.heap.size + 1 + 1, 1, none⟩ (.int .i64 ((p : Int) - 1)) = wE at *
      obtain ⟨W, hW⟩ : ∃ W, putL (w.heap.size + 1) 0 [.int .i64 0, .int .i64 ((p : Int) - 1)] wE = W := ⟨_, rfl⟩
      have MF := (M6.sub (bs' := (w.heap.size + 1, [.int .i64 0, .int .i64 0]) :: [(w.heap.size + 1 + 1, [.int .i64 0, .int .i64 ((p : Int) - 1)]), (w.heap.size, [.int .i64 (p : Int), .int .i64 D, .int .i64 L, .int .i64 x, .int .i64 y])]) (by simp only [List.mem_cons, List.not_mem_nil, or_false]; rintro q (q1 | q1 | q1) <;> simp [q1])).put [.int .i64 0, .int .i64 ((p : Int) - 1)] rfl (by simp only [List.mem_cons, List.not_mem_nil, or_false]; rintro q (rfl | rfl) <;> (simp only; omega))
      rw [hW] at MF
      have BW := (MF.blk _ (List.mem_cons_self ..)).1
      have HG : Hid (GivesPairE w C a b off n cap f (.returned (.agg #[.int .i64 0, .int .i64 ((p : Int) - 1)])) W) := ⟨0, ((p : Int) - 1), rfl, MF.sub (fun q hq => by cases hq)⟩
      simp only [putL, Nat.zero_add] at hW
      simp only [hW]
      have q0 := (BW 0 _ rfl).1
      have q1 := (BW 1 _ rfl).1
      refine bodyPost_ret (v := .agg #[.int .i64 0, .int .i64 ((p : Int) - 1)]) (by simp [results, Tryd.results71, go_sem, q0, q1]) rfl HG.out
    by_cases c2 : d = 2
    · subst c2
      have E4 := Ext.alloc wt (.cells #[.int .i64 (-1), .int .i64 (p : Int)] 3)
      have M4 := hide (MT.out.ext E4)
      obtain ⟨g, hg⟩ : ∃ g : Nat → Int, g = fun i => if i = 0 then -1 else (p : Int) := ⟨_, rfl⟩
      have Sg := seg_lit wt #[.int .i64 (-1), .int .i64 (p : Int)] 2 g (fun i hi => by
        rw [hg]
        have : i = 0 ∨ i = 1 := by omega
        rcases this with rfl | rfl <;> rfl)
      clear hg
      have hne : wt.heap.size ≠ C := by have := MT.out.cur.lt; omega
      have KB := (MT.out.blk (w.heap.size, [.int .i64 (p : Int), .int .i64 D, .int .i64 L, .int .i64 x, .int .i64 y]) (by simp)).1
      have KR := (MT.out.blk (w.heap.size + 1, [.int .i64 0, .int .i64 0]) (by simp)).1
      have KS := (MT.out.blk (w.heap.size + 1 + 1, [.int .i64 0, .int .i64 1]) (by simp)).1
      have k0 := (KB 0 _ rfl).1
      have k1 := (KB 1 _ rfl).1
      have k2 := (KB 2 _ rfl).1
      have k3 := (KB 3 _ rfl).1
      have k4 := (KB 4 _ rfl).1
      have z0 := (KR 0 _ rfl).1
      have z1 := (KR 1 _ rfl).1
      have y0 := (KR 0 _ rfl).2
      have y1 := (KR 1 _ rfl).2
      have s0 := (KS 0 _ rfl).1
      have s1 := (KS 1 _ rfl).1
      have u0 := (KS 0 _ rfl).2
      have u1 := (KS 1 _ rfl).2
      clear KB KR KS
      go_wp2_with fail
      clear k0 k1 k2 k3 k4 z0 y0 s0 u0 z1 y1 s1 u1
      refine (l1PickInt_of C a b off n cap f _ wt.heap.size 0 2 _ _ _ M4.out.cur M4.out.code hn Sg (by omega) (by omega) hne).mono ?_
      rintro e w4 ⟨i, hi, rfl, hC4, T4⟩
      have M5 := hide (M4.out.touch T4 hC4)
      clear MT M4 T4 hC4 Sg E4 hne
      generalize g i = v at *
      have KB := (M5.out.blk (w.heap.size, [.int .i64 (p : Int), .int .i64 D, .int .i64 L, .int .i64 x, .int .i64 y]) (by simp)).1
      have KR := (M5.out.blk (w.heap.size + 1, [.int .i64 0, .int .i64 0]) (by simp)).1
      have KS := (M5.out.blk (w.heap.size + 1 + 1, [.int .i64 0, .int .i64 1]) (by simp)).1
      have k0 := (KB 0 _ rfl).1
      have k1 := (KB 1 _ rfl).1
      have k2 := (KB 2 _ rfl).1
      have k3 := (KB 3 _ rfl).1
      have k4 := (KB 4 _ rfl).1
      have z0 := (KR 0 _ rfl).1
      have z1 := (KR 1 _ rfl).1
      have y0 := (KR 0 _ rfl).2
      have y1 := (KR 1 _ rfl).2
      have s0 := (KS 0 _ rfl).1
      have s1 := (KS 1 _ rfl).1
      have u0 := (KS 0 _ rfl).2
      have u1 := (KS 1 _ rfl).2
      clear KB KR KS
      go_wp2
      clear k0 k1 k2 k3 k4 z0 y0 s0 u0 z1 y1 s1 u1
      have M6 := M5.out.set 0 (by simp) (.int .i64 v) (by simp only [List.mem_cons, List.not_mem_nil, or_false]; rintro q (rfl | rfl) <;> (simp only; omega))
      generalize w4.setCell ⟨w.heap.size + 1 + 1, 0, none⟩ (.int .i64 v) = wE at *
      obtain ⟨W, hW⟩ : ∃ W, putL (w.heap.size + 1) 0 [.int .i64 v, .int .i64 1] wE = W := ⟨_, rfl⟩
      have MF := (M6.sub (bs' := (w.heap.size + 1, [.int .i64 0, .int .i64 0]) :: [(w.heap.size + 1 + 1, [.int .i64 v, .int .i64 1]), (w.heap.size, [.int .i64 (p : Int), .int .i64 D, .int .i64 L, .int .i64 x, .int .i64 y])]) (by simp only [List.mem_cons, List.not_mem_nil, or_false]; rintro q (q1 | q1 | q1) <;> simp [q1])).put [.int .i64 v, .int .i64 1] rfl (by simp only [List.mem_cons, List.not_mem_nil, or_false]; rintro q (rfl | rfl) <;> (simp only; omega))
      rw [hW] at MF
      have BW := (MF.blk _ (List.mem_cons_self ..)).1
      have HG : Hid (GivesPairE w C a b off n cap f (.returned (.agg #[.int .i64 v, .int .i64 1])) W) := ⟨v, 1, rfl, MF.sub (fun q hq => by cases hq)⟩
      simp only [putL, Nat.zero_add] at hW
      simp only [hW]
      have q0 := (BW 0 _ rfl).1
      have q1 := (BW 1 _ rfl).1
      refine bodyPost_ret (v := .agg #[.int .i64 v, .int .i64 1]) (by simp [results, Tryd.results71, go_sem, q0, q1]) rfl HG.out
    have e0 : (d == 0) = false := by simpa using c0
    have e1 : (d == 1) = false := by simpa using c1
    have e2 : (d == 2) = false := by simpa using c2
    have KB := (MT.out.blk (w.heap.size, [.int .i64 (p : Int), .int .i64 D, .int .i64 L, .int .i64 x, .int .i64 y]) (by simp)).1
    have KR := (MT.out.blk (w.heap.size + 1, [.int .i64 0, .int .i64 0]) (by simp)).1
    have KS := (MT.out.blk (w.heap.size + 1 + 1, [.int .i64 0, .int .i64 1]) (by simp)).1
    have k0 := (KB 0 _ rfl).1
    have k1 := (KB 1 _ rfl).1
    have k2 := (KB 2 _ rfl).1
    have k3 := (KB 3 _ rfl).1
    have k4 := (KB 4 _ rfl).1
    have z0 := (KR 0 _ rfl).1
    have z1 := (KR 1 _ rfl).1
    have y0 := (KR 0 _ rfl).2
    have y1 := (KR 1 _ rfl).2
    have s0 := (KS 0 _ rfl).1
    have s1 := (KS 1 _ rfl).1
    have u0 := (KS 0 _ rfl).2
    have u1 := (KS 1 _ rfl).2
    clear KB KR KS
    go_wp2
    clear k0 k1 k2 k3 k4 z0 y0 s0 u0 z1 y1 s1 u1
    have M6 := MT.out
    generalize wt = wE at *
    obtain ⟨W, hW⟩ : ∃ W, putL (w.heap.size + 1) 0 [.int .i64 0, .int .i64 1] wE = W := ⟨_, rfl⟩
    have MF := (M6.sub (bs' := (w.heap.size + 1, [.int .i64 0, .int .i64 0]) :: [(w.heap.size + 1 + 1, [.int .i64 0, .int .i64 1]), (w.heap.size, [.int .i64 (p : Int), .int .i64 D, .int .i64 L, .int .i64 x, .int .i64 y])]) (by simp only [List.mem_cons, List.not_mem_nil, or_false]; rintro q (q1 | q1 | q1) <;> simp [q1])).put [.int .i64 0, .int .i64 1] rfl (by simp only [List.mem_cons, List.not_mem_nil, or_false]; rintro q (rfl | rfl) <;> (simp only; omega))
    rw [hW] at MF
    have BW := (MF.blk _ (List.mem_cons_self ..)).1
    have HG : Hid (GivesPairE w C a b off n cap f (.returned (.agg #[.int .i64 0, .int .i64 1])) W) := ⟨0, 1, rfl, MF.sub (fun q hq => by cases hq)⟩
    simp only [putL, Nat.zero_add] at hW
    simp only [hW]
    have q0 := (BW 0 _ rfl).1
    have q1 := (BW 1 _ rfl).1
    refine bodyPost_ret (v := .agg #[.int .i64 0, .int .i64 1]) (by simp [results, Tryd.results71, go_sem, q0, q1]) rfl HG.out
  have HP : Hid (∀ W : World, Calls Tryd.prog 98 #[.int .i64 (p : Int)] W fun r w' => r = .returned (.bool true) ∧ Ext W w') := fun W => prime_ext (p : Int) true W (by omega) ⟨fun _ => ⟨by omega, by omega, by simpa using hpr⟩, fun _ => rfl⟩
  go_wp2_with fail
  refine (HP.out _).mono ?_
  rintro r w5 ⟨rfl, hw5⟩
  clear k0 k1 k2 k3 k4 t0 t1
  replace M4 := hide (M4.out.ext hw5)
  clear hw5 HP
  have KB := (M4.out.blk (w.heap.size, [.int .i64 (p : Int), .int .i64 D, .int .i64 L, .int .i64 x, .int .i64 y]) (by simp)).1
  have KT' := (M4.out.blk (w.heap.size + 1 + 1 + 1, [.int .i64 x, .int .i64 y]) (by simp)).1
  have k0 := (KB 0 _ rfl).1
  have k1 := (KB 1 _ rfl).1
  have k2 := (KB 2 _ rfl).1
  have k3 := (KB 3 _ rfl).1
  have k4 := (KB 4 _ rfl).1
  have t0 := (KT' 0 _ rfl).1
  have t1 := (KT' 1 _ rfl).1
  clear KB KT'
  by_cases ho : OnE p D ⟨x, y⟩
  rotate_left
  · have HO := hide (l4On_at p D L x y ⟨x, y⟩ false ⟨fun q => (by cases q), fun q => absurd q ho⟩ (by omega) (by omega) hd0 hd1)
    go_wp2_with fail
    refine (HO.out _).mono ?_
    rintro r w6 ⟨rfl, hw6⟩
    have M := hide ((M4.out.ext hw6).sub (bs' := [(w.heap.size + 1 + 1, [.int .i64 0, .int .i64 1]), (w.heap.size + 1, [.int .i64 0, .int .i64 0]), (w.heap.size, [.int .i64 (p : Int), .int .i64 D, .int .i64 L, .int .i64 x, .int .i64 y])]) (by simp only [List.mem_cons, List.not_mem_nil, or_false]; rintro q (q1 | q1 | q1) <;> simp [q1]))
    clear M4 hw6 HO k0 k1 k2 k3 k4 t0 t1
    go_wp2_with fail
    refine (l1Below_any C a b off n cap f 20 _ M.out.cur M.out.code hn (by omega) (by omega)).mono ?_
    rintro e wt ⟨d, rfl, d0, d1, hCt, Tt⟩
    have MT := hide (M.out.touch Tt hCt)
    clear M Tt hCt
    by_cases c0 : d = 0
    · subst c0
      have KB := (MT.out.blk (w.heap.size, [.int .i64 (p : Int), .int .i64 D, .int .i64 L, .int .i64 x, .int .i64 y]) (by simp)).1
      have KR := (MT.out.blk (w.heap.size + 1, [.int .i64 0, .int .i64 0]) (by simp)).1
      have KS := (MT.out.blk (w.heap.size + 1 + 1, [.int .i64 0, .int .i64 1]) (by simp)).1
      have k0 := (KB 0 _ rfl).1
      have k1 := (KB 1 _ rfl).1
      have k2 := (KB 2 _ rfl).1
      have k3 := (KB 3 _ rfl).1
      have k4 := (KB 4 _ rfl).1
      have z0 := (KR 0 _ rfl).1
      have z1 := (KR 1 _ rfl).1
      have y0 := (KR 0 _ rfl).2
      have y1 := (KR 1 _ rfl).2
      have s0 := (KS 0 _ rfl).1
      have s1 := (KS 1 _ rfl).1
      have u0 := (KS 0 _ rfl).2
      have u1 := (KS 1 _ rfl).2
      clear KB KR KS
      go_wp2
      clear k0 k1 k2 k3 k4 z0 y0 s0 u0 z1 y1 s1 u1
      have M6 := MT.out.set 1 (by simp) (.int .i64 2) (by simp only [List.mem_cons, List.not_mem_nil, or_false]; rintro q (rfl | rfl) <;> (simp only; omega))
      generalize wt.setCell ⟨w.heap.size + 1 + 1, 1, none⟩ (.int .i64 2) = wE at *
      obtain ⟨W, hW⟩ : ∃ W, putL (w.heap.size + 1) 0 [.int .i64 0, .int .i64 2] wE = W := ⟨_, rfl⟩
      have MF := (M6.sub (bs' := (w.heap.size + 1, [.int .i64 0, .int .i64 0]) :: [(w.heap.size + 1 + 1, [.int .i64 0, .int .i64 2]), (w.heap.size, [.int .i64 (p : Int), .int .i64 D, .int .i64 L, .int .i64 x, .int .i64 y])]) (by simp only [List.mem_cons, List.not_mem_nil, or_false]; rintro q (q1 | q1 | q1) <;> simp [q1])).put [.int .i64 0, .int .i64 2] rfl (by simp only [List.mem_cons, List.not_mem_nil, or_false]; rintro q (rfl | rfl) <;> (simp only; omega))
      rw [hW] at MF
      have BW := (MF.blk _ (List.mem_cons_self ..)).1
      have HG : Hid (GivesPairE w C a b off n cap f (.returned (.agg #[.int .i64 0, .int .i64 2])) W) := ⟨0, 2, rfl, MF.sub (fun q hq => by cases hq)⟩
      simp only [putL, Nat.zero_add] at hW
      simp only [hW]
      have q0 := (BW 0 _ rfl).1
      have q1 := (BW 1 _ rfl).1
      refine bodyPost_ret (v := .agg #[.int .i64 0, .int .i64 2]) (by simp [results, Tryd.results71, go_sem, q0, q1]) rfl HG.out
    by_cases c1 : d = 1
    · subst c1
      have KB := (MT.out.blk (w.heap.size, [.int .i64 (p : Int), .int .i64 D, .int .i64 L, .int .i64 x, .int .i64 y]) (by simp)).1
      have KR := (MT.out.blk (w.heap.size + 1, [.int .i64 0, .int .i64 0]) (by simp)).1
      have KS := (MT.out.blk (w.heap.size + 1 + 1, [.int .i64 0, .int .i64 1]) (by simp)).1
      have k0 := (KB 0 _ rfl).1
      have k1 := (KB 1 _ rfl).1
      have k2 := (KB 2 _ rfl).1
      have k3 := (KB 3 _ rfl).1
      have k4 := (KB 4 _ rfl).1
      have z0 := (KR 0 _ rfl).1
      have z1 := (KR 1 _ rfl).1
      have y0 := (KR 0 _ rfl).2
      have y1 := (KR 1 _ rfl).2
      have s0 := (KS 0 _ rfl).1
      have s1 := (KS 1 _ rfl).1
      have u0 := (KS 0 _ rfl).2
      have u1 := (KS 1 _ rfl).2
      clear KB KR KS
      go_wp2
      clear k0 k1 k2 k3 k4 z0 y0 s0 u0 z1 y1 s1 u1
      have M6 := MT.out.put [.int .i64 0, .int .i64 ((p : Int) - 1)] rfl (by simp only [List.mem_cons, List.not_mem_nil, or_false]; rintro q (rfl | rfl) <;> (simp only; omega))
      simp only [putL, Nat.zero_add] at M6
      generalize (wt.setCell ⟨w.heap.size + 1 + 1, 0, none⟩ (.int .i64 0)).setCell ⟨w.heap.size + 1 + 1, 1, none⟩ (.int .i64 ((p : Int) - 1)) = wE at *
      obtain ⟨W, hW⟩ : ∃ W, putL (w.heap.size + 1) 0 [.int .i64 0, .int .i64 ((p : Int) - 1)] wE = W := ⟨_, rfl⟩
      have MF := (M6.sub (bs' := (w.heap.size + 1, [.int .i64 0, .int .i64 0]) :: [(w.heap.size + 1 + 1, [.int .i64 0, .int .i64 ((p : Int) - 1)]), (w.heap.size, [.int .i64 (p : Int), .int .i64 D, .int .i64 L, .int .i64 x, .int .i64 y])]) (by simp only [List.mem_cons, List.not_mem_nil, or_false]; rintro q (q1 | q1 | q1) <;> simp [q1])).put [.int .i64 0, .int .i64 ((p : Int) - 1)] rfl (by simp only [List.mem_cons, List.not_mem_nil, or_false]; rintro q (rfl | rfl) <;> (simp only; omega))
      rw [hW] at MF
      have BW := (MF.blk _ (List.mem_cons_self ..)).1
      have HG : Hid (GivesPairE w C a b off n cap f (.returned (.agg #[.int .i64 0, .int .i64 ((p : Int) - 1)])) W) := ⟨0, ((p : Int) - 1), rfl, MF.sub (fun q hq => by cases hq)⟩
      simp only [putL, Nat.zero_add] at hW
      simp only [hW]
      have q0 := (BW 0 _ rfl).1
      have q1 := (BW 1 _ rfl).1
      refine bodyPost_ret (v := .agg #[.int .i64 0, .int .i64 ((p : Int) - 1)]) (by simp [results, Tryd.results71, go_sem, q0, q1]) rfl HG.out
    by_cases c2 : d = 2
    · subst c2
      have E4 := Ext.alloc wt (.cells #[.int .i64 (-1), .int .i64 (p : Int)] 3)
      have M4 := hide (MT.out.ext E4)
      obtain ⟨g, hg⟩ : ∃ g : Nat → Int, g = fun i => if i = 0 then -1 else (p : Int) := ⟨_, rfl⟩
      have Sg := seg_lit wt #[.int .i64 (-1), .int .i64 (p : Int)] 2 g (fun i hi => by
        rw [hg]
        have : i = 0 ∨ i = 1 := by omega
        rcases this with rfl | rfl <;> rfl)
      clear hg
      have hne : wt.heap.size ≠ C := by have := MT.out.cur.lt; omega
      have KB := (MT.out.blk (w.heap.size, [.int .i64 (p : Int), .int .i64 D, .int .i64 L, .int .i64 x, .int .i64 y]) (by simp)).1
      have KR := (MT.out.blk (w.heap.size + 1, [.int .i64 0, .int .i64 0]) (by simp)).1
      have KS := (MT.out.blk (w.heap.size + 1 + 1, [.int .i64 0, .int .i64 1]) (by simp)).1
      have k0 := (KB 0 _ rfl).1
      have k1 := (KB 1 _ rfl).1
      have k2 := (KB 2 _ rfl).1
      have k3 := (KB 3 _ rfl).1
      have k4 := (KB 4 _ rfl).1
      have z0 := (KR 0 _ rfl).1
      have z1 := (KR 1 _ rfl).1
      have y0 := (KR 0 _ rfl).2
      have y1 := (KR 1 _ rfl).2
      have s0 := (KS 0 _ rfl).1
      have s1 := (KS 1 _ rfl).1
      have u0 := (KS 0 _ rfl).2
      have u1 := (KS 1 _ rfl).2
      clear KB KR KS
      go_wp2_with fail
      clear k0 k1 k2 k3 k4 z0 y0 s0 u0 z1 y1 s1 u1
      refine (l1PickInt_of C a b off n cap f _ wt.heap.size 0 2 _ _ _ M4.out.cur M4.out.code hn Sg (by omega) (by omega) hne).mono ?_
      rintro e w4 ⟨i, hi, rfl, hC4, T4⟩
      have M5 := hide (M4.out.touch T4 hC4)
      clear MT M4 T4 hC4 Sg E4 hne
      generalize g i = v at *
      have KB := (M5.out.blk (w.heap.size, [.int .i64 (p : Int), .int .i64 D, .int .i64 L, .int .i64 x, .int .i64 y]) (by simp)).1
      have KR := (M5.out.blk (w.heap.size + 1, [.int .i64 0, .int .i64 0]) (by simp)).1
      have KS := (M5.out.blk (w.heap.size + 1 + 1, [.int .i64 0, .int .i64 1]) (by simp)).1
      have k0 := (KB 0 _ rfl).1
      have k1 := (KB 1 _ rfl).1
      have k2 := (KB 2 _ rfl).1
      have k3 := (KB 3 _ rfl).1
      have k4 := (KB 4 _ rfl).1
      have z0 := (KR 0 _ rfl).1
      have z1 := (KR 1 _ rfl).1
      have y0 := (KR 0 _ rfl).2
      have y1 := (KR 1 _ rfl).2
      have s0 := (KS 0 _ rfl).1
      have s1 := (KS 1 _ rfl).1
      have u0 := (KS 0 _ rfl).2
      have u1 := (KS 1 _ rfl).2
      clear KB KR KS
      go_wp2
      clear k0 k1 k2 k3 k4 z0 y0 s0 u0 z1 y1 s1 u1
      have M6 := M5.out.set 0 (by simp) (.int .i64 v) (by simp only [List.mem_cons, List.not_mem_nil, or_false]; rintro q (rfl | rfl) <;> (simp only; omega))
      generalize w4.setCell ⟨w.heap.size + 1 + 1, 0, none⟩ (.int .i64 v) = wE at *
      obtain ⟨W, hW⟩ : ∃ W, putL (w.heap.size + 1) 0 [.int .i64 v, .int .i64 1] wE = W := ⟨_, rfl⟩
      have MF := (M6.sub (bs' := (w.heap.size + 1, [.int .i64 0, .int .i64 0]) :: [(w.heap.size + 1 + 1, [.int .i64 v, .int .i64 1]), (w.heap.size, [.int .i64 (p : Int), .int .i64 D, .int .i64 L, .int .i64 x, .int .i64 y])]) (by simp only [List.mem_cons, List.not_mem_nil, or_false]; rintro q (q1 | q1 | q1) <;> simp [q1])).put [.int .i64 v, .int .i64 1] rfl (by simp only [List.mem_cons, List.not_mem_nil, or_false]; rintro q (rfl | rfl) <;> (simp only; omega))
      rw [hW] at MF
      have BW := (MF.blk _ (List.mem_cons_self ..)).1
      have HG : Hid (GivesPairE w C a b off n cap f (.returned (.agg #[.int .i64 v, .int .i64 1])) W) := ⟨v, 1, rfl, MF.sub (fun q hq => by cases hq)⟩
      simp only [putL, Nat.zero_add] at hW
      simp only [hW]
      have q0 := (BW 0 _ rfl).1
      have q1 := (BW 1 _ rfl).1
      refine bodyPost_ret (v := .agg #[.int .i64 v, .int .i64 1]) (by simp [results, Tryd.results71, go_sem, q0, q1]) rfl HG.out
    have e0 : (d == 0) = false := by simpa using c0
    have e1 : (d == 1) = false := by simpa using c1
    have e2 : (d == 2) = false := by simpa using c2
    have KB := (MT.out.blk (w.heap.size, [.int .i64 (p : Int), .int .i64 D, .int .i64 L, .int .i64 x, .int .i64 y]) (by simp)).1
    have KR := (MT.out.blk (w.heap.size + 1, [.int .i64 0, .int .i64 0]) (by simp)).1
    have KS := (MT.out.blk (w.heap.size + 1 + 1, [.int .i64 0, .int .i64 1]) (by simp)).1
    have k0 := (KB 0 _ rfl).1
    have k1 := (KB 1 _ rfl).1
    have k2 := (KB 2 _ rfl).1
    have k3 := (KB 3 _ rfl).1
    have k4 := (KB 4 _ rfl).1
    have z0 := (KR 0 _ rfl).1
    have z1 := (KR 1 _ rfl).1
    have y0 := (KR 0 _ rfl).2
    have y1 := (KR 1 _ rfl).2
    have s0 := (KS 0 _ rfl).1
    have s1 := (KS 1 _ rfl).1
    have u0 := (KS 0 _ rfl).2
    have u1 := (KS 1 _ rfl).2
    clear KB KR KS
    go_wp2
    clear k0 k1 k2 k3 k4 z0 y0 s0 u0 z1 y1 s1 u1
    have M6 := MT.out
    generalize wt = wE at *
    obtain ⟨W, hW⟩ : ∃ W, putL (w.heap.size + 1) 0 [.int .i64 0, .int .i64 1] wE = W := ⟨_, rfl⟩
    have MF := (M6.sub (bs' := (w.heap.size + 1, [.int .i64 0, .int .i64 0]) :: [(w.heap.size + 1 + 1, [.int .i64 0, .int .i64 1]), (w.heap.size, [.int .i64 (p : Int), .int .i64 D, .int .i64 L, .int .i64 x, .int .i64 y])]) (by simp only [List.mem_cons, List.not_mem_nil, or_false]; rintro q (q1 | q1 | q1) <;> simp [q1])).put [.int .i64 0, .int .i64 1] rfl (by simp only [List.mem_cons, List.not_mem_nil, or_false]; rintro q (rfl | rfl) <;> (simp only; omega))
    rw [hW] at MF
    have BW := (MF.blk _ (List.mem_cons_self ..)).1
    have HG : Hid (GivesPairE w C a b off n cap f (.returned (.agg #[.int .i64 0, .int .i64 1])) W) := ⟨0, 1, rfl, MF.sub (fun q hq => by cases hq)⟩
    simp only [putL, Nat.zero_add] at hW
    simp only [hW]
    have q0 := (BW 0 _ rfl).1
    have q1 := (BW 1 _ rfl).1
    refine bodyPost_ret (v := .agg #[.int .i64 0, .int .i64 1]) (by simp [results, Tryd.results71, go_sem, q0, q1]) rfl HG.out
  have HO := hide (l4On_at p D L x y ⟨x, y⟩ true ⟨fun _ => ho, fun _ => rfl⟩ (by omega) (by omega) hd0 hd1)
  go_wp2_with fail
  refine (HO.out _).mono ?_
  rintro r w6 ⟨rfl, hw6⟩
  clear k0 k1 k2 k3 k4 t0 t1
  replace M4 := hide (M4.out.ext hw6)
  clear hw6 HO
  go_wp2
  obtain ⟨X, hX⟩ : ∃ X : Nat → Prop, X = fun k => k = C ∨ k = w.heap.size + 1 + 1 := ⟨_, rfl⟩
  have xB : ¬ X (w.heap.size) := by rw [hX]; simp; omega
  have xT : ¬ X (w.heap.size + 1 + 1 + 1) := by rw [hX]; simp; omega
  have xC : X C := by rw [hX]; exact .inl rfl
  have xS : X (w.heap.size + 1 + 1) := by rw [hX]; exact .inr rfl
  clear hX
  have KB := (M4.out.blk (w.heap.size, [.int .i64 (p : Int), .int .i64 D, .int .i64 L, .int .i64 x, .int .i64 y]) (by simp)).1
  have KT' := (M4.out.blk (w.heap.size + 1 + 1 + 1, [.int .i64 x, .int .i64 y]) (by simp)).1
  have e0 := cell_reC (KB 0 _ rfl).1 xB
  have e1 := cell_reC (KB 1 _ rfl).1 xB
  have e2 := cell_reC (KB 2 _ rfl).1 xB
  have e3 := cell_reC (KB 3 _ rfl).1 xB
  have e4 := cell_reC (KB 4 _ rfl).1 xB
  have f0 := cell_reC (KT' 0 _ rfl).1 xT
  have f1 := cell_reC (KT' 1 _ rfl).1 xT
  clear KB KT'
  have HM4 : Grw X w6 w6 := .refl _ _
  refine anyK_begin X 6 rfl (by kernel_rfl) ?_
  refine anyK_take 0 2 4 rfl (by decide) (by kernel_rfl) (fun _ _ d _ _ h => by cases d <;> exact h) ?_
  repeat (refine headC_step (fun K hK => ?_); go_simp; first | (refine hK _ ?_; clear hK K) | (apply Exists.intro; refine ⟨fun _ => ?_, hK _ ?_⟩; (fail); clear hK K))
  refine headC_nil ?_
  refine anyK_take 3 1 3 rfl (by decide) (by kernel_rfl) (fun _ _ d _ _ h => by cases d <;> exact h) ?_
  repeat (refine headC_step (fun K hK => ?_); go_simp; first | (refine hK _ ?_; clear hK K) | (apply Exists.intro; refine ⟨fun _ => ?_, hK _ ?_⟩; (fail); clear hK K))
  refine headC_nil ?_
  clear e0 e1 e2 e3 e4 f0 f1
  refine anyK_one 2 (by kernel_rfl) ?_
  refine stepK_run rfl ?_
  intro wa ha K hK
  go_simp
  refine (l1Below_any C a b off n cap f 300 _ (M4.out.ext ha).cur (M4.out.ext ha).code hn (by omega) (by omega)).mono ?_
  rintro e wb ⟨m, rfl, m0, m1, hCm, Tm⟩
  have M5 := hide ((M4.out.ext ha).touch Tm hCm)
  have HM5 : Grw X w6 wb := (HM4.trans (.of_ext ha)).trans (.of_touch Tm xC)
  go_simp
  refine hK _ _ HM5 ?_
  clear hK K ha Tm hCm M4 HM4
  obtain ⟨m, rfl⟩ := Int.eq_ofNat_of_zero_le m0
  obtain ⟨A1, hA1⟩ : ∃ A1, mulE p D m ⟨x, y⟩ = A1 := ⟨_, rfl⟩
  have hbd : 0 ≤ A1.y ∧ A1.y ≤ 1048576 := by
    have := mulE_inE (p := p) (by omega) D m ⟨x, y⟩
    rw [hA1] at this
    exact ⟨this.y0, by have := this.y1; omega⟩
  have HM := hide (fun w => l4Mul_any p D L x y m ⟨x, y⟩ w hpr (by omega) (by omega) hd0 hd1 ho.inE (by omega))
  rw [hA1] at HM
  simp only [prV] at HM
  refine anyK_one 4 (by kernel_rfl) ?_
  refine stepK_run rfl ?_
  intro wa ha K hK
  go_simp
  refine (HM.out _).mono ?_
  rintro e wc ⟨rfl, hb⟩
  have hx := ha.trans hb
  have M6 := hide ((M5.out.ext hx).sub (bs' := [(w.heap.size + 1 + 1, [.int .i64 0, .int .i64 1]), (w.heap.size + 1, [.int .i64 0, .int .i64 0]), (w.heap.size, [.int .i64 (p : Int), .int .i64 D, .int .i64 L, .int .i64 x, .int .i64 y])]) (by simp only [List.mem_cons, List.not_mem_nil, or_false]; rintro q (q1 | q1 | q1) <;> simp [q1]))
  have HM6 : Grw X w6 wc := HM5.trans (.of_ext hx)
  go_simp
  refine hK _ _ HM6 ?_
  clear hK K ha hb hx M5 HM5 HM
  refine anyK_one 5 (by kernel_rfl) ?_
  refine stepK_run rfl ?_
  intro wa ha K hK
  have MA := M6.out.ext ha
  have KZ := (MA.blk (w.heap.size + 1 + 1, [.int .i64 0, .int .i64 1]) (by simp)).1
  have z0 := (KZ 0 _ rfl).1
  have z1 := (KZ 1 _ rfl).1
  have y0 := (KZ 0 _ rfl).2
  have y1 := (KZ 1 _ rfl).2
  go_simp
  have HM7 : Grw X w6 (putL (w.heap.size + 1 + 1) 0 [.int .i64 A1.x, .int .i64 A1.y] wa) := Grw.putL xS _ _ _ (HM6.trans (.of_ext ha))
  have M7 := hide (MA.put [.int .i64 A1.x, .int .i64 A1.y] rfl (by simp only [List.mem_cons, List.not_mem_nil, or_false]; rintro q (rfl | rfl) <;> (simp only; omega)))
  refine hK _ (putL (w.heap.size + 1 + 1) 0 [.int .i64 A1.x, .int .i64 A1.y] wa) HM7 ?_
  clear hK K ha MA KZ z0 z1 y0 y1 M6 HM6
  generalize putL (w.heap.size + 1 + 1) 0 [.int .i64 A1.x, .int .i64 A1.y] wa = wd at *
  refine anyK_done (by kernel_rfl) ?_ 0
  intro we hwe
  have M := hide (M7.out.ext hwe)
  clear M7 HM7 hwe xB xT xC xS X hA1
  obtain ⟨A1x, A1y⟩ := A1
  simp only at M hbd ⊢
  obtain ⟨sy0, sy1⟩ := hbd
  go_wp2_with fail
  refine (l1Below_any C a b off n cap f 20 _ M.out.cur M.out.code hn (by omega) (by omega)).mono ?_
  rintro e wt ⟨d, rfl, d0, d1, hCt, Tt⟩
  have MT := hide (M.out.touch Tt hCt)
  clear M Tt hCt
  by_cases c0 : d = 0
  · subst c0
    have KB := (MT.out.blk (w.heap.size, [.int .i64 (p : Int), .int .i64 D, .int .i64 L, .int .i64 x, .int .i64 y]) (by simp)).1
    have KR := (MT.out.blk (w.heap.size + 1, [.int .i64 0, .int .i64 0]) (by simp)).1
    have KS := (MT.out.blk (w.heap.size + 1 + 1, [.int .i64 A1x, .int .i64 A1y]) (by simp)).1
    have k0 := (KB 0 _ rfl).1
    have k1 := (KB 1 _ rfl).1
    have k2 := (KB 2 _ rfl).1
    have k3 := (KB 3 _ rfl).1
    have k4 := (KB 4 _ rfl).1
    have z0 := (KR 0 _ rfl).1
    have z1 := (KR 1 _ rfl).1
    have y0 := (KR 0 _ rfl).2
    have y1 := (KR 1 _ rfl).2
    have s0 := (KS 0 _ rfl).1
    have s1 := (KS 1 _ rfl).1
    have u0 := (KS 0 _ rfl).2
    have u1 := (KS 1 _ rfl).2
    clear KB KR KS
    go_wp2
    clear k0 k1 k2 k3 k4 z0 y0 s0 u0 z1 y1 s1 u1
    have M6 := MT.out.set 1 (by simp) (.int .i64 (A1y + 1)) (by simp only [List.mem_cons, List.not_mem_nil, or_false]; rintro q (rfl | rfl) <;> (simp only; omega))
    generalize wt.setCell ⟨w.heap.size + 1 + 1, 1, none⟩ (.int .i64 (A1y + 1)) = wE at *
    obtain ⟨W, hW⟩ : ∃ W, putL (w.heap.size + 1) 0 [.int .i64 A1x, .int .i64 (A1y + 1)] wE = W := ⟨_, rfl⟩
    have MF := (M6.sub (bs' := (w.heap.size + 1, [.int .i64 0, .int .i64 0]) :: [(w.heap.size + 1 + 1, [.int .i64 A1x, .int .i64 (A1y + 1)]), (w.heap.size, [.int .i64 (p : Int), .int .i64 D, .int .i64 L, .int .i64 x, .int .i64 y])]) (by simp only [List.mem_cons, List.not_mem_nil, or_false]; rintro q (q1 | q1 | q1) <;> simp [q1])).put [.int .i64 A1x, .int .i64 (A1y + 1)] rfl (by simp only [List.mem_cons, List.not_mem_nil, or_false]; rintro q (rfl | rfl) <;> (simp only; omega))
    rw [hW] at MF
    have BW := (MF.blk _ (List.mem_cons_self ..)).1
    have HG : Hid (GivesPairE w C a b off n cap f (.returned (.agg #[.int .i64 A1x, .int .i64 (A1y + 1)])) W) := ⟨A1x, (A1y + 1), rfl, MF.sub (fun q hq => by cases hq)⟩
    simp only [putL, Nat.zero_add] at hW
    simp only [hW]
    have q0 := (BW 0 _ rfl).1
    have q1 := (BW 1 _ rfl).1
    refine bodyPost_ret (v := .agg #[.int .i64 A1x, .int .i64 (A1y + 1)]) (by simp [results, Tryd.results71, go_sem, q0, q1]) rfl HG.out
  by_cases c1 : d = 1
  · subst c1
    have KB := (MT.out.blk (w.heap.size, [.int .i64 (p : Int), .int .i64 D, .int .i64 L, .int .i64 x, .int .i64 y]) (by simp)).1
    have KR := (MT.out.blk (w.heap.size + 1, [.int .i64 0, .int .i64 0]) (by simp)).1
    have KS := (MT.out.blk (w.heap.size + 1 + 1, [.int .i64 A1x, .int .i64 A1y]) (by simp)).1
    have k0 := (KB 0 _ rfl).1
    have k1 := (KB 1 _ rfl).1
    have k2 := (KB 2 _ rfl).1
    have k3 := (KB 3 _ rfl).1
    have k4 := (KB 4 _ rfl).1
    have z0 := (KR 0 _ rfl).1
    have z1 := (KR 1 _ rfl).1
    have y0 := (KR 0 _ rfl).2
    have y1 := (KR 1 _ rfl).2
    have s0 := (KS 0 _ rfl).1
    have s1 := (KS 1 _ rfl).1
    have u0 := (KS 0 _ rfl).2
    have u1 := (KS 1 _ rfl).2
    clear KB KR KS
    go_wp2
    clear k0 k1 k2 k3 k4 z0 y0 s0 u0 z1 y1 s1 u1
    have M6 := MT.out.put [.int .i64 0, .int .i64 ((p : Int) - 1)] rfl (by simp only [List.mem_cons, List.not_mem_nil, or_false]; rintro q (rfl | rfl) <;> (simp only; omega))
    simp only [putL, Nat.zero_add] at M6
    generalize (wt.setCell ⟨w.heap.size + 1 + 1, 0, none⟩ (.int .i64 0)).setCell ⟨w.heap.size + 1 + 1, 1, none⟩ (.int .i64 ((p : Int) - 1)) = wE at *
    obtain ⟨W, hW⟩ : ∃ W, putL (w.heap.size + 1) 0 [.int .i64 0, .int .i64 ((p : Int) - 1)] wE = W := ⟨_, rfl⟩
    have MF := (M6.sub (bs' := (w.heap.size + 1, [.int .i64 0, .int .i64 0]) :: [(w.heap.size + 1 + 1, [.int .i64 0, .int .i64 ((p : Int) - 1)]), (w.heap.size, [.int .i64 (p : Int), .int .i64 D, .int .i64 L, .int .i64 x, .int .i64 y])]) (by simp only [List.mem_cons, List.not_mem_nil, or_false]; rintro q (q1 | q1 | q1) <;> simp [q1])).put [.int .i64 0, .int .i64 ((p : Int) - 1)] rfl (by simp only [List.mem_cons, List.not_mem_nil, or_false]; rintro q (rfl | rfl) <;> (simp only; omega))
    rw [hW] at MF
    have BW := (MF.blk _ (List.mem_cons_self ..)).1
    have HG : Hid (GivesPairE w C a b off n cap f (.returned (.agg #[.int .i64 0, .int .i64 ((p : Int) - 1)])) W) := ⟨0, ((p : Int) - 1), rfl, MF.sub (fun q hq => by cases hq)⟩
    simp only [putL, Nat.zero_add] at hW
    simp only [hW]
    have q0 := (BW 0 _ rfl).1
    have q1 := (BW 1 _ rfl).1
    refine bodyPost_ret (v := .agg #[.int .i64 0, .int .i64 ((p : Int) - 1)]) (by simp [results, Tryd.results71, go_sem, q0, q1]) rfl HG.out
  by_cases c2 : d = 2
  · subst c2
    have E4 := Ext.alloc wt (.cells #[.int .i64 (-1), .int .i64 (p : Int)] 3)
    have M4 := hide (MT.out.ext E4)
    obtain ⟨g, hg⟩ : ∃ g : Nat → Int, g = fun i => if i = 0 then -1 else (p : Int) := ⟨_, rfl⟩
    have Sg := seg_lit wt #[.int .i64 (-1), .int .i64 (p : Int)] 2 g (fun i hi => by
      rw [hg]
      have : i = 0 ∨ i = 1 := by omega
      rcases this with rfl | rfl <;> rfl)
    clear hg
    have hne : wt.heap.size ≠ C := by have := MT.out.cur.lt; omega
    have KB := (MT.out.blk (w.heap.size, [.int .i64 (p : Int), .int .i64 D, .int .i64 L, .int .i64 x, .int .i64 y]) (by simp)).1
    have KR := (MT.out.blk (w.heap.size + 1, [.int .i64 0, .int .i64 0]) (by simp)).1
    have KS := (MT.out.blk (w.heap.size + 1 + 1, [.int .i64 A1x, .int .i64 A1y]) (by simp)).1
    have k0 := (KB 0 _ rfl).1
    have k1 := (KB 1 _ rfl).1
    have k2 := (KB 2 _ rfl).1
    have k3 := (KB 3 _ rfl).1
    have k4 := (KB 4 _ rfl).1
    have z0 := (KR 0 _ rfl).1
    have z1 := (KR 1 _ rfl).1
    have y0 := (KR 0 _ rfl).2
    have y1 := (KR 1 _ rfl).2
    have s0 := (KS 0 _ rfl).1
    have s1 := (KS 1 _ rfl).1
    have u0 := (KS 0 _ rfl).2
    have u1 := (KS 1 _ rfl).2
    clear KB KR KS
    go_wp2_with fail
    clear k0 k1 k2 k3 k4 z0 y0 s0 u0 z1 y1 s1 u1
    refine (l1PickInt_of C a b off n cap f _ wt.heap.size 0 2 _ _ _ M4.out.cur M4.out.code hn Sg (by omega) (by omega) hne).mono ?_
    rintro e w4 ⟨i, hi, rfl, hC4, T4⟩
    have M5 := hide (M4.out.touch T4 hC4)
    clear MT M4 T4 hC4 Sg E4 hne
    generalize g i = v at *
    have KB := (M5.out.blk (w.heap.size, [.int .i64 (p : Int), .int .i64 D, .int .i64 L, .int .i64 x, .int .i64 y]) (by simp)).1
    have KR := (M5.out.blk (w.heap.size + 1, [.int .i64 0, .int .i64 0]) (by simp)).1
    have KS := (M5.out.blk (w.heap.size + 1 + 1, [.int .i64 A1x, .int .i64 A1y]) (by simp)).1
    have k0 := (KB 0 _ rfl).1
    have k1 := (KB 1 _ rfl).1
    have k2 := (KB 2 _ rfl).1
    have k3 := (KB 3 _ rfl).1
    have k4 := (KB 4 _ rfl).1
    have z0 := (KR 0 _ rfl).1
    have z1 := (KR 1 _ rfl).1
    have y0 := (KR 0 _ rfl).2
    have y1 := (KR 1 _ rfl).2
    have s0 := (KS 0 _ rfl).1
    have s1 := (KS 1 _ rfl).1
    have u0 := (KS 0 _ rfl).2
    have u1 := (KS 1 _ rfl).2
    clear KB KR KS
    go_wp2
    clear k0 k1 k2 k3 k4 z0 y0 s0 u0 z1 y1 s1 u1
    have M6 := M5.out.set 0 (by simp) (.int .i64 v) (by simp only [List.mem_cons, List.not_mem_nil, or_false]; rintro q (rfl | rfl) <;> (simp only; omega))
    generalize w4.setCell ⟨w.heap.size + 1 + 1, 0, none⟩ (.int .i64 v) = wE at *
    obtain ⟨W, hW⟩ : ∃ W, putL (w.heap.size + 1) 0 [.int .i64 v, .int .i64 A1y] wE = W := ⟨_, rfl⟩
    have MF := (M6.sub (bs' := (w.heap.size + 1, [.int .i64 0, .int .i64 0]) :: [(w.heap.size + 1 + 1, [.int .i64 v, .int .i64 A1y]), (w.heap.size, [.int .i64 (p : Int), .int .i64 D, .int .i64 L, .int .i64 x, .int .i64 y])]) (by simp only [List.mem_cons, List.not_mem_nil, or_false]; rintro q (q1 | q1 | q1) <;> simp [q1])).put [.int .i64 v, .int .i64 A1y] rfl (by simp only [List.mem_cons, List.not_mem_nil, or_false]; rintro q (rfl | rfl) <;> (simp only; omega))
    rw [hW] at MF
    have BW := (MF.blk _ (List.mem_cons_self ..)).1
    have HG : Hid (GivesPairE w C a b off n cap f (.returned (.agg #[.int .i64 v, .int .i64 A1y])) W) := ⟨v, A1y, rfl, MF.sub (fun q hq => by cases hq)⟩
    simp only [putL, Nat.zero_add] at hW
    simp only [hW]
    have q0 := (BW 0 _ rfl).1
    have q1 := (BW 1 _ rfl).1
    refine bodyPost_ret (v := .agg #[.int .i64 v, .int .i64 A1y]) (by simp [results, Tryd.results71, go_sem, q0, q1]) rfl HG.out
  have e0 : (d == 0) = false := by simpa using c0
  have e1 : (d == 1) = false := by simpa using c1
  have e2 : (d == 2) = false := by simpa using c2
  have KB := (MT.out.blk (w.heap.size, [.int .i64 (p : Int), .int .i64 D, .int .i64 L, .int .i64 x, .int .i64 y]) (by simp)).1
  have KR := (MT.out.blk (w.heap.size + 1, [.int .i64 0, .int .i64 0]) (by simp)).1
  have KS := (MT.out.blk (w.heap.size + 1 + 1, [.int .i64 A1x, .int .i64 A1y]) (by simp)).1
  have k0 := (KB 0 _ rfl).1
  have k1 := (KB 1 _ rfl).1
  have k2 := (KB 2 _ rfl).1
  have k3 := (KB 3 _ rfl).1
  have k4 := (KB 4 _ rfl).1
  have z0 := (KR 0 _ rfl).1
  have z1 := (KR 1 _ rfl).1
  have y0 := (KR 0 _ rfl).2
  have y1 := (KR 1 _ rfl).2
  have s0 := (KS 0 _ rfl).1
  have s1 := (KS 1 _ rfl).1
  have u0 := (KS 0 _ rfl).2
  have u1 := (KS 1 _ rfl).2
  clear KB KR KS
  go_wp2
  clear k0 k1 k2 k3 k4 z0 y0 s0 u0 z1 y1 s1 u1
  have M6 := MT.out
  generalize wt = wE at *
  obtain ⟨W, hW⟩ : ∃ W, putL (w.heap.size + 1) 0 [.int .i64 A1x, .int .i64 A1y] wE = W := ⟨_, rfl⟩
  have MF := (M6.sub (bs' := (w.heap.size + 1, [.int .i64 0, .int .i64 0]) :: [(w.heap.size + 1 + 1, [.int .i64 A1x, .int .i64 A1y]), (w.heap.size, [.int .i64 (p : Int), .int .i64 D, .int .i64 L, .int .i64 x, .int .i64 y])]) (by simp only [List.mem_cons, List.not_mem_nil, or_false]; rintro q (q1 | q1 | q1) <;> simp [q1])).put [.int .i64 A1x, .int .i64 A1y] rfl (by simp only [List.mem_cons, List.not_mem_nil, or_false]; rintro q (rfl | rfl) <;> (simp only; omega))
  rw [hW] at MF
  have BW := (MF.blk _ (List.mem_cons_self ..)).1
  have HG : Hid (GivesPairE w C a b off n cap f (.returned (.agg #[.int .i64 A1x, .int .i64 A1y])) W) := ⟨A1x, A1y, rfl, MF.sub (fun q hq => by cases hq)⟩
  simp only [putL, Nat.zero_add] at hW
  simp only [hW]
  have q0 := (BW 0 _ rfl).1
  have q1 := (BW 1 _ rfl).1
  refine bodyPost_ret (v := .agg #[.int .i64 A1x, .int .i64 A1y]) (by simp [results, Tryd.results71, go_sem, q0, q1]) rfl HG.out

/-- A drawn twisted curve of small numbers, and some bytes of the call's own. -/
def GivesEdRd (w : World) (e : Ending) (w' : World) : Prop :=
  ∃ (P D L x y : Int) (sl : Option Addr) (gs m cs : Nat) (F : Nat → Int), e = .returned (.tuple #[.agg #[.int .i64 P, .int .i64 D, .int .i64 L, .int .i64 x, .int .i64 y], .slice sl m cs]) ∧ EBd P D L x y ∧ BOwn w' sl gs 0 m F ∧ (∀ i, i < m → 0 ≤ F i ∧ F i ≤ 255) ∧ m ≤ cs ∧ m ≤ 3 ∧ w.heap.size ≤ gs ∧ Ext w w'

theorem xor_range {x : Int} (h0 : 0 ≤ x) (h1 : x ≤ 255) : 0 ≤ bits .xor .u8 x 128 ∧ bits .xor .u8 x 128 ≤ 255 := by
  have h : ∀ n : Nat, n < 256 → 0 ≤ bits .xor .u8 (n : Int) 128 ∧ bits .xor .u8 (n : Int) 128 ≤ 255 := by decide +kernel
  obtain ⟨n, rfl⟩ := Int.eq_ofNat_of_zero_le h0
  exact h n (by omega)

set_option maxHeartbeats 12800000 in
set_option maxRecDepth 100000 in
theorem drawEdRead_any (a : Option Addr) (b off n cap : Nat) (f : Nat → Int) (w : World) (hs : BSeg w a b off n f) (hB : ∀ i, i < n → 0 ≤ f i ∧ f i ≤ 255) (hn : n ≤ 1048576) :
    Calls Tryd.prog 23 #[.slice a n cap] w fun e w' => GivesEdRd w e w' := by
  have E0 : Ext w (w.alloc (.cells #[.int .i64 0, .int .i64 0, .int .i64 0, .int .i64 0, .int .i64 0] 37)) := Ext.alloc _ _
  go_enter Tryd.func23, Tryd.ntmps23
  go_wp2_with fail
  refine (l1New_any a b off n cap f _ (hs.of_all E0) hB hn).mono ?_
  rintro e w0 ⟨rfl, hC0, sz0, hw0⟩
  obtain ⟨B0, hE, hz⟩ := box1 w [.int .i64 0, .int .i64 0, .int .i64 0, .int .i64 0, .int .i64 0] 37 hw0
  simp only [World.size_alloc] at hC0 sz0
  have hbw : 0 < n → b < w.heap.size := fun h => hs.lt h
  obtain ⟨C, hCn⟩ : ∃ C, w.heap.size + 1 = C := ⟨_, rfl⟩
  have M0 : Hid (Md w w0 C a b off n cap f [(w.heap.size, [.int .i64 0, .int .i64 0, .int .i64 0, .int .i64 0, .int .i64 0])]) := by
    rw [hCn] at hC0 sz0
    refine ⟨fun q hq => ?_, hC0, ⟨hs.of_all hE, hB, fun h => by have := hbw h; omega⟩, .of_ext hE, hbw⟩
    simp only [List.mem_cons, List.not_mem_nil, or_false] at hq
    subst hq
    exact ⟨B0, by simp only; omega, by simp only; omega, by simp only; omega⟩
  simp only [World.size_alloc, hCn]
  clear E0 hw0 hE B0 hC0 sz0 hz
  go_wp2_with fail
  refine (l4DrawAny_any C a b off n cap f _ M0.out.self hn).mono ?_
  rintro e w1 ⟨P, D, L, x, y, rfl, hk, m1⟩
  have M1 := M0.out.step m1
  have M2 := hide (M1.add [.int .i64 P, .int .i64 D, .int .i64 L, .int .i64 x, .int .i64 y] 37)
  have hz1 : C < w1.heap.size := M1.cur.lt
  clear M0 m1 M1
  go_wp2
  obtain ⟨V, hV⟩ : ∃ V, w1.alloc (.cells #[.int .i64 P, .int .i64 D, .int .i64 L, .int .i64 x, .int .i64 y] 37) = V := ⟨_, rfl⟩
  replace M2 : Hid (Md w V C a b off n cap f [(w1.heap.size, [.int .i64 P, .int .i64 D, .int .i64 L, .int .i64 x, .int .i64 y]), (w.heap.size, [.int .i64 0, .int .i64 0, .int .i64 0, .int .i64 0, .int .i64 0])]) := hV ▸ M2.out
  simp only [hV]
  clear hV
  generalize w1.heap.size = S at *
  obtain ⟨X, hX⟩ : ∃ X : Nat → Prop, X = fun q => q = C := ⟨_, rfl⟩
  have xS : ¬ X S := by rw [hX]; simp; omega
  have xC : X C := by rw [hX]
  have xm : ∀ q, Cx C q → X q := fun q e => by rw [hX]; exact e
  clear hX
  have KS := (M2.out.blk (S, [.int .i64 P, .int .i64 D, .int .i64 L, .int .i64 x, .int .i64 y]) (by simp)).1
  have e0 := cell_reC (KS 0 _ rfl).1 xS
  have e1 := cell_reC (KS 1 _ rfl).1 xS
  have e2 := cell_reC (KS 2 _ rfl).1 xS
  have e3 := cell_reC (KS 3 _ rfl).1 xS
  have e4 := cell_reC (KS 4 _ rfl).1 xS
  clear KS
  refine anyK_begin X 10 rfl (by kernel_rfl) ?_
  refine anyK_take 0 3 7 rfl (by decide) (by kernel_rfl) (fun _ _ d _ _ h => by cases d <;> exact h) ?_
  repeat (refine headC_step (fun K hK => ?_); go_simp; first | (refine hK _ ?_; clear hK K) | (apply Exists.intro; refine ⟨fun _ => ?_, hK _ ?_⟩; (fail); clear hK K))
  refine headC_nil ?_
  clear e0 e1 e2 e3 e4
  refine anyK_one 3 (by kernel_rfl) ?_
  refine stepK_run rfl ?_
  intro wa ha K hK
  have MA := hide (M2.out.ext ha)
  go_simp
  refine (l4DrawPair_any C a b off n cap f P D L x y hk _ MA.out.self hn).mono ?_
  rintro e wb ⟨qx, qy, rfl, mb⟩
  have M3 := hide (MA.out.step mb)
  have H3 : Grw X V wb := (Grw.of_ext ha).trans (mb.grw.mono xm)
  go_simp
  refine hK _ _ H3 ?_
  clear hK K ha mb MA M2
  refine anyK_one 4 (by kernel_rfl) ?_
  refine stepK_run rfl ?_
  intro wc hc K hK
  have hP1 := hk.p1
  have hL1 := hk.l1
  go_simp
  refine (specEdBytes_any P D L x y ⟨qx, qy⟩ wc (by omega) (by omega)).mono ?_
  rintro e wd ⟨ok, hok, sl, gs, cs, rfl, hgs, hO, hxd, hmc, -⟩
  replace hxd : Ext wc wd := hxd
  have M4 := hide (M3.out.ext (hc.trans hxd))
  have H4 : Grw X V wd := H3.trans (.of_ext (hc.trans hxd))
  have hgC : C < gs := by have := (M3.out.ext hc).cur.lt; omega
  have hgS : S < gs := by have := ((M3.out.ext hc).blk (S, [.int .i64 P, .int .i64 D, .int .i64 L, .int .i64 x, .int .i64 y]) (by simp)).2.2.1; simp only at this; omega
  go_simp
  refine hK _ _ H4 ?_
  clear hK K hc hxd hgs M3 H3
  refine anyK_take 5 5 0 rfl (by decide) (by kernel_rfl) (fun _ _ d _ _ h => by cases d <;> exact h) ?_
  repeat (refine headC_step (fun K hK => ?_); go_simp; first | (refine hK _ ?_; clear hK K) | (apply Exists.intro; refine ⟨fun _ => ?_, hK _ ?_⟩; (fail); clear hK K))
  refine headC_nil ?_
  refine anyK_done (by kernel_rfl) ?_ 0
  intro we he
  have M := hide (M4.out.ext he)
  replace hO := hide (hO.of_all he)
  clear M4 H4 he xS xC xm X
  cases ok
  · simp only [Bool.false_eq_true, if_false] at hO hmc ⊢
    clear hok
    have KR := (M.out.blk (w.heap.size, [.int .i64 0, .int .i64 0, .int .i64 0, .int .i64 0, .int .i64 0]) (by simp)).1
    have KS := (M.out.blk (S, [.int .i64 P, .int .i64 D, .int .i64 L, .int .i64 x, .int .i64 y]) (by simp)).1
    have z0 := (KR 0 _ rfl).1
    have z1 := (KR 1 _ rfl).1
    have z2 := (KR 2 _ rfl).1
    have z3 := (KR 3 _ rfl).1
    have z4 := (KR 4 _ rfl).1
    have y0 := (KR 0 _ rfl).2
    have y1 := (KR 1 _ rfl).2
    have y2 := (KR 2 _ rfl).2
    have y3 := (KR 3 _ rfl).2
    have y4 := (KR 4 _ rfl).2
    have k0 := (KS 0 _ rfl).1
    have k1 := (KS 1 _ rfl).1
    have k2 := (KS 2 _ rfl).1
    have k3 := (KS 3 _ rfl).1
    have k4 := (KS 4 _ rfl).1
    clear KR KS
    go_wp2
    clear z0 y0 k0 z1 y1 k1 z2 y2 k2 z3 y3 k3 z4 y4 k4
    obtain ⟨W, hW⟩ : ∃ W, putL (w.heap.size) 0 [.int .i64 P, .int .i64 D, .int .i64 L, .int .i64 x, .int .i64 y] we = W := ⟨_, rfl⟩
    have MF := (M.out.sub (bs' := (w.heap.size, [.int .i64 0, .int .i64 0, .int .i64 0, .int .i64 0, .int .i64 0]) :: [(S, [.int .i64 P, .int .i64 D, .int .i64 L, .int .i64 x, .int .i64 y])]) (by simp only [List.mem_cons, List.not_mem_nil, or_false]; rintro q (q1 | q1) <;> simp [q1])).put [.int .i64 P, .int .i64 D, .int .i64 L, .int .i64 x, .int .i64 y] rfl (by simp only [List.mem_singleton]; rintro q rfl; simp only; omega)
    have OF := hO.out.touch (touch_putL (w.heap.size) [.int .i64 P, .int .i64 D, .int .i64 L, .int .i64 x, .int .i64 y] 0 we we (Touch.refl _ _)) (fun _ => by omega)
    rw [hW] at MF OF
    have BW := (MF.blk _ (List.mem_cons_self ..)).1
    have HG : Hid (GivesEdRd w (.returned (.tuple #[.agg #[.int .i64 P, .int .i64 D, .int .i64 L, .int .i64 x, .int .i64 y], .slice sl 0 cs])) W) := ⟨P, D, L, x, y, sl, gs, 0, cs, (prByte ⟨qx, qy⟩), rfl, hk, OF, fun i hi => by omega, by omega, by omega, by omega, MF.below (by omega)⟩
    simp only [putL, Nat.zero_add, Nat.reduceAdd] at hW
    simp only [hW]
    have q0 := (BW 0 _ rfl).1
    have q1 := (BW 1 _ rfl).1
    have q2 := (BW 2 _ rfl).1
    have q3 := (BW 3 _ rfl).1
    have q4 := (BW 4 _ rfl).1
    refine bodyPost_ret (v := .tuple #[.agg #[.int .i64 P, .int .i64 D, .int .i64 L, .int .i64 x, .int .i64 y], .slice sl 0 cs]) (by simp [results, Tryd.results23, go_sem, q0, q1, q2, q3, q4]) rfl HG.out
  simp only [if_true] at hO hmc ⊢
  have hF : ∀ i, i < 3 → 0 ≤ prByte ⟨qx, qy⟩ i ∧ prByte ⟨qx, qy⟩ i ≤ 255 := fun i _ => by
    have h := hok.1 rfl
    exact prByte_range h.2 (by have := h.1.pM; omega) i
  clear hok
  generalize prByte ⟨qx, qy⟩ = F at *
  obtain rfl := hO.out.at' (by omega)
  go_wp2_with fail
  refine (l1Below_any C a b off n cap f 6 _ M.out.cur M.out.code hn (by omega) (by omega)).mono ?_
  rintro e wt ⟨d, rfl, d0, d1, hCt, Tt⟩
  have MT := hide (M.out.touch Tt hCt)
  replace hO := hide (hO.out.touch Tt (fun _ => by omega))
  clear M Tt hCt
  by_cases c0 : d = 0
  · subst c0
    go_wp2_with fail
    refine (l1Below_any C a b off n cap f 3 _ MT.out.cur MT.out.code hn (by omega) (by omega)).mono ?_
    rintro e wu ⟨i, rfl, i0, i1, hCu, Tu⟩
    have MU := hide (MT.out.touch Tu hCu)
    replace hO := hide (hO.out.touch Tu (fun _ => by omega))
    clear MT Tu hCu
    go_wp2_with fail
    refine (l1Byte_any C a b off n cap f _ MU.out.cur MU.out.code hn).mono ?_
    rintro e wv ⟨v, rfl, v0, v1, hCv, Tv⟩
    have MV := hide (MU.out.touch Tv hCv)
    replace hO := hide (hO.out.touch Tv (fun _ => by omega))
    clear MU Tv hCv
    obtain ⟨i, rfl⟩ := Int.eq_ofNat_of_zero_le i0
    have hi3 : (i : Int) < 3 := by omega
    have hcl := hO.out.cell i (by omega)
    have hfr := hO.out.free i (by omega)
    rw [Nat.zero_add] at hcl hfr
    have hwr : IntKind.u8.wrap v = v := by simp [IntKind.wrap_u8]; omega
    have ng1 : ¬ S = gs := by omega
    have ng2 : ¬ gs = S := by omega
    have ng3 : ¬ w.heap.size = gs := by omega
    have ng4 : ¬ gs = w.heap.size := by omega
    have MW := hide (Md.sub (bs' := [(S, [.int .i64 P, .int .i64 D, .int .i64 L, .int .i64 x, .int .i64 y]), (w.heap.size, [.int .i64 0, .int .i64 0, .int .i64 0, .int .i64 0, .int .i64 0])]) ((show Md w wv C a b off n cap f ((gs, []) :: [(S, [.int .i64 P, .int .i64 D, .int .i64 L, .int .i64 x, .int .i64 y]), (w.heap.size, [.int .i64 0, .int .i64 0, .int .i64 0, .int .i64 0, .int .i64 0])]) from ⟨fun q hq => by
      rcases List.mem_cons.1 hq with rfl | hq
      · exact ⟨fun i v h => by simp at h, by simp only; omega, by simp only; have := hO.out.lt (by omega); exact this, by simp only; omega⟩
      · exact MV.out.blk q hq, MV.out.cur, MV.out.code, MV.out.grw, MV.out.old⟩).turn (vs' := []) ((Touch.refl gs wv).set i (.int .u8 v)) (fun i v h => by simp at h) (by simp only [List.mem_cons, List.not_mem_nil, or_false]; rintro q (rfl | rfl) <;> (simp only; omega))) (fun q hq => List.mem_cons_of_mem _ hq))
    have hO2 := hO.out.set (k := i) (by omega) v
    rw [Nat.zero_add] at hO2
    replace hO2 := hide hO2
    have KR := (MV.out.blk (w.heap.size, [.int .i64 0, .int .i64 0, .int .i64 0, .int .i64 0, .int .i64 0]) (by simp)).1
    have KS := (MV.out.blk (S, [.int .i64 P, .int .i64 D, .int .i64 L, .int .i64 x, .int .i64 y]) (by simp)).1
    have z0 := (KR 0 _ rfl).1
    have z1 := (KR 1 _ rfl).1
    have z2 := (KR 2 _ rfl).1
    have z3 := (KR 3 _ rfl).1
    have z4 := (KR 4 _ rfl).1
    have y0 := (KR 0 _ rfl).2
    have y1 := (KR 1 _ rfl).2
    have y2 := (KR 2 _ rfl).2
    have y3 := (KR 3 _ rfl).2
    have y4 := (KR 4 _ rfl).2
    have k0 := (KS 0 _ rfl).1
    have k1 := (KS 1 _ rfl).1
    have k2 := (KS 2 _ rfl).1
    have k3 := (KS 3 _ rfl).1
    have k4 := (KS 4 _ rfl).1
    clear KR KS
    go_wp2
    clear z0 y0 k0 z1 y1 k1 z2 y2 k2 z3 y3 k3 z4 y4 k4 hcl hfr
    generalize wv.setCell ⟨gs, i, none⟩ (.int .u8 v) = wE at *
    obtain ⟨W, hW⟩ : ∃ W, putL (w.heap.size) 0 [.int .i64 P, .int .i64 D, .int .i64 L, .int .i64 x, .int .i64 y] wE = W := ⟨_, rfl⟩
    have MF := (MW.out.sub (bs' := (w.heap.size, [.int .i64 0, .int .i64 0, .int .i64 0, .int .i64 0, .int .i64 0]) :: [(S, [.int .i64 P, .int .i64 D, .int .i64 L, .int .i64 x, .int .i64 y])]) (by simp only [List.mem_cons, List.not_mem_nil, or_false]; rintro q (q1 | q1) <;> simp [q1])).put [.int .i64 P, .int .i64 D, .int .i64 L, .int .i64 x, .int .i64 y] rfl (by simp only [List.mem_singleton]; rintro q rfl; simp only; omega)
    have OF := hO2.out.touch (touch_putL (w.heap.size) [.int .i64 P, .int .i64 D, .int .i64 L, .int .i64 x, .int .i64 y] 0 wE wE (Touch.refl _ _)) (fun _ => by omega)
    rw [hW] at MF OF
    have BW := (MF.blk _ (List.mem_cons_self ..)).1
    have HG : Hid (GivesEdRd w (.returned (.tuple #[.agg #[.int .i64 P, .int .i64 D, .int .i64 L, .int .i64 x, .int .i64 y], .slice (some ⟨gs, 0, none⟩) 3 cs])) W) := ⟨P, D, L, x, y, some ⟨gs, 0, none⟩, gs, 3, cs, (fun j => if j = i then v else F j), rfl, hk, OF, (fun q hq => by simp only; split; exact ⟨v0, v1⟩; exact hF q hq), by omega, by omega, by omega, MF.below (by omega)⟩
    simp only [putL, Nat.zero_add, Nat.reduceAdd] at hW
    simp only [hW]
    have q0 := (BW 0 _ rfl).1
    have q1 := (BW 1 _ rfl).1
    have q2 := (BW 2 _ rfl).1
    have q3 := (BW 3 _ rfl).1
    have q4 := (BW 4 _ rfl).1
    refine bodyPost_ret (v := .tuple #[.agg #[.int .i64 P, .int .i64 D, .int .i64 L, .int .i64 x, .int .i64 y], .slice (some ⟨gs, 0, none⟩) 3 cs]) (by simp [results, Tryd.results23, go_sem, q0, q1, q2, q3, q4]) rfl HG.out
  by_cases c1 : d = 1
  · subst c1
    go_wp2_with fail
    refine (l1Below_any C a b off n cap f 3 _ MT.out.cur MT.out.code hn (by omega) (by omega)).mono ?_
    rintro e wu ⟨i, rfl, i0, i1, hCu, Tu⟩
    have MU := hide (MT.out.touch Tu hCu)
    replace hO := hide (hO.out.touch Tu (fun _ => by omega))
    clear MT Tu hCu
    obtain ⟨i, rfl⟩ := Int.eq_ofNat_of_zero_le i0
    have hic : (i : Int) ≤ (cs : Int) := by omega
    have hO2 := hide (hO.out.cut (m := i) (by omega))
    have KR := (MU.out.blk (w.heap.size, [.int .i64 0, .int .i64 0, .int .i64 0, .int .i64 0, .int .i64 0]) (by simp)).1
    have KS := (MU.out.blk (S, [.int .i64 P, .int .i64 D, .int .i64 L, .int .i64 x, .int .i64 y]) (by simp)).1
    have z0 := (KR 0 _ rfl).1
    have z1 := (KR 1 _ rfl).1
    have z2 := (KR 2 _ rfl).1
    have z3 := (KR 3 _ rfl).1
    have z4 := (KR 4 _ rfl).1
    have y0 := (KR 0 _ rfl).2
    have y1 := (KR 1 _ rfl).2
    have y2 := (KR 2 _ rfl).2
    have y3 := (KR 3 _ rfl).2
    have y4 := (KR 4 _ rfl).2
    have k0 := (KS 0 _ rfl).1
    have k1 := (KS 1 _ rfl).1
    have k2 := (KS 2 _ rfl).1
    have k3 := (KS 3 _ rfl).1
    have k4 := (KS 4 _ rfl).1
    clear KR KS
    go_wp2
    clear z0 y0 k0 z1 y1 k1 z2 y2 k2 z3 y3 k3 z4 y4 k4
    obtain ⟨W, hW⟩ : ∃ W, putL (w.heap.size) 0 [.int .i64 P, .int .i64 D, .int .i64 L, .int .i64 x, .int .i64 y] wu = W := ⟨_, rfl⟩
    have MF := (MU.out.sub (bs' := (w.heap.size, [.int .i64 0, .int .i64 0, .int .i64 0, .int .i64 0, .int .i64 0]) :: [(S, [.int .i64 P, .int .i64 D, .int .i64 L, .int .i64 x, .int .i64 y])]) (by simp only [List.mem_cons, List.not_mem_nil, or_false]; rintro q (q1 | q1) <;> simp [q1])).put [.int .i64 P, .int .i64 D, .int .i64 L, .int .i64 x, .int .i64 y] rfl (by simp only [List.mem_singleton]; rintro q rfl; simp only; omega)
    have OF := hO2.out.touch (touch_putL (w.heap.size) [.int .i64 P, .int .i64 D, .int .i64 L, .int .i64 x, .int .i64 y] 0 wu wu (Touch.refl _ _)) (fun _ => by omega)
    rw [hW] at MF OF
    have BW := (MF.blk _ (List.mem_cons_self ..)).1
    have HG : Hid (GivesEdRd w (.returned (.tuple #[.agg #[.int .i64 P, .int .i64 D, .int .i64 L, .int .i64 x, .int .i64 y], .slice (some ⟨gs, 0, none⟩) i cs])) W) := ⟨P, D, L, x, y, some ⟨gs, 0, none⟩, gs, i, cs, F, rfl, hk, OF, (fun q hq => hF q (by omega)), by omega, by omega, by omega, MF.below (by omega)⟩
    simp only [putL, Nat.zero_add, Nat.reduceAdd] at hW
    simp only [hW]
    have q0 := (BW 0 _ rfl).1
    have q1 := (BW 1 _ rfl).1
    have q2 := (BW 2 _ rfl).1
    have q3 := (BW 3 _ rfl).1
    have q4 := (BW 4 _ rfl).1
    refine bodyPost_ret (v := .tuple #[.agg #[.int .i64 P, .int .i64 D, .int .i64 L, .int .i64 x, .int .i64 y], .slice (some ⟨gs, 0, none⟩) i cs]) (by simp [results, Tryd.results23, go_sem, q0, q1, q2, q3, q4]) rfl HG.out
  by_cases c2 : d = 2
  · subst c2
    have hcl := hO.out.cell 2 (by omega)
    have hfr := hO.out.free 2 (by omega)
    rw [Nat.zero_add] at hcl hfr
    have hr2 := hF 2 (by omega)
    obtain ⟨v0, v1⟩ := xor_range hr2.1 hr2.2
    obtain ⟨v, hv⟩ : ∃ v, bits .xor .u8 (F 2) 128 = v := ⟨_, rfl⟩
    rw [hv] at v0 v1
    have ng1 : ¬ S = gs := by omega
    have ng2 : ¬ gs = S := by omega
    have ng3 : ¬ w.heap.size = gs := by omega
    have ng4 : ¬ gs = w.heap.size := by omega
    have MW := hide (Md.sub (bs' := [(S, [.int .i64 P, .int .i64 D, .int .i64 L, .int .i64 x, .int .i64 y]), (w.heap.size, [.int .i64 0, .int .i64 0, .int .i64 0, .int .i64 0, .int .i64 0])]) ((show Md w wt C a b off n cap f ((gs, []) :: [(S, [.int .i64 P, .int .i64 D, .int .i64 L, .int .i64 x, .int .i64 y]), (w.heap.size, [.int .i64 0, .int .i64 0, .int .i64 0, .int .i64 0, .int .i64 0])]) from ⟨fun q hq => by
      rcases List.mem_cons.1 hq with rfl | hq
      · exact ⟨fun i v h => by simp at h, by simp only; omega, by simp only; have := hO.out.lt (by omega); exact this, by simp only; omega⟩
      · exact MT.out.blk q hq, MT.out.cur, MT.out.code, MT.out.grw, MT.out.old⟩).turn (vs' := []) ((Touch.refl gs wt).set 2 (.int .u8 v)) (fun i v h => by simp at h) (by simp only [List.mem_cons, List.not_mem_nil, or_false]; rintro q (rfl | rfl) <;> (simp only; omega))) (fun q hq => List.mem_cons_of_mem _ hq))
    have hO2 := hO.out.set (k := 2) (by omega) v
    rw [Nat.zero_add] at hO2
    replace hO2 := hide hO2
    have KR := (MT.out.blk (w.heap.size, [.int .i64 0, .int .i64 0, .int .i64 0, .int .i64 0, .int .i64 0]) (by simp)).1
    have KS := (MT.out.blk (S, [.int .i64 P, .int .i64 D, .int .i64 L, .int .i64 x, .int .i64 y]) (by simp)).1
    have z0 := (KR 0 _ rfl).1
    have z1 := (KR 1 _ rfl).1
    have z2 := (KR 2 _ rfl).1
    have z3 := (KR 3 _ rfl).1
    have z4 := (KR 4 _ rfl).1
    have y0 := (KR 0 _ rfl).2
    have y1 := (KR 1 _ rfl).2
    have y2 := (KR 2 _ rfl).2
    have y3 := (KR 3 _ rfl).2
    have y4 := (KR 4 _ rfl).2
    have k0 := (KS 0 _ rfl).1
    have k1 := (KS 1 _ rfl).1
    have k2 := (KS 2 _ rfl).1
    have k3 := (KS 3 _ rfl).1
    have k4 := (KS 4 _ rfl).1
    clear KR KS
    generalize F 2 = yy at hcl hv
    go_wp2
    clear z0 y0 k0 z1 y1 k1 z2 y2 k2 z3 y3 k3 z4 y4 k4 hcl hfr
    generalize wt.setCell ⟨gs, 2, none⟩ (.int .u8 v) = wE at *
    obtain ⟨W, hW⟩ : ∃ W, putL (w.heap.size) 0 [.int .i64 P, .int .i64 D, .int .i64 L, .int .i64 x, .int .i64 y] wE = W := ⟨_, rfl⟩
    have MF := (MW.out.sub (bs' := (w.heap.size, [.int .i64 0, .int .i64 0, .int .i64 0, .int .i64 0, .int .i64 0]) :: [(S, [.int .i64 P, .int .i64 D, .int .i64 L, .int .i64 x, .int .i64 y])]) (by simp only [List.mem_cons, List.not_mem_nil, or_false]; rintro q (q1 | q1) <;> simp [q1])).put [.int .i64 P, .int .i64 D, .int .i64 L, .int .i64 x, .int .i64 y] rfl (by simp only [List.mem_singleton]; rintro q rfl; simp only; omega)
    have OF := hO2.out.touch (touch_putL (w.heap.size) [.int .i64 P, .int .i64 D, .int .i64 L, .int .i64 x, .int .i64 y] 0 wE wE (Touch.refl _ _)) (fun _ => by omega)
    rw [hW] at MF OF
    have BW := (MF.blk _ (List.mem_cons_self ..)).1
    have HG : Hid (GivesEdRd w (.returned (.tuple #[.agg #[.int .i64 P, .int .i64 D, .int .i64 L, .int .i64 x, .int .i64 y], .slice (some ⟨gs, 0, none⟩) 3 cs])) W) := ⟨P, D, L, x, y, some ⟨gs, 0, none⟩, gs, 3, cs, (fun j => if j = 2 then v else F j), rfl, hk, OF, (fun q hq => by simp only; split; exact ⟨v0, v1⟩; exact hF q hq), by omega, by omega, by omega, MF.below (by omega)⟩
    simp only [putL, Nat.zero_add, Nat.reduceAdd] at hW
    simp only [hW]
    have q0 := (BW 0 _ rfl).1
    have q1 := (BW 1 _ rfl).1
    have q2 := (BW 2 _ rfl).1
    have q3 := (BW 3 _ rfl).1
    have q4 := (BW 4 _ rfl).1
    refine bodyPost_ret (v := .tuple #[.agg #[.int .i64 P, .int .i64 D, .int .i64 L, .int .i64 x, .int .i64 y], .slice (some ⟨gs, 0, none⟩) 3 cs]) (by simp [results, Tryd.results23, go_sem, q0, q1, q2, q3, q4]) rfl HG.out
  by_cases c3 : d = 3
  · subst c3
    go_wp2_with fail
    refine (l1Byte_any C a b off n cap f _ MT.out.cur MT.out.code hn).mono ?_
    rintro e wv ⟨v, rfl, v0, v1, hCv, Tv⟩
    have MV := hide (MT.out.touch Tv hCv)
    replace hO := hide (hO.out.touch Tv (fun _ => by omega))
    clear MT Tv hCv
    have hcl := hO.out.cell 0 (by omega)
    have hfr := hO.out.free 0 (by omega)
    rw [Nat.zero_add] at hcl hfr
    have hwr : IntKind.u8.wrap v = v := by simp [IntKind.wrap_u8]; omega
    have ng1 : ¬ S = gs := by omega
    have ng2 : ¬ gs = S := by omega
    have ng3 : ¬ w.heap.size = gs := by omega
    have ng4 : ¬ gs = w.heap.size := by omega
    have MW := hide (Md.sub (bs' := [(S, [.int .i64 P, .int .i64 D, .int .i64 L, .int .i64 x, .int .i64 y]), (w.heap.size, [.int .i64 0, .int .i64 0, .int .i64 0, .int .i64 0, .int .i64 0])]) ((show Md w wv C a b off n cap f ((gs, []) :: [(S, [.int .i64 P, .int .i64 D, .int .i64 L, .int .i64 x, .int .i64 y]), (w.heap.size, [.int .i64 0, .int .i64 0, .int .i64 0, .int .i64 0, .int .i64 0])]) from ⟨fun q hq => by
      rcases List.mem_cons.1 hq with rfl | hq
      · exact ⟨fun i v h => by simp at h, by simp only; omega, by simp only; have := hO.out.lt (by omega); exact this, by simp only; omega⟩
      · exact MV.out.blk q hq, MV.out.cur, MV.out.code, MV.out.grw, MV.out.old⟩).turn (vs' := []) ((Touch.refl gs wv).set 0 (.int .u8 v)) (fun i v h => by simp at h) (by simp only [List.mem_cons, List.not_mem_nil, or_false]; rintro q (rfl | rfl) <;> (simp only; omega))) (fun q hq => List.mem_cons_of_mem _ hq))
    have hO2 := hO.out.set (k := 0) (by omega) v
    rw [Nat.zero_add] at hO2
    replace hO2 := hide hO2
    have KR := (MV.out.blk (w.heap.size, [.int .i64 0, .int .i64 0, .int .i64 0, .int .i64 0, .int .i64 0]) (by simp)).1
    have KS := (MV.out.blk (S, [.int .i64 P, .int .i64 D, .int .i64 L, .int .i64 x, .int .i64 y]) (by simp)).1
    have z0 := (KR 0 _ rfl).1
    have z1 := (KR 1 _ rfl).1
    have z2 := (KR 2 _ rfl).1
    have z3 := (KR 3 _ rfl).1
    have z4 := (KR 4 _ rfl).1
    have y0 := (KR 0 _ rfl).2
    have y1 := (KR 1 _ rfl).2
    have y2 := (KR 2 _ rfl).2
    have y3 := (KR 3 _ rfl).2
    have y4 := (KR 4 _ rfl).2
    have k0 := (KS 0 _ rfl).1
    have k1 := (KS 1 _ rfl).1
    have k2 := (KS 2 _ rfl).1
    have k3 := (KS 3 _ rfl).1
    have k4 := (KS 4 _ rfl).1
    clear KR KS
    go_wp2
    clear z0 y0 k0 z1 y1 k1 z2 y2 k2 z3 y3 k3 z4 y4 k4 hcl hfr
    generalize wv.setCell ⟨gs, 0, none⟩ (.int .u8 v) = wE at *
    obtain ⟨W, hW⟩ : ∃ W, putL (w.heap.size) 0 [.int .i64 P, .int .i64 D, .int .i64 L, .int .i64 x, .int .i64 y] wE = W := ⟨_, rfl⟩
    have MF := (MW.out.sub (bs' := (w.heap.size, [.int .i64 0, .int .i64 0, .int .i64 0, .int .i64 0, .int .i64 0]) :: [(S, [.int .i64 P, .int .i64 D, .int .i64 L, .int .i64 x, .int .i64 y])]) (by simp only [List.mem_cons, List.not_mem_nil, or_false]; rintro q (q1 | q1) <;> simp [q1])).put [.int .i64 P, .int .i64 D, .int .i64 L, .int .i64 x, .int .i64 y] rfl (by simp only [List.mem_singleton]; rintro q rfl; simp only; omega)
    have OF := hO2.out.touch (touch_putL (w.heap.size) [.int .i64 P, .int .i64 D, .int .i64 L, .int .i64 x, .int .i64 y] 0 wE wE (Touch.refl _ _)) (fun _ => by omega)
    rw [hW] at MF OF
    have BW := (MF.blk _ (List.mem_cons_self ..)).1
    have HG : Hid (GivesEdRd w (.returned (.tuple #[.agg #[.int .i64 P, .int .i64 D, .int .i64 L, .int .i64 x, .int .i64 y], .slice (some ⟨gs, 0, none⟩) 3 cs])) W) := ⟨P, D, L, x, y, some ⟨gs, 0, none⟩, gs, 3, cs, (fun j => if j = 0 then v else F j), rfl, hk, OF, (fun q hq => by simp only; split; exact ⟨v0, v1⟩; exact hF q hq), by omega, by omega, by omega, MF.below (by omega)⟩
    simp only [putL, Nat.zero_add, Nat.reduceAdd] at hW
    simp only [hW]
    have q0 := (BW 0 _ rfl).1
    have q1 := (BW 1 _ rfl).1
    have q2 := (BW 2 _ rfl).1
    have q3 := (BW 3 _ rfl).1
    have q4 := (BW 4 _ rfl).1
    refine bodyPost_ret (v := .tuple #[.agg #[.int .i64 P, .int .i64 D, .int .i64 L, .int .i64 x, .int .i64 y], .slice (some ⟨gs, 0, none⟩) 3 cs]) (by simp [results, Tryd.results23, go_sem, q0, q1, q2, q3, q4]) rfl HG.out
  have e0 : (d == 0) = false := by simpa using c0
  have e1 : (d == 1) = false := by simpa using c1
  have e2 : (d == 2) = false := by simpa using c2
  have e3 : (d == 3) = false := by simpa using c3
  have KR := (MT.out.blk (w.heap.size, [.int .i64 0, .int .i64 0, .int .i64 0, .int .i64 0, .int .i64 0]) (by simp)).1
  have KS := (MT.out.blk (S, [.int .i64 P, .int .i64 D, .int .i64 L, .int .i64 x, .int .i64 y]) (by simp)).1
  have z0 := (KR 0 _ rfl).1
  have z1 := (KR 1 _ rfl).1
  have z2 := (KR 2 _ rfl).1
  have z3 := (KR 3 _ rfl).1
  have z4 := (KR 4 _ rfl).1
  have y0 := (KR 0 _ rfl).2
  have y1 := (KR 1 _ rfl).2
  have y2 := (KR 2 _ rfl).2
  have y3 := (KR 3 _ rfl).2
  have y4 := (KR 4 _ rfl).2
  have k0 := (KS 0 _ rfl).1
  have k1 := (KS 1 _ rfl).1
  have k2 := (KS 2 _ rfl).1
  have k3 := (KS 3 _ rfl).1
  have k4 := (KS 4 _ rfl).1
  clear KR KS
  go_wp2
  clear z0 y0 k0 z1 y1 k1 z2 y2 k2 z3 y3 k3 z4 y4 k4
  obtain ⟨W, hW⟩ : ∃ W, putL (w.heap.size) 0 [.int .i64 P, .int .i64 D, .int .i64 L, .int .i64 x, .int .i64 y] wt = W := ⟨_, rfl⟩
  have MF := (MT.out.sub (bs' := (w.heap.size, [.int .i64 0, .int .i64 0, .int .i64 0, .int .i64 0, .int .i64 0]) :: [(S, [.int .i64 P, .int .i64 D, .int .i64 L, .int .i64 x, .int .i64 y])]) (by simp only [List.mem_cons, List.not_mem_nil, or_false]; rintro q (q1 | q1) <;> simp [q1])).put [.int .i64 P, .int .i64 D, .int .i64 L, .int .i64 x, .int .i64 y] rfl (by simp only [List.mem_singleton]; rintro q rfl; simp only; omega)
  have OF := hO.out.touch (touch_putL (w.heap.size) [.int .i64 P, .int .i64 D, .int .i64 L, .int .i64 x, .int .i64 y] 0 wt wt (Touch.refl _ _)) (fun _ => by omega)
  rw [hW] at MF OF
  have BW := (MF.blk _ (List.mem_cons_self ..)).1
  have HG : Hid (GivesEdRd w (.returned (.tuple #[.agg #[.int .i64 P, .int .i64 D, .int .i64 L, .int .i64 x, .int .i64 y], .slice (some ⟨gs, 0, none⟩) 3 cs])) W) := ⟨P, D, L, x, y, some ⟨gs, 0, none⟩, gs, 3, cs, F, rfl, hk, OF, hF, by omega, by omega, by omega, MF.below (by omega)⟩
  simp only [putL, Nat.zero_add, Nat.reduceAdd] at hW
  simp only [hW]
  have q0 := (BW 0 _ rfl).1
  have q1 := (BW 1 _ rfl).1
  have q2 := (BW 2 _ rfl).1
  have q3 := (BW 3 _ rfl).1
  have q4 := (BW 4 _ rfl).1
  refine bodyPost_ret (v := .tuple #[.agg #[.int .i64 P, .int .i64 D, .int .i64 L, .int .i64 x, .int .i64 y], .slice (some ⟨gs, 0, none⟩) 3 cs]) (by simp [results, Tryd.results23, go_sem, q0, q1, q2, q3, q4]) rfl HG.out

set_option linter.unusedSimpArgs false
open Go.RowKit Go.Sort

theorem run_nePr_same (x y : Int) (w : World) : (binOp .neq 39 (.agg #[.int .i64 x, .int .i64 y]) (.agg #[.int .i64 x, .int .i64 y])).run Tryd.prog w = .ok (.bool false) w := by
  rw [run_nePr]; simp

theorem run_eqPr_same (x y : Int) (w : World) : (binOp .eql 39 (.agg #[.int .i64 x, .int .i64 y]) (.agg #[.int .i64 x, .int .i64 y])).run Tryd.prog w = .ok (.bool true) w := by
  rw [run_eqPr]; simp

/-- The first m numbers. -/
def nums (F : Nat → Int) (m : Nat) : List Int := (List.range m).map F

theorem nums_congr {F G : Nat → Int} {m : Nat} (h : ∀ i, i < m → F i = G i) : nums F m = nums G m :=
  List.map_congr_left (fun i hi => h i (List.mem_range.1 hi))

theorem conv_bytes {w : World} {g o m cap : Nat} {F : Nat → Int} (hs : BSeg w (some ⟨g, o, none⟩) g o m F) : (convert 22 9 (.slice (some ⟨g, o, none⟩) m cap)).run Tryd.prog w = .ok (.string (strOfNums (nums F m))) w :=
  run_convert_bytes_arg w 22 5 (by kernel_rfl) (by kernel_rfl) g o m cap (nums F m) (by simp [nums]) (fun i hi => by
    rw [hs.cell i hi]
    simp [nums, hi]) 9 (by kernel_rfl)

section
variable {P D L bx cy : Int}

theorem ebytes_yes (h : EvOk P D L bx cy) {a : Pr} (ha : OnE P.toNat D a) (w : World) : Calls Tryd.prog 21 #[.agg #[.int .i64 P, .int .i64 D, .int .i64 L, .int .i64 bx, .int .i64 cy], .agg #[.int .i64 a.x, .int .i64 a.y]] w fun e w' => GivesBs w 3 (prByte a) true e w' :=
  (implEdBytes_any P D L bx cy a w h.p63 h.l63).mono fun e w' q => by
    obtain ⟨ok, hk, hg⟩ := q
    have := hk.2 ⟨h, ha⟩
    subst this
    exact hg

theorem eread_yes (h : EvOk P D L bx cy) {c : Pr} {F : Nat → Int} (hR : ReadsE P.toNat D 3 F c) (hr : ∀ i, i < 3 → 0 ≤ F i ∧ F i ≤ 255) (ab : Option Addr) (g cap : Nat) (w : World) (hT : Tab w) (hs : BSeg w ab g 0 3 F) (hc : 3 ≤ cap) :
    Calls Tryd.prog 22 #[.agg #[.int .i64 P, .int .i64 D, .int .i64 L, .int .i64 bx, .int .i64 cy], .slice ab 3 cap] w fun r w' => r = .returned (.tuple #[.agg #[.int .i64 c.x, .int .i64 c.y], .bool true]) ∧ Ext w w' :=
  (implEdRead_any P D L bx cy ab g 0 3 cap F w h.p63 h.l63 hT hs hr hc).mono fun r w' q => by
    obtain ⟨⟨d, ok, rfl, hA⟩, hw⟩ := q
    obtain ⟨rfl, rfl⟩ := hA.unique (Or.inl ⟨rfl, h, hR⟩)
    exact ⟨rfl, hw⟩

end

set_option maxHeartbeats 16000000 in
set_option maxRecDepth 100000 in
theorem twist_law (a : Option Addr) (b off n cap : Nat) (f : Nat → Int) (w : World) (hT : Tab w) (hs : BSeg w a b off n f) (hB : ∀ i, i < n → 0 ≤ f i ∧ f i ≤ 255) (hn : n ≤ 1048576) :
    Calls Tryd.prog 4 #[.slice a n cap] w fun e w' => e = .returned (.bool true) ∧ Below w.heap.size w w' := by
  have hTh := hide hT
  clear hT
  go_enter Tryd.func4, Tryd.ntmps4
  go_wp2_with fail
  refine (big_any a n cap _ hn).mono ?_
  rintro e w' ⟨rfl, hw⟩
  obtain rfl := hw.symm
  go_wp2_with fail
  refine (drawEd_any a b off n cap f _ hs hB hn).mono ?_
  rintro e w1 ⟨j, ma, mb, hj, hma, hmb, rfl, hw1⟩
  have hc := hide (ev_ok hj)
  generalize eP j = P at *
  generalize eD j = D at *
  generalize eL j = L at *
  generalize eX j = bx at *
  generalize eY j = cy at *
  clear hj
  simp only [prV]
  obtain ⟨pa, ha⟩ : ∃ p, mulE P.toNat D ma ⟨bx, cy⟩ = p := ⟨_, rfl⟩
  obtain ⟨pb, hb⟩ : ∃ p, mulE P.toNat D mb ⟨bx, cy⟩ = p := ⟨_, rfl⟩
  rw [ha, hb]
  have oa : Hid (OnE P.toNat D pa) := by rw [← ha]; exact hc.out.mul_on hc.out.on (by omega)
  have ob : Hid (OnE P.toNat D pb) := by rw [← hb]; exact hc.out.mul_on hc.out.on (by omega)
  clear ha hb hma hmb
  have ec := hide hc.out.edc
  have og := hide hc.out.on
  obtain ⟨ps, hS⟩ : ∃ p, addE P.toNat D pa pb = p := ⟨_, rfl⟩
  obtain ⟨pu, hU⟩ : ∃ p, addE P.toNat D ps ⟨bx, cy⟩ = p := ⟨_, rfl⟩
  obtain ⟨pv, hV⟩ : ∃ p, addE P.toNat D pb ⟨bx, cy⟩ = p := ⟨_, rfl⟩
  have oS : Hid (OnE P.toNat D ps) := by rw [← hS]; exact addE_on ec.out oa.out ob.out
  have oV : Hid (OnE P.toNat D pv) := by rw [← hV]; exact addE_on ec.out ob.out og.out
  have c0 := hide (implEdOk_at P D L bx cy hc.out.p63 hc.out.l63 true ⟨fun _ => hc.out, fun _ => rfl⟩)
  have c0' := hide (implPairOk_at P D L bx cy pa hc.out.p63 hc.out.l63 true ⟨fun _ => ⟨hc.out, oa.out⟩, fun _ => rfl⟩)
  have c1 := hide (fun w => implEdAdd_yes hc.out oa.out ob.out w)
  have c2 := hide (fun w => implEdAdd_yes hc.out ob.out oa.out w)
  have c3 := hide (fun w => implEdAdd_yes hc.out oS.out og.out w)
  have c4 := hide (fun w => implEdAdd_yes hc.out ob.out og.out w)
  have c5 := hide (fun w => implEdAdd_yes hc.out oa.out oV.out w)
  rw [hS] at c1
  rw [addE_comm _ _ pb pa, hS] at c2
  rw [hU] at c3
  rw [hV] at c4
  rw [show addE P.toNat D pa pv = pu by rw [← hV, ← addE_assoc ec.out oa.out ob.out og.out, hS]; exact hU] at c5
  have HB : Hid (Ext w w1) := hw1
  clear hS hU hV hw1
  go_wp2_with fail
  replace HB := hide (HB.out.trans (Ext.alloc w1 (.cells #[.int .i64 P, .int .i64 D, .int .i64 L, .int .i64 bx, .int .i64 cy] 37)))
  have H_k : Hid (Blk (w1.alloc (.cells #[.int .i64 P, .int .i64 D, .int .i64 L, .int .i64 bx, .int .i64 cy] 37)) (w1.heap.size) [.int .i64 P, .int .i64 D, .int .i64 L, .int .i64 bx, .int .i64 cy]) := Blk.alloc w1 [.int .i64 P, .int .i64 D, .int .i64 L, .int .i64 bx, .int .i64 cy] 37
  have l_k : w1.heap.size < (w1.alloc (.cells #[.int .i64 P, .int .i64 D, .int .i64 L, .int .i64 bx, .int .i64 cy] 37)).heap.size := by simp
  replace H_k := hide (H_k.out.ext (Ext.alloc (w1.alloc (.cells #[.int .i64 P, .int .i64 D, .int .i64 L, .int .i64 bx, .int .i64 cy] 37)) (.cells #[.int .i64 pa.x, .int .i64 pa.y] 39)) l_k)
  replace l_k := Nat.lt_of_lt_of_le l_k (Below.size (Ext.alloc (w1.alloc (.cells #[.int .i64 P, .int .i64 D, .int .i64 L, .int .i64 bx, .int .i64 cy] 37)) (.cells #[.int .i64 pa.x, .int .i64 pa.y] 39)))
  replace HB := hide (HB.out.trans (Ext.alloc (w1.alloc (.cells #[.int .i64 P, .int .i64 D, .int .i64 L, .int .i64 bx, .int .i64 cy] 37)) (.cells #[.int .i64 pa.x, .int .i64 pa.y] 39)))
  have H_a : Hid (Blk ((w1.alloc (.cells #[.int .i64 P, .int .i64 D, .int .i64 L, .int .i64 bx, .int .i64 cy] 37)).alloc (.cells #[.int .i64 pa.x, .int .i64 pa.y] 39)) (w1.heap.size + 1) [.int .i64 pa.x, .int .i64 pa.y]) := by
    have q := Blk.alloc (w1.alloc (.cells #[.int .i64 P, .int .i64 D, .int .i64 L, .int .i64 bx, .int .i64 cy] 37)) [.int .i64 pa.x, .int .i64 pa.y] 39
    simp only [World.size_alloc] at q
    exact q
  have l_a : w1.heap.size + 1 < ((w1.alloc (.cells #[.int .i64 P, .int .i64 D, .int .i64 L, .int .i64 bx, .int .i64 cy] 37)).alloc (.cells #[.int .i64 pa.x, .int .i64 pa.y] 39)).heap.size := by simp
  replace H_k := hide (H_k.out.ext (Ext.alloc ((w1.alloc (.cells #[.int .i64 P, .int .i64 D, .int .i64 L, .int .i64 bx, .int .i64 cy] 37)).alloc (.cells #[.int .i64 pa.x, .int .i64 pa.y] 39)) (.cells #[.int .i64 pb.x, .int .i64 pb.y] 39)) l_k)
  replace l_k := Nat.lt_of_lt_of_le l_k (Below.size (Ext.alloc ((w1.alloc (.cells #[.int .i64 P, .int .i64 D, .int .i64 L, .int .i64 bx, .int .i64 cy] 37)).alloc (.cells #[.int .i64 pa.x, .int .i64 pa.y] 39)) (.cells #[.int .i64 pb.x, .int .i64 pb.y] 39)))
  replace H_a := hide (H_a.out.ext (Ext.alloc ((w1.alloc (.cells #[.int .i64 P, .int .i64 D, .int .i64 L, .int .i64 bx, .int .i64 cy] 37)).alloc (.cells #[.int .i64 pa.x, .int .i64 pa.y] 39)) (.cells #[.int .i64 pb.x, .int .i64 pb.y] 39)) l_a)
  replace l_a := Nat.lt_of_lt_of_le l_a (Below.size (Ext.alloc ((w1.alloc (.cells #[.int .i64 P, .int .i64 D, .int .i64 L, .int .i64 bx, .int .i64 cy] 37)).alloc (.cells #[.int .i64 pa.x, .int .i64 pa.y] 39)) (.cells #[.int .i64 pb.x, .int .i64 pb.y] 39)))
  replace HB := hide (HB.out.trans (Ext.alloc ((w1.alloc (.cells #[.int .i64 P, .int .i64 D, .int .i64 L, .int .i64 bx, .int .i64 cy] 37)).alloc (.cells #[.int .i64 pa.x, .int .i64 pa.y] 39)) (.cells #[.int .i64 pb.x, .int .i64 pb.y] 39)))
  have H_b : Hid (Blk (((w1.alloc (.cells #[.int .i64 P, .int .i64 D, .int .i64 L, .int .i64 bx, .int .i64 cy] 37)).alloc (.cells #[.int .i64 pa.x, .int .i64 pa.y] 39)).alloc (.cells #[.int .i64 pb.x, .int .i64 pb.y] 39)) (w1.heap.size + 1 + 1) [.int .i64 pb.x, .int .i64 pb.y]) := by
    have q := Blk.alloc ((w1.alloc (.cells #[.int .i64 P, .int .i64 D, .int .i64 L, .int .i64 bx, .int .i64 cy] 37)).alloc (.cells #[.int .i64 pa.x, .int .i64 pa.y] 39)) [.int .i64 pb.x, .int .i64 pb.y] 39
    simp only [World.size_alloc] at q
    exact q
  have l_b : w1.heap.size + 1 + 1 < (((w1.alloc (.cells #[.int .i64 P, .int .i64 D, .int .i64 L, .int .i64 bx, .int .i64 cy] 37)).alloc (.cells #[.int .i64 pa.x, .int .i64 pa.y] 39)).alloc (.cells #[.int .i64 pb.x, .int .i64 pb.y] 39)).heap.size := by simp
  generalize (((w1.alloc (.cells #[.int .i64 P, .int .i64 D, .int .i64 L, .int .i64 bx, .int .i64 cy] 37)).alloc (.cells #[.int .i64 pa.x, .int .i64 pa.y] 39)).alloc (.cells #[.int .i64 pb.x, .int .i64 pb.y] 39)) = W2 at *
  generalize w1.heap.size = S2 at *
  clear w1
  refine (c0.out _).mono ?_
  rintro r w3 ⟨rfl, hw3⟩
  replace H_k := hide (H_k.out.ext (hw3) l_k)
  replace l_k := Nat.lt_of_lt_of_le l_k (Below.size (hw3))
  replace H_a := hide (H_a.out.ext (hw3) l_a)
  replace l_a := Nat.lt_of_lt_of_le l_a (Below.size (hw3))
  replace H_b := hide (H_b.out.ext (hw3) l_b)
  replace l_b := Nat.lt_of_lt_of_le l_b (Below.size (hw3))
  replace HB := hide (HB.out.trans (hw3))
  clear hw3 W2
  have k_0 := (H_k.out 0 _ rfl).1
  have k_1 := (H_k.out 1 _ rfl).1
  have k_2 := (H_k.out 2 _ rfl).1
  have k_3 := (H_k.out 3 _ rfl).1
  have k_4 := (H_k.out 4 _ rfl).1
  have a_0 := (H_a.out 0 _ rfl).1
  have a_1 := (H_a.out 1 _ rfl).1
  go_wp2_with fail
  clear k_0 k_1 k_2 k_3 k_4 a_0 a_1
  refine (c0'.out _).mono ?_
  rintro r w4 ⟨rfl, hw4⟩
  replace H_k := hide (H_k.out.ext (hw4) l_k)
  replace l_k := Nat.lt_of_lt_of_le l_k (Below.size (hw4))
  replace H_a := hide (H_a.out.ext (hw4) l_a)
  replace l_a := Nat.lt_of_lt_of_le l_a (Below.size (hw4))
  replace H_b := hide (H_b.out.ext (hw4) l_b)
  replace l_b := Nat.lt_of_lt_of_le l_b (Below.size (hw4))
  replace HB := hide (HB.out.trans (hw4))
  clear hw4 w3
  have k_0 := (H_k.out 0 _ rfl).1
  have k_1 := (H_k.out 1 _ rfl).1
  have k_2 := (H_k.out 2 _ rfl).1
  have k_3 := (H_k.out 3 _ rfl).1
  have k_4 := (H_k.out 4 _ rfl).1
  have a_0 := (H_a.out 0 _ rfl).1
  have a_1 := (H_a.out 1 _ rfl).1
  have b_0 := (H_b.out 0 _ rfl).1
  have b_1 := (H_b.out 1 _ rfl).1
  go_wp2_with fail
  clear k_0 k_1 k_2 k_3 k_4 a_0 a_1 b_0 b_1
  replace H_k := hide (H_k.out.ext (Ext.alloc w4 (.cells #[.int .i64 bx, .int .i64 cy] 39)) l_k)
  replace l_k := Nat.lt_of_lt_of_le l_k (Below.size (Ext.alloc w4 (.cells #[.int .i64 bx, .int .i64 cy] 39)))
  replace H_a := hide (H_a.out.ext (Ext.alloc w4 (.cells #[.int .i64 bx, .int .i64 cy] 39)) l_a)
  replace l_a := Nat.lt_of_lt_of_le l_a (Below.size (Ext.alloc w4 (.cells #[.int .i64 bx, .int .i64 cy] 39)))
  replace H_b := hide (H_b.out.ext (Ext.alloc w4 (.cells #[.int .i64 bx, .int .i64 cy] 39)) l_b)
  replace l_b := Nat.lt_of_lt_of_le l_b (Below.size (Ext.alloc w4 (.cells #[.int .i64 bx, .int .i64 cy] 39)))
  replace HB := hide (HB.out.trans (Ext.alloc w4 (.cells #[.int .i64 bx, .int .i64 cy] 39)))
  have H_g : Hid (Blk (w4.alloc (.cells #[.int .i64 bx, .int .i64 cy] 39)) (w4.heap.size) [.int .i64 bx, .int .i64 cy]) := Blk.alloc w4 [.int .i64 bx, .int .i64 cy] 39
  have l_g : w4.heap.size < (w4.alloc (.cells #[.int .i64 bx, .int .i64 cy] 39)).heap.size := by simp
  generalize (w4.alloc (.cells #[.int .i64 bx, .int .i64 cy] 39)) = W5 at *
  generalize w4.heap.size = S5 at *
  clear w4
  refine (c1.out _).mono ?_
  rintro r w6 ⟨rfl, hw6⟩
  replace H_k := hide (H_k.out.ext (hw6) l_k)
  replace l_k := Nat.lt_of_lt_of_le l_k (Below.size (hw6))
  replace H_a := hide (H_a.out.ext (hw6) l_a)
  replace l_a := Nat.lt_of_lt_of_le l_a (Below.size (hw6))
  replace H_b := hide (H_b.out.ext (hw6) l_b)
  replace l_b := Nat.lt_of_lt_of_le l_b (Below.size (hw6))
  replace H_g := hide (H_g.out.ext (hw6) l_g)
  replace l_g := Nat.lt_of_lt_of_le l_g (Below.size (hw6))
  replace HB := hide (HB.out.trans (hw6))
  clear hw6 W5
  have k_0 := (H_k.out 0 _ rfl).1
  have k_1 := (H_k.out 1 _ rfl).1
  have k_2 := (H_k.out 2 _ rfl).1
  have k_3 := (H_k.out 3 _ rfl).1
  have k_4 := (H_k.out 4 _ rfl).1
  have a_0 := (H_a.out 0 _ rfl).1
  have a_1 := (H_a.out 1 _ rfl).1
  have b_0 := (H_b.out 0 _ rfl).1
  have b_1 := (H_b.out 1 _ rfl).1
  go_wp2_with fail
  clear k_0 k_1 k_2 k_3 k_4 a_0 a_1 b_0 b_1
  replace H_k := hide (H_k.out.ext (Ext.alloc w6 (.cells #[.int .i64 ps.x, .int .i64 ps.y] 39)) l_k)
  replace l_k := Nat.lt_of_lt_of_le l_k (Below.size (Ext.alloc w6 (.cells #[.int .i64 ps.x, .int .i64 ps.y] 39)))
  replace H_a := hide (H_a.out.ext (Ext.alloc w6 (.cells #[.int .i64 ps.x, .int .i64 ps.y] 39)) l_a)
  replace l_a := Nat.lt_of_lt_of_le l_a (Below.size (Ext.alloc w6 (.cells #[.int .i64 ps.x, .int .i64 ps.y] 39)))
  replace H_b := hide (H_b.out.ext (Ext.alloc w6 (.cells #[.int .i64 ps.x, .int .i64 ps.y] 39)) l_b)
  replace l_b := Nat.lt_of_lt_of_le l_b (Below.size (Ext.alloc w6 (.cells #[.int .i64 ps.x, .int .i64 ps.y] 39)))
  replace H_g := hide (H_g.out.ext (Ext.alloc w6 (.cells #[.int .i64 ps.x, .int .i64 ps.y] 39)) l_g)
  replace l_g := Nat.lt_of_lt_of_le l_g (Below.size (Ext.alloc w6 (.cells #[.int .i64 ps.x, .int .i64 ps.y] 39)))
  replace HB := hide (HB.out.trans (Ext.alloc w6 (.cells #[.int .i64 ps.x, .int .i64 ps.y] 39)))
  have H_s : Hid (Blk (w6.alloc (.cells #[.int .i64 ps.x, .int .i64 ps.y] 39)) (w6.heap.size) [.int .i64 ps.x, .int .i64 ps.y]) := Blk.alloc w6 [.int .i64 ps.x, .int .i64 ps.y] 39
  have l_s : w6.heap.size < (w6.alloc (.cells #[.int .i64 ps.x, .int .i64 ps.y] 39)).heap.size := by simp
  generalize (w6.alloc (.cells #[.int .i64 ps.x, .int .i64 ps.y] 39)) = W7 at *
  generalize w6.heap.size = S7 at *
  clear w6
  refine (c2.out _).mono ?_
  rintro r w8 ⟨rfl, hw8⟩
  replace H_k := hide (H_k.out.ext (hw8) l_k)
  replace l_k := Nat.lt_of_lt_of_le l_k (Below.size (hw8))
  replace H_a := hide (H_a.out.ext (hw8) l_a)
  replace l_a := Nat.lt_of_lt_of_le l_a (Below.size (hw8))
  replace H_b := hide (H_b.out.ext (hw8) l_b)
  replace l_b := Nat.lt_of_lt_of_le l_b (Below.size (hw8))
  replace H_g := hide (H_g.out.ext (hw8) l_g)
  replace l_g := Nat.lt_of_lt_of_le l_g (Below.size (hw8))
  replace H_s := hide (H_s.out.ext (hw8) l_s)
  replace l_s := Nat.lt_of_lt_of_le l_s (Below.size (hw8))
  replace HB := hide (HB.out.trans (hw8))
  clear hw8 W7
  have k_0 := (H_k.out 0 _ rfl).1
  have k_1 := (H_k.out 1 _ rfl).1
  have k_2 := (H_k.out 2 _ rfl).1
  have k_3 := (H_k.out 3 _ rfl).1
  have k_4 := (H_k.out 4 _ rfl).1
  have s_0 := (H_s.out 0 _ rfl).1
  have s_1 := (H_s.out 1 _ rfl).1
  have g_0 := (H_g.out 0 _ rfl).1
  have g_1 := (H_g.out 1 _ rfl).1
  go_wp2_with fail
  clear k_0 k_1 k_2 k_3 k_4 s_0 s_1 g_0 g_1
  replace H_k := hide (H_k.out.ext (Ext.alloc w8 (.cells #[.int .i64 ps.x, .int .i64 ps.y] 39)) l_k)
  replace l_k := Nat.lt_of_lt_of_le l_k (Below.size (Ext.alloc w8 (.cells #[.int .i64 ps.x, .int .i64 ps.y] 39)))
  replace H_a := hide (H_a.out.ext (Ext.alloc w8 (.cells #[.int .i64 ps.x, .int .i64 ps.y] 39)) l_a)
  replace l_a := Nat.lt_of_lt_of_le l_a (Below.size (Ext.alloc w8 (.cells #[.int .i64 ps.x, .int .i64 ps.y] 39)))
  replace H_b := hide (H_b.out.ext (Ext.alloc w8 (.cells #[.int .i64 ps.x, .int .i64 ps.y] 39)) l_b)
  replace l_b := Nat.lt_of_lt_of_le l_b (Below.size (Ext.alloc w8 (.cells #[.int .i64 ps.x, .int .i64 ps.y] 39)))
  replace H_g := hide (H_g.out.ext (Ext.alloc w8 (.cells #[.int .i64 ps.x, .int .i64 ps.y] 39)) l_g)
  replace l_g := Nat.lt_of_lt_of_le l_g (Below.size (Ext.alloc w8 (.cells #[.int .i64 ps.x, .int .i64 ps.y] 39)))
  replace H_s := hide (H_s.out.ext (Ext.alloc w8 (.cells #[.int .i64 ps.x, .int .i64 ps.y] 39)) l_s)
  replace l_s := Nat.lt_of_lt_of_le l_s (Below.size (Ext.alloc w8 (.cells #[.int .i64 ps.x, .int .i64 ps.y] 39)))
  replace HB := hide (HB.out.trans (Ext.alloc w8 (.cells #[.int .i64 ps.x, .int .i64 ps.y] 39)))
  have H_t : Hid (Blk (w8.alloc (.cells #[.int .i64 ps.x, .int .i64 ps.y] 39)) (w8.heap.size) [.int .i64 ps.x, .int .i64 ps.y]) := Blk.alloc w8 [.int .i64 ps.x, .int .i64 ps.y] 39
  have l_t : w8.heap.size < (w8.alloc (.cells #[.int .i64 ps.x, .int .i64 ps.y] 39)).heap.size := by simp
  generalize (w8.alloc (.cells #[.int .i64 ps.x, .int .i64 ps.y] 39)) = W9 at *
  generalize w8.heap.size = S9 at *
  clear w8
  refine (c3.out _).mono ?_
  rintro r w10 ⟨rfl, hw10⟩
  replace H_k := hide (H_k.out.ext (hw10) l_k)
  replace l_k := Nat.lt_of_lt_of_le l_k (Below.size (hw10))
  replace H_a := hide (H_a.out.ext (hw10) l_a)
  replace l_a := Nat.lt_of_lt_of_le l_a (Below.size (hw10))
  replace H_b := hide (H_b.out.ext (hw10) l_b)
  replace l_b := Nat.lt_of_lt_of_le l_b (Below.size (hw10))
  replace H_g := hide (H_g.out.ext (hw10) l_g)
  replace l_g := Nat.lt_of_lt_of_le l_g (Below.size (hw10))
  replace H_s := hide (H_s.out.ext (hw10) l_s)
  replace l_s := Nat.lt_of_lt_of_le l_s (Below.size (hw10))
  replace H_t := hide (H_t.out.ext (hw10) l_t)
  replace l_t := Nat.lt_of_lt_of_le l_t (Below.size (hw10))
  replace HB := hide (HB.out.trans (hw10))
  clear hw10 W9
  have k_0 := (H_k.out 0 _ rfl).1
  have k_1 := (H_k.out 1 _ rfl).1
  have k_2 := (H_k.out 2 _ rfl).1
  have k_3 := (H_k.out 3 _ rfl).1
  have k_4 := (H_k.out 4 _ rfl).1
  have b_0 := (H_b.out 0 _ rfl).1
  have b_1 := (H_b.out 1 _ rfl).1
  have g_0 := (H_g.out 0 _ rfl).1
  have g_1 := (H_g.out 1 _ rfl).1
  go_wp2_with fail
  clear k_0 k_1 k_2 k_3 k_4 b_0 b_1 g_0 g_1
  replace H_k := hide (H_k.out.ext (Ext.alloc w10 (.cells #[.int .i64 pu.x, .int .i64 pu.y] 39)) l_k)
  replace l_k := Nat.lt_of_lt_of_le l_k (Below.size (Ext.alloc w10 (.cells #[.int .i64 pu.x, .int .i64 pu.y] 39)))
  replace H_a := hide (H_a.out.ext (Ext.alloc w10 (.cells #[.int .i64 pu.x, .int .i64 pu.y] 39)) l_a)
  replace l_a := Nat.lt_of_lt_of_le l_a (Below.size (Ext.alloc w10 (.cells #[.int .i64 pu.x, .int .i64 pu.y] 39)))
  replace H_b := hide (H_b.out.ext (Ext.alloc w10 (.cells #[.int .i64 pu.x, .int .i64 pu.y] 39)) l_b)
  replace l_b := Nat.lt_of_lt_of_le l_b (Below.size (Ext.alloc w10 (.cells #[.int .i64 pu.x, .int .i64 pu.y] 39)))
  replace H_g := hide (H_g.out.ext (Ext.alloc w10 (.cells #[.int .i64 pu.x, .int .i64 pu.y] 39)) l_g)
  replace l_g := Nat.lt_of_lt_of_le l_g (Below.size (Ext.alloc w10 (.cells #[.int .i64 pu.x, .int .i64 pu.y] 39)))
  replace H_s := hide (H_s.out.ext (Ext.alloc w10 (.cells #[.int .i64 pu.x, .int .i64 pu.y] 39)) l_s)
  replace l_s := Nat.lt_of_lt_of_le l_s (Below.size (Ext.alloc w10 (.cells #[.int .i64 pu.x, .int .i64 pu.y] 39)))
  replace H_t := hide (H_t.out.ext (Ext.alloc w10 (.cells #[.int .i64 pu.x, .int .i64 pu.y] 39)) l_t)
  replace l_t := Nat.lt_of_lt_of_le l_t (Below.size (Ext.alloc w10 (.cells #[.int .i64 pu.x, .int .i64 pu.y] 39)))
  replace HB := hide (HB.out.trans (Ext.alloc w10 (.cells #[.int .i64 pu.x, .int .i64 pu.y] 39)))
  have H_u : Hid (Blk (w10.alloc (.cells #[.int .i64 pu.x, .int .i64 pu.y] 39)) (w10.heap.size) [.int .i64 pu.x, .int .i64 pu.y]) := Blk.alloc w10 [.int .i64 pu.x, .int .i64 pu.y] 39
  have l_u : w10.heap.size < (w10.alloc (.cells #[.int .i64 pu.x, .int .i64 pu.y] 39)).heap.size := by simp
  generalize (w10.alloc (.cells #[.int .i64 pu.x, .int .i64 pu.y] 39)) = W11 at *
  generalize w10.heap.size = S11 at *
  clear w10
  refine (c4.out _).mono ?_
  rintro r w12 ⟨rfl, hw12⟩
  replace H_k := hide (H_k.out.ext (hw12) l_k)
  replace l_k := Nat.lt_of_lt_of_le l_k (Below.size (hw12))
  replace H_a := hide (H_a.out.ext (hw12) l_a)
  replace l_a := Nat.lt_of_lt_of_le l_a (Below.size (hw12))
  replace H_b := hide (H_b.out.ext (hw12) l_b)
  replace l_b := Nat.lt_of_lt_of_le l_b (Below.size (hw12))
  replace H_g := hide (H_g.out.ext (hw12) l_g)
  replace l_g := Nat.lt_of_lt_of_le l_g (Below.size (hw12))
  replace H_s := hide (H_s.out.ext (hw12) l_s)
  replace l_s := Nat.lt_of_lt_of_le l_s (Below.size (hw12))
  replace H_t := hide (H_t.out.ext (hw12) l_t)
  replace l_t := Nat.lt_of_lt_of_le l_t (Below.size (hw12))
  replace H_u := hide (H_u.out.ext (hw12) l_u)
  replace l_u := Nat.lt_of_lt_of_le l_u (Below.size (hw12))
  replace HB := hide (HB.out.trans (hw12))
  clear hw12 W11
  have k_0 := (H_k.out 0 _ rfl).1
  have k_1 := (H_k.out 1 _ rfl).1
  have k_2 := (H_k.out 2 _ rfl).1
  have k_3 := (H_k.out 3 _ rfl).1
  have k_4 := (H_k.out 4 _ rfl).1
  have a_0 := (H_a.out 0 _ rfl).1
  have a_1 := (H_a.out 1 _ rfl).1
  go_wp2_with fail
  clear k_0 k_1 k_2 k_3 k_4 a_0 a_1
  replace H_k := hide (H_k.out.ext (Ext.alloc w12 (.cells #[.int .i64 pv.x, .int .i64 pv.y] 39)) l_k)
  replace l_k := Nat.lt_of_lt_of_le l_k (Below.size (Ext.alloc w12 (.cells #[.int .i64 pv.x, .int .i64 pv.y] 39)))
  replace H_a := hide (H_a.out.ext (Ext.alloc w12 (.cells #[.int .i64 pv.x, .int .i64 pv.y] 39)) l_a)
  replace l_a := Nat.lt_of_lt_of_le l_a (Below.size (Ext.alloc w12 (.cells #[.int .i64 pv.x, .int .i64 pv.y] 39)))
  replace H_b := hide (H_b.out.ext (Ext.alloc w12 (.cells #[.int .i64 pv.x, .int .i64 pv.y] 39)) l_b)
  replace l_b := Nat.lt_of_lt_of_le l_b (Below.size (Ext.alloc w12 (.cells #[.int .i64 pv.x, .int .i64 pv.y] 39)))
  replace H_g := hide (H_g.out.ext (Ext.alloc w12 (.cells #[.int .i64 pv.x, .int .i64 pv.y] 39)) l_g)
  replace l_g := Nat.lt_of_lt_of_le l_g (Below.size (Ext.alloc w12 (.cells #[.int .i64 pv.x, .int .i64 pv.y] 39)))
  replace H_s := hide (H_s.out.ext (Ext.alloc w12 (.cells #[.int .i64 pv.x, .int .i64 pv.y] 39)) l_s)
  replace l_s := Nat.lt_of_lt_of_le l_s (Below.size (Ext.alloc w12 (.cells #[.int .i64 pv.x, .int .i64 pv.y] 39)))
  replace H_t := hide (H_t.out.ext (Ext.alloc w12 (.cells #[.int .i64 pv.x, .int .i64 pv.y] 39)) l_t)
  replace l_t := Nat.lt_of_lt_of_le l_t (Below.size (Ext.alloc w12 (.cells #[.int .i64 pv.x, .int .i64 pv.y] 39)))
  replace H_u := hide (H_u.out.ext (Ext.alloc w12 (.cells #[.int .i64 pv.x, .int .i64 pv.y] 39)) l_u)
  replace l_u := Nat.lt_of_lt_of_le l_u (Below.size (Ext.alloc w12 (.cells #[.int .i64 pv.x, .int .i64 pv.y] 39)))
  replace HB := hide (HB.out.trans (Ext.alloc w12 (.cells #[.int .i64 pv.x, .int .i64 pv.y] 39)))
  have H_v : Hid (Blk (w12.alloc (.cells #[.int .i64 pv.x, .int .i64 pv.y] 39)) (w12.heap.size) [.int .i64 pv.x, .int .i64 pv.y]) := Blk.alloc w12 [.int .i64 pv.x, .int .i64 pv.y] 39
  have l_v : w12.heap.size < (w12.alloc (.cells #[.int .i64 pv.x, .int .i64 pv.y] 39)).heap.size := by simp
  generalize (w12.alloc (.cells #[.int .i64 pv.x, .int .i64 pv.y] 39)) = W13 at *
  generalize w12.heap.size = S13 at *
  clear w12
  refine (c5.out _).mono ?_
  rintro r w14 ⟨rfl, hw14⟩
  replace H_k := hide (H_k.out.ext (hw14) l_k)
  replace l_k := Nat.lt_of_lt_of_le l_k (Below.size (hw14))
  replace H_a := hide (H_a.out.ext (hw14) l_a)
  replace l_a := Nat.lt_of_lt_of_le l_a (Below.size (hw14))
  replace H_b := hide (H_b.out.ext (hw14) l_b)
  replace l_b := Nat.lt_of_lt_of_le l_b (Below.size (hw14))
  replace H_g := hide (H_g.out.ext (hw14) l_g)
  replace l_g := Nat.lt_of_lt_of_le l_g (Below.size (hw14))
  replace H_s := hide (H_s.out.ext (hw14) l_s)
  replace l_s := Nat.lt_of_lt_of_le l_s (Below.size (hw14))
  replace H_t := hide (H_t.out.ext (hw14) l_t)
  replace l_t := Nat.lt_of_lt_of_le l_t (Below.size (hw14))
  replace H_u := hide (H_u.out.ext (hw14) l_u)
  replace l_u := Nat.lt_of_lt_of_le l_u (Below.size (hw14))
  replace H_v := hide (H_v.out.ext (hw14) l_v)
  replace l_v := Nat.lt_of_lt_of_le l_v (Below.size (hw14))
  replace HB := hide (HB.out.trans (hw14))
  clear hw14 W13
  clear c0 c0' c1 c2 c3 c4 c5
  go_wp2
  replace H_k := hide (H_k.out.ext (Ext.alloc w14 (.cells #[.int .i64 pu.x, .int .i64 pu.y] 39)) l_k)
  replace l_k := Nat.lt_of_lt_of_le l_k (Below.size (Ext.alloc w14 (.cells #[.int .i64 pu.x, .int .i64 pu.y] 39)))
  replace H_a := hide (H_a.out.ext (Ext.alloc w14 (.cells #[.int .i64 pu.x, .int .i64 pu.y] 39)) l_a)
  replace l_a := Nat.lt_of_lt_of_le l_a (Below.size (Ext.alloc w14 (.cells #[.int .i64 pu.x, .int .i64 pu.y] 39)))
  replace H_b := hide (H_b.out.ext (Ext.alloc w14 (.cells #[.int .i64 pu.x, .int .i64 pu.y] 39)) l_b)
  replace l_b := Nat.lt_of_lt_of_le l_b (Below.size (Ext.alloc w14 (.cells #[.int .i64 pu.x, .int .i64 pu.y] 39)))
  replace H_g := hide (H_g.out.ext (Ext.alloc w14 (.cells #[.int .i64 pu.x, .int .i64 pu.y] 39)) l_g)
  replace l_g := Nat.lt_of_lt_of_le l_g (Below.size (Ext.alloc w14 (.cells #[.int .i64 pu.x, .int .i64 pu.y] 39)))
  replace H_s := hide (H_s.out.ext (Ext.alloc w14 (.cells #[.int .i64 pu.x, .int .i64 pu.y] 39)) l_s)
  replace l_s := Nat.lt_of_lt_of_le l_s (Below.size (Ext.alloc w14 (.cells #[.int .i64 pu.x, .int .i64 pu.y] 39)))
  replace H_t := hide (H_t.out.ext (Ext.alloc w14 (.cells #[.int .i64 pu.x, .int .i64 pu.y] 39)) l_t)
  replace l_t := Nat.lt_of_lt_of_le l_t (Below.size (Ext.alloc w14 (.cells #[.int .i64 pu.x, .int .i64 pu.y] 39)))
  replace H_u := hide (H_u.out.ext (Ext.alloc w14 (.cells #[.int .i64 pu.x, .int .i64 pu.y] 39)) l_u)
  replace l_u := Nat.lt_of_lt_of_le l_u (Below.size (Ext.alloc w14 (.cells #[.int .i64 pu.x, .int .i64 pu.y] 39)))
  replace H_v := hide (H_v.out.ext (Ext.alloc w14 (.cells #[.int .i64 pu.x, .int .i64 pu.y] 39)) l_v)
  replace l_v := Nat.lt_of_lt_of_le l_v (Below.size (Ext.alloc w14 (.cells #[.int .i64 pu.x, .int .i64 pu.y] 39)))
  replace HB := hide (HB.out.trans (Ext.alloc w14 (.cells #[.int .i64 pu.x, .int .i64 pu.y] 39)))
  have H_w : Hid (Blk (w14.alloc (.cells #[.int .i64 pu.x, .int .i64 pu.y] 39)) (w14.heap.size) [.int .i64 pu.x, .int .i64 pu.y]) := Blk.alloc w14 [.int .i64 pu.x, .int .i64 pu.y] 39
  have l_w : w14.heap.size < (w14.alloc (.cells #[.int .i64 pu.x, .int .i64 pu.y] 39)).heap.size := by simp
  generalize (w14.alloc (.cells #[.int .i64 pu.x, .int .i64 pu.y] 39)) = W15 at *
  generalize w14.heap.size = S15 at *
  clear w14
  have hp13 := hc.out.p13
  have hpM := hc.out.pM
  have ax0 : 0 ≤ pa.x := oa.out.x0
  have ax1 : pa.x < P := by have := oa.out.x1; rw [hc.out.nat] at this; exact this
  obtain ⟨xo, hxo⟩ : ∃ xo, Int.tmod (P - pa.x) P = xo := ⟨_, rfl⟩
  have hoth := hc.out.other (x := pa.x) (y := pa.y) oa.out
  rw [hxo] at hoth
  have xb0 : 0 ≤ xo := hoth.1.x0
  have xb1 : xo < P := by have := hoth.1.x1; rw [hc.out.nat] at this; exact this
  have HA := hide (fun w => implEdAdd_yes hc.out oa.out hoth.1 w)
  rw [show addE P.toNat D pa ⟨xo, pa.y⟩ = oneE from hoth.2] at HA
  simp only [oneE] at HA
  clear hoth
  have r1 : IntKind.i64.wrap (P - pa.x) = P - pa.x := by rw [IntKind.wrap_i64]; omega
  have r1' : wrap64 (P - pa.x) = P - pa.x := by unfold wrap64; omega
  have r2 : IntKind.i64.wrap xo = xo := by rw [IntKind.wrap_i64]; omega
  have r2' : wrap64 xo = xo := by unfold wrap64; omega
  have hz0 : ¬ P = 0 := by omega
  obtain ⟨X, hX⟩ : ∃ X : Nat → Prop, X = fun q => W15.heap.size ≤ q := ⟨_, rfl⟩
  have x0 : ∀ q, q < W15.heap.size → ¬ X q := fun q h => by rw [hX]; simp; omega
  have x1 : ∀ q, W15.heap.size ≤ q → X q := fun q h => by rw [hX]; exact h
  clear hX
  have k_0 := cell_reC (H_k.out 0 _ rfl).1 (x0 _ l_k)
  have k_1 := cell_reC (H_k.out 1 _ rfl).1 (x0 _ l_k)
  have k_2 := cell_reC (H_k.out 2 _ rfl).1 (x0 _ l_k)
  have k_3 := cell_reC (H_k.out 3 _ rfl).1 (x0 _ l_k)
  have k_4 := cell_reC (H_k.out 4 _ rfl).1 (x0 _ l_k)
  have a_0 := cell_reC (H_a.out 0 _ rfl).1 (x0 _ l_a)
  have a_1 := cell_reC (H_a.out 1 _ rfl).1 (x0 _ l_a)
  refine anyK_begin X 20 rfl (by kernel_rfl) ?_
  refine anyK_take 0 17 3 rfl (by decide) (by kernel_rfl) (fun _ _ d _ _ h => by cases d <;> exact h) ?_
  repeat (refine headC_step (fun K hK => ?_); go_simp; first | (refine hK _ ?_; clear hK K) | (apply Exists.intro; refine ⟨fun _ => ?_, hK _ ?_⟩; ((go_at_call 17; exact Calls.re_of (HA.out _))); clear hK K))
  refine headC_nil ?_
  clear k_0 k_1 k_2 k_3 k_4 a_0 a_1 HA r1 r1' r2 r2' hz0 hxo xb0 xb1 ax0 ax1 hp13 hpM
  refine anyK_one 17 (by kernel_rfl) ?_
  refine stepK_run rfl ?_
  intro wa ha K hK
  go_simp
  refine hK _ _ (.of_ext (ha.trans (Ext.alloc _ _))) ?_
  clear hK K
  refine anyK_one 18 (by kernel_rfl) ?_
  refine stepK_run rfl ?_
  intro wb hb K hK
  obtain ⟨BS, hab, sS⟩ := box1 wa [.int .i64 0, .int .i64 0] 39 hb
  have lS := Below.size ha
  have hVb := ha.trans hab
  clear ha hb hab
  generalize wa.heap.size = S at *
  have s0 := (BS 0 _ rfl).1
  have s1 := (BS 1 _ rfl).1
  have y0 := (BS 0 _ rfl).2
  have y1 := (BS 1 _ rfl).2
  go_simp
  refine hK _ (putL S 0 [.int .i64 0, .int .i64 1] wb) (show Grw X W15 (putL S 0 [.int .i64 0, .int .i64 1] wb) from Grw.putL (x1 _ lS) _ _ _ (.of_ext hVb)) ?_
  clear hK K s0 s1 y0 y1
  refine anyK_take 19 1 0 rfl (by decide) (by kernel_rfl) (fun _ _ d _ _ h => by cases d <;> exact h) ?_
  repeat (refine headC_step (fun K hK => ?_); go_simp; first | (refine hK _ ?_; clear hK K) | (apply Exists.intro; refine ⟨fun _ => ?_, hK _ ?_⟩; (fail); clear hK K))
  refine headC_nil ?_
  refine anyK_done (by kernel_rfl) ?_ 0
  intro wc hc'
  replace hc' : Ext (putL S 0 [.int .i64 0, .int .i64 1] wb) wc := hc'
  have hxx := (hVb.putL lS [.int .i64 0, .int .i64 1]).trans hc'
  have H_o : Hid (Blk wc S [.int .i64 0, .int .i64 1]) := (BS.put [.int .i64 0, .int .i64 1] rfl).ext hc' (by rw [size_putL]; omega)
  have l_o : S < wc.heap.size := by have := Below.size hc'; rw [size_putL] at this; omega
  replace H_k := hide (H_k.out.ext (hxx) l_k)
  replace l_k := Nat.lt_of_lt_of_le l_k (Below.size (hxx))
  replace H_a := hide (H_a.out.ext (hxx) l_a)
  replace l_a := Nat.lt_of_lt_of_le l_a (Below.size (hxx))
  replace H_b := hide (H_b.out.ext (hxx) l_b)
  replace l_b := Nat.lt_of_lt_of_le l_b (Below.size (hxx))
  replace H_g := hide (H_g.out.ext (hxx) l_g)
  replace l_g := Nat.lt_of_lt_of_le l_g (Below.size (hxx))
  replace H_s := hide (H_s.out.ext (hxx) l_s)
  replace l_s := Nat.lt_of_lt_of_le l_s (Below.size (hxx))
  replace H_t := hide (H_t.out.ext (hxx) l_t)
  replace l_t := Nat.lt_of_lt_of_le l_t (Below.size (hxx))
  replace H_u := hide (H_u.out.ext (hxx) l_u)
  replace l_u := Nat.lt_of_lt_of_le l_u (Below.size (hxx))
  replace H_v := hide (H_v.out.ext (hxx) l_v)
  replace l_v := Nat.lt_of_lt_of_le l_v (Below.size (hxx))
  replace H_w := hide (H_w.out.ext (hxx) l_w)
  replace l_w := Nat.lt_of_lt_of_le l_w (Below.size (hxx))
  replace HB := hide (HB.out.trans (hxx))
  clear hxx hVb hc' BS sS lS x0 x1 X wb
  clear W15
  go_wp2_with fail
  refine (at_any a b off n cap f 0 _ (hs.of_all HB.out) hB hn (by omega)).mono ?_
  rintro e w' ⟨m0, rfl, m00, m01, hw⟩
  obtain rfl := hw.symm
  go_wp2_with fail
  refine (at_any a b off n cap f 1 _ (hs.of_all HB.out) hB hn (by omega)).mono ?_
  rintro e w' ⟨m1, rfl, m10, m11, hw⟩
  obtain rfl := hw.symm
  obtain ⟨M, hM⟩ : ∃ M, m0 * m1 = M := ⟨_, rfl⟩
  have M0 : 0 ≤ M := by rw [← hM]; exact Int.mul_nonneg m00 m10
  have M1 : M ≤ 65025 := by rw [← hM]; exact (mulBd m00 m01 m10 m11).2
  have hM2 : IntKind.i64.wrap (m0 * m1) = M := by rw [hM, IntKind.wrap_i64]; omega
  have hM3 : wrap64 (m0 * m1) = M := by rw [hM]; unfold wrap64; omega
  obtain ⟨px, hX⟩ : ∃ p, mulE P.toNat D M.toNat pa = p := ⟨_, rfl⟩
  obtain ⟨py, hY⟩ : ∃ p, mulE P.toNat D (M + 1).toNat pa = p := ⟨_, rfl⟩
  obtain ⟨pe, hE⟩ : ∃ p, mulE P.toNat D 8 pa = p := ⟨_, rfl⟩
  have oX : Hid (OnE P.toNat D px) := by rw [← hX]; exact hc.out.mul_on oa.out (by omega)
  have c1 := hide (fun w => implEdMul_yes hc.out oa.out M0 (show M ≤ 1099511627776 by omega) w)
  have c2 := hide (fun w => implEdMul_yes hc.out oa.out (show 0 ≤ M + 1 by omega) (show M + 1 ≤ 1099511627776 by omega) w)
  have c3 := hide (fun w => implEdAdd_yes hc.out oX.out oa.out w)
  have c4 := hide (fun w => implEdCof_yes hc.out oa.out w)
  have c5 := hide (fun w => implEdMul_yes (n := 8) hc.out oa.out (by omega) (by omega) w)
  rw [hX] at c1
  rw [hY] at c2
  rw [show addE P.toNat D px pa = py by rw [← hX, ← hY, hc.out.mul_succ oa.out (by omega), show M.toNat + 1 = (M + 1).toNat by omega]] at c3
  rw [hE] at c4
  rw [show (8 : Int).toNat = 8 from rfl, hE] at c5
  have c6 := hide (fun w => ebytes_yes hc.out oa.out w)
  have hpM := hc.out.pM
  have rR := prByte_range oa.out (by omega)
  have c7 := hide (fun ab g cap w => eread_yes hc.out (readsE_back oa.out (by omega)) (fun i _ => rR i) ab g cap w)
  clear hX hY hE rR hpM
  have k_0 := (H_k.out 0 _ rfl).1
  have k_1 := (H_k.out 1 _ rfl).1
  have k_2 := (H_k.out 2 _ rfl).1
  have k_3 := (H_k.out 3 _ rfl).1
  have k_4 := (H_k.out 4 _ rfl).1
  have a_0 := (H_a.out 0 _ rfl).1
  have a_1 := (H_a.out 1 _ rfl).1
  go_wp2_with fail
  clear k_0 k_1 k_2 k_3 k_4 a_0 a_1
  try rw [hM]
  clear hM hM2 hM3 m00 m01 m10 m11
  refine (c1.out _).mono ?_
  rintro r w16 ⟨rfl, hw16⟩
  replace H_k := hide (H_k.out.ext (hw16) l_k)
  replace l_k := Nat.lt_of_lt_of_le l_k (Below.size (hw16))
  replace H_a := hide (H_a.out.ext (hw16) l_a)
  replace l_a := Nat.lt_of_lt_of_le l_a (Below.size (hw16))
  replace H_b := hide (H_b.out.ext (hw16) l_b)
  replace l_b := Nat.lt_of_lt_of_le l_b (Below.size (hw16))
  replace H_g := hide (H_g.out.ext (hw16) l_g)
  replace l_g := Nat.lt_of_lt_of_le l_g (Below.size (hw16))
  replace H_s := hide (H_s.out.ext (hw16) l_s)
  replace l_s := Nat.lt_of_lt_of_le l_s (Below.size (hw16))
  replace H_t := hide (H_t.out.ext (hw16) l_t)
  replace l_t := Nat.lt_of_lt_of_le l_t (Below.size (hw16))
  replace H_u := hide (H_u.out.ext (hw16) l_u)
  replace l_u := Nat.lt_of_lt_of_le l_u (Below.size (hw16))
  replace H_v := hide (H_v.out.ext (hw16) l_v)
  replace l_v := Nat.lt_of_lt_of_le l_v (Below.size (hw16))
  replace H_w := hide (H_w.out.ext (hw16) l_w)
  replace l_w := Nat.lt_of_lt_of_le l_w (Below.size (hw16))
  replace H_o := hide (H_o.out.ext (hw16) l_o)
  replace l_o := Nat.lt_of_lt_of_le l_o (Below.size (hw16))
  replace HB := hide (HB.out.trans (hw16))
  clear hw16 wc
  have k_0 := (H_k.out 0 _ rfl).1
  have k_1 := (H_k.out 1 _ rfl).1
  have k_2 := (H_k.out 2 _ rfl).1
  have k_3 := (H_k.out 3 _ rfl).1
  have k_4 := (H_k.out 4 _ rfl).1
  have a_0 := (H_a.out 0 _ rfl).1
  have a_1 := (H_a.out 1 _ rfl).1
  go_wp2_with fail
  clear k_0 k_1 k_2 k_3 k_4 a_0 a_1
  replace H_k := hide (H_k.out.ext (Ext.alloc w16 (.cells #[.int .i64 px.x, .int .i64 px.y] 39)) l_k)
  replace l_k := Nat.lt_of_lt_of_le l_k (Below.size (Ext.alloc w16 (.cells #[.int .i64 px.x, .int .i64 px.y] 39)))
  replace H_a := hide (H_a.out.ext (Ext.alloc w16 (.cells #[.int .i64 px.x, .int .i64 px.y] 39)) l_a)
  replace l_a := Nat.lt_of_lt_of_le l_a (Below.size (Ext.alloc w16 (.cells #[.int .i64 px.x, .int .i64 px.y] 39)))
  replace H_b := hide (H_b.out.ext (Ext.alloc w16 (.cells #[.int .i64 px.x, .int .i64 px.y] 39)) l_b)
  replace l_b := Nat.lt_of_lt_of_le l_b (Below.size (Ext.alloc w16 (.cells #[.int .i64 px.x, .int .i64 px.y] 39)))
  replace H_g := hide (H_g.out.ext (Ext.alloc w16 (.cells #[.int .i64 px.x, .int .i64 px.y] 39)) l_g)
  replace l_g := Nat.lt_of_lt_of_le l_g (Below.size (Ext.alloc w16 (.cells #[.int .i64 px.x, .int .i64 px.y] 39)))
  replace H_s := hide (H_s.out.ext (Ext.alloc w16 (.cells #[.int .i64 px.x, .int .i64 px.y] 39)) l_s)
  replace l_s := Nat.lt_of_lt_of_le l_s (Below.size (Ext.alloc w16 (.cells #[.int .i64 px.x, .int .i64 px.y] 39)))
  replace H_t := hide (H_t.out.ext (Ext.alloc w16 (.cells #[.int .i64 px.x, .int .i64 px.y] 39)) l_t)
  replace l_t := Nat.lt_of_lt_of_le l_t (Below.size (Ext.alloc w16 (.cells #[.int .i64 px.x, .int .i64 px.y] 39)))
  replace H_u := hide (H_u.out.ext (Ext.alloc w16 (.cells #[.int .i64 px.x, .int .i64 px.y] 39)) l_u)
  replace l_u := Nat.lt_of_lt_of_le l_u (Below.size (Ext.alloc w16 (.cells #[.int .i64 px.x, .int .i64 px.y] 39)))
  replace H_v := hide (H_v.out.ext (Ext.alloc w16 (.cells #[.int .i64 px.x, .int .i64 px.y] 39)) l_v)
  replace l_v := Nat.lt_of_lt_of_le l_v (Below.size (Ext.alloc w16 (.cells #[.int .i64 px.x, .int .i64 px.y] 39)))
  replace H_w := hide (H_w.out.ext (Ext.alloc w16 (.cells #[.int .i64 px.x, .int .i64 px.y] 39)) l_w)
  replace l_w := Nat.lt_of_lt_of_le l_w (Below.size (Ext.alloc w16 (.cells #[.int .i64 px.x, .int .i64 px.y] 39)))
  replace H_o := hide (H_o.out.ext (Ext.alloc w16 (.cells #[.int .i64 px.x, .int .i64 px.y] 39)) l_o)
  replace l_o := Nat.lt_of_lt_of_le l_o (Below.size (Ext.alloc w16 (.cells #[.int .i64 px.x, .int .i64 px.y] 39)))
  replace HB := hide (HB.out.trans (Ext.alloc w16 (.cells #[.int .i64 px.x, .int .i64 px.y] 39)))
  have H_x : Hid (Blk (w16.alloc (.cells #[.int .i64 px.x, .int .i64 px.y] 39)) (w16.heap.size) [.int .i64 px.x, .int .i64 px.y]) := Blk.alloc w16 [.int .i64 px.x, .int .i64 px.y] 39
  have l_x : w16.heap.size < (w16.alloc (.cells #[.int .i64 px.x, .int .i64 px.y] 39)).heap.size := by simp
  generalize (w16.alloc (.cells #[.int .i64 px.x, .int .i64 px.y] 39)) = W17 at *
  generalize w16.heap.size = S17 at *
  clear w16
  refine (c2.out _).mono ?_
  rintro r w18 ⟨rfl, hw18⟩
  replace H_k := hide (H_k.out.ext (hw18) l_k)
  replace l_k := Nat.lt_of_lt_of_le l_k (Below.size (hw18))
  replace H_a := hide (H_a.out.ext (hw18) l_a)
  replace l_a := Nat.lt_of_lt_of_le l_a (Below.size (hw18))
  replace H_b := hide (H_b.out.ext (hw18) l_b)
  replace l_b := Nat.lt_of_lt_of_le l_b (Below.size (hw18))
  replace H_g := hide (H_g.out.ext (hw18) l_g)
  replace l_g := Nat.lt_of_lt_of_le l_g (Below.size (hw18))
  replace H_s := hide (H_s.out.ext (hw18) l_s)
  replace l_s := Nat.lt_of_lt_of_le l_s (Below.size (hw18))
  replace H_t := hide (H_t.out.ext (hw18) l_t)
  replace l_t := Nat.lt_of_lt_of_le l_t (Below.size (hw18))
  replace H_u := hide (H_u.out.ext (hw18) l_u)
  replace l_u := Nat.lt_of_lt_of_le l_u (Below.size (hw18))
  replace H_v := hide (H_v.out.ext (hw18) l_v)
  replace l_v := Nat.lt_of_lt_of_le l_v (Below.size (hw18))
  replace H_w := hide (H_w.out.ext (hw18) l_w)
  replace l_w := Nat.lt_of_lt_of_le l_w (Below.size (hw18))
  replace H_o := hide (H_o.out.ext (hw18) l_o)
  replace l_o := Nat.lt_of_lt_of_le l_o (Below.size (hw18))
  replace H_x := hide (H_x.out.ext (hw18) l_x)
  replace l_x := Nat.lt_of_lt_of_le l_x (Below.size (hw18))
  replace HB := hide (HB.out.trans (hw18))
  clear hw18 W17
  have k_0 := (H_k.out 0 _ rfl).1
  have k_1 := (H_k.out 1 _ rfl).1
  have k_2 := (H_k.out 2 _ rfl).1
  have k_3 := (H_k.out 3 _ rfl).1
  have k_4 := (H_k.out 4 _ rfl).1
  have x_0 := (H_x.out 0 _ rfl).1
  have x_1 := (H_x.out 1 _ rfl).1
  have a_0 := (H_a.out 0 _ rfl).1
  have a_1 := (H_a.out 1 _ rfl).1
  go_wp2_with fail
  clear k_0 k_1 k_2 k_3 k_4 x_0 x_1 a_0 a_1
  replace H_k := hide (H_k.out.ext (Ext.alloc w18 (.cells #[.int .i64 py.x, .int .i64 py.y] 39)) l_k)
  replace l_k := Nat.lt_of_lt_of_le l_k (Below.size (Ext.alloc w18 (.cells #[.int .i64 py.x, .int .i64 py.y] 39)))
  replace H_a := hide (H_a.out.ext (Ext.alloc w18 (.cells #[.int .i64 py.x, .int .i64 py.y] 39)) l_a)
  replace l_a := Nat.lt_of_lt_of_le l_a (Below.size (Ext.alloc w18 (.cells #[.int .i64 py.x, .int .i64 py.y] 39)))
  replace H_b := hide (H_b.out.ext (Ext.alloc w18 (.cells #[.int .i64 py.x, .int .i64 py.y] 39)) l_b)
  replace l_b := Nat.lt_of_lt_of_le l_b (Below.size (Ext.alloc w18 (.cells #[.int .i64 py.x, .int .i64 py.y] 39)))
  replace H_g := hide (H_g.out.ext (Ext.alloc w18 (.cells #[.int .i64 py.x, .int .i64 py.y] 39)) l_g)
  replace l_g := Nat.lt_of_lt_of_le l_g (Below.size (Ext.alloc w18 (.cells #[.int .i64 py.x, .int .i64 py.y] 39)))
  replace H_s := hide (H_s.out.ext (Ext.alloc w18 (.cells #[.int .i64 py.x, .int .i64 py.y] 39)) l_s)
  replace l_s := Nat.lt_of_lt_of_le l_s (Below.size (Ext.alloc w18 (.cells #[.int .i64 py.x, .int .i64 py.y] 39)))
  replace H_t := hide (H_t.out.ext (Ext.alloc w18 (.cells #[.int .i64 py.x, .int .i64 py.y] 39)) l_t)
  replace l_t := Nat.lt_of_lt_of_le l_t (Below.size (Ext.alloc w18 (.cells #[.int .i64 py.x, .int .i64 py.y] 39)))
  replace H_u := hide (H_u.out.ext (Ext.alloc w18 (.cells #[.int .i64 py.x, .int .i64 py.y] 39)) l_u)
  replace l_u := Nat.lt_of_lt_of_le l_u (Below.size (Ext.alloc w18 (.cells #[.int .i64 py.x, .int .i64 py.y] 39)))
  replace H_v := hide (H_v.out.ext (Ext.alloc w18 (.cells #[.int .i64 py.x, .int .i64 py.y] 39)) l_v)
  replace l_v := Nat.lt_of_lt_of_le l_v (Below.size (Ext.alloc w18 (.cells #[.int .i64 py.x, .int .i64 py.y] 39)))
  replace H_w := hide (H_w.out.ext (Ext.alloc w18 (.cells #[.int .i64 py.x, .int .i64 py.y] 39)) l_w)
  replace l_w := Nat.lt_of_lt_of_le l_w (Below.size (Ext.alloc w18 (.cells #[.int .i64 py.x, .int .i64 py.y] 39)))
  replace H_o := hide (H_o.out.ext (Ext.alloc w18 (.cells #[.int .i64 py.x, .int .i64 py.y] 39)) l_o)
  replace l_o := Nat.lt_of_lt_of_le l_o (Below.size (Ext.alloc w18 (.cells #[.int .i64 py.x, .int .i64 py.y] 39)))
  replace H_x := hide (H_x.out.ext (Ext.alloc w18 (.cells #[.int .i64 py.x, .int .i64 py.y] 39)) l_x)
  replace l_x := Nat.lt_of_lt_of_le l_x (Below.size (Ext.alloc w18 (.cells #[.int .i64 py.x, .int .i64 py.y] 39)))
  replace HB := hide (HB.out.trans (Ext.alloc w18 (.cells #[.int .i64 py.x, .int .i64 py.y] 39)))
  have H_y : Hid (Blk (w18.alloc (.cells #[.int .i64 py.x, .int .i64 py.y] 39)) (w18.heap.size) [.int .i64 py.x, .int .i64 py.y]) := Blk.alloc w18 [.int .i64 py.x, .int .i64 py.y] 39
  have l_y : w18.heap.size < (w18.alloc (.cells #[.int .i64 py.x, .int .i64 py.y] 39)).heap.size := by simp
  generalize (w18.alloc (.cells #[.int .i64 py.x, .int .i64 py.y] 39)) = W19 at *
  generalize w18.heap.size = S19 at *
  clear w18
  refine (c3.out _).mono ?_
  rintro r w20 ⟨rfl, hw20⟩
  replace H_k := hide (H_k.out.ext (hw20) l_k)
  replace l_k := Nat.lt_of_lt_of_le l_k (Below.size (hw20))
  replace H_a := hide (H_a.out.ext (hw20) l_a)
  replace l_a := Nat.lt_of_lt_of_le l_a (Below.size (hw20))
  replace H_b := hide (H_b.out.ext (hw20) l_b)
  replace l_b := Nat.lt_of_lt_of_le l_b (Below.size (hw20))
  replace H_g := hide (H_g.out.ext (hw20) l_g)
  replace l_g := Nat.lt_of_lt_of_le l_g (Below.size (hw20))
  replace H_s := hide (H_s.out.ext (hw20) l_s)
  replace l_s := Nat.lt_of_lt_of_le l_s (Below.size (hw20))
  replace H_t := hide (H_t.out.ext (hw20) l_t)
  replace l_t := Nat.lt_of_lt_of_le l_t (Below.size (hw20))
  replace H_u := hide (H_u.out.ext (hw20) l_u)
  replace l_u := Nat.lt_of_lt_of_le l_u (Below.size (hw20))
  replace H_v := hide (H_v.out.ext (hw20) l_v)
  replace l_v := Nat.lt_of_lt_of_le l_v (Below.size (hw20))
  replace H_w := hide (H_w.out.ext (hw20) l_w)
  replace l_w := Nat.lt_of_lt_of_le l_w (Below.size (hw20))
  replace H_o := hide (H_o.out.ext (hw20) l_o)
  replace l_o := Nat.lt_of_lt_of_le l_o (Below.size (hw20))
  replace H_x := hide (H_x.out.ext (hw20) l_x)
  replace l_x := Nat.lt_of_lt_of_le l_x (Below.size (hw20))
  replace H_y := hide (H_y.out.ext (hw20) l_y)
  replace l_y := Nat.lt_of_lt_of_le l_y (Below.size (hw20))
  replace HB := hide (HB.out.trans (hw20))
  clear hw20 W19
  have k_0 := (H_k.out 0 _ rfl).1
  have k_1 := (H_k.out 1 _ rfl).1
  have k_2 := (H_k.out 2 _ rfl).1
  have k_3 := (H_k.out 3 _ rfl).1
  have k_4 := (H_k.out 4 _ rfl).1
  have a_0 := (H_a.out 0 _ rfl).1
  have a_1 := (H_a.out 1 _ rfl).1
  go_wp2_with fail
  clear k_0 k_1 k_2 k_3 k_4 a_0 a_1
  replace H_k := hide (H_k.out.ext (Ext.alloc w20 (.cells #[.int .i64 py.x, .int .i64 py.y] 39)) l_k)
  replace l_k := Nat.lt_of_lt_of_le l_k (Below.size (Ext.alloc w20 (.cells #[.int .i64 py.x, .int .i64 py.y] 39)))
  replace H_a := hide (H_a.out.ext (Ext.alloc w20 (.cells #[.int .i64 py.x, .int .i64 py.y] 39)) l_a)
  replace l_a := Nat.lt_of_lt_of_le l_a (Below.size (Ext.alloc w20 (.cells #[.int .i64 py.x, .int .i64 py.y] 39)))
  replace H_b := hide (H_b.out.ext (Ext.alloc w20 (.cells #[.int .i64 py.x, .int .i64 py.y] 39)) l_b)
  replace l_b := Nat.lt_of_lt_of_le l_b (Below.size (Ext.alloc w20 (.cells #[.int .i64 py.x, .int .i64 py.y] 39)))
  replace H_g := hide (H_g.out.ext (Ext.alloc w20 (.cells #[.int .i64 py.x, .int .i64 py.y] 39)) l_g)
  replace l_g := Nat.lt_of_lt_of_le l_g (Below.size (Ext.alloc w20 (.cells #[.int .i64 py.x, .int .i64 py.y] 39)))
  replace H_s := hide (H_s.out.ext (Ext.alloc w20 (.cells #[.int .i64 py.x, .int .i64 py.y] 39)) l_s)
  replace l_s := Nat.lt_of_lt_of_le l_s (Below.size (Ext.alloc w20 (.cells #[.int .i64 py.x, .int .i64 py.y] 39)))
  replace H_t := hide (H_t.out.ext (Ext.alloc w20 (.cells #[.int .i64 py.x, .int .i64 py.y] 39)) l_t)
  replace l_t := Nat.lt_of_lt_of_le l_t (Below.size (Ext.alloc w20 (.cells #[.int .i64 py.x, .int .i64 py.y] 39)))
  replace H_u := hide (H_u.out.ext (Ext.alloc w20 (.cells #[.int .i64 py.x, .int .i64 py.y] 39)) l_u)
  replace l_u := Nat.lt_of_lt_of_le l_u (Below.size (Ext.alloc w20 (.cells #[.int .i64 py.x, .int .i64 py.y] 39)))
  replace H_v := hide (H_v.out.ext (Ext.alloc w20 (.cells #[.int .i64 py.x, .int .i64 py.y] 39)) l_v)
  replace l_v := Nat.lt_of_lt_of_le l_v (Below.size (Ext.alloc w20 (.cells #[.int .i64 py.x, .int .i64 py.y] 39)))
  replace H_w := hide (H_w.out.ext (Ext.alloc w20 (.cells #[.int .i64 py.x, .int .i64 py.y] 39)) l_w)
  replace l_w := Nat.lt_of_lt_of_le l_w (Below.size (Ext.alloc w20 (.cells #[.int .i64 py.x, .int .i64 py.y] 39)))
  replace H_o := hide (H_o.out.ext (Ext.alloc w20 (.cells #[.int .i64 py.x, .int .i64 py.y] 39)) l_o)
  replace l_o := Nat.lt_of_lt_of_le l_o (Below.size (Ext.alloc w20 (.cells #[.int .i64 py.x, .int .i64 py.y] 39)))
  replace H_x := hide (H_x.out.ext (Ext.alloc w20 (.cells #[.int .i64 py.x, .int .i64 py.y] 39)) l_x)
  replace l_x := Nat.lt_of_lt_of_le l_x (Below.size (Ext.alloc w20 (.cells #[.int .i64 py.x, .int .i64 py.y] 39)))
  replace H_y := hide (H_y.out.ext (Ext.alloc w20 (.cells #[.int .i64 py.x, .int .i64 py.y] 39)) l_y)
  replace l_y := Nat.lt_of_lt_of_le l_y (Below.size (Ext.alloc w20 (.cells #[.int .i64 py.x, .int .i64 py.y] 39)))
  replace HB := hide (HB.out.trans (Ext.alloc w20 (.cells #[.int .i64 py.x, .int .i64 py.y] 39)))
  have H_z : Hid (Blk (w20.alloc (.cells #[.int .i64 py.x, .int .i64 py.y] 39)) (w20.heap.size) [.int .i64 py.x, .int .i64 py.y]) := Blk.alloc w20 [.int .i64 py.x, .int .i64 py.y] 39
  have l_z : w20.heap.size < (w20.alloc (.cells #[.int .i64 py.x, .int .i64 py.y] 39)).heap.size := by simp
  generalize (w20.alloc (.cells #[.int .i64 py.x, .int .i64 py.y] 39)) = W21 at *
  generalize w20.heap.size = S21 at *
  clear w20
  refine (c4.out _).mono ?_
  rintro r w22 ⟨rfl, hw22⟩
  replace H_k := hide (H_k.out.ext (hw22) l_k)
  replace l_k := Nat.lt_of_lt_of_le l_k (Below.size (hw22))
  replace H_a := hide (H_a.out.ext (hw22) l_a)
  replace l_a := Nat.lt_of_lt_of_le l_a (Below.size (hw22))
  replace H_b := hide (H_b.out.ext (hw22) l_b)
  replace l_b := Nat.lt_of_lt_of_le l_b (Below.size (hw22))
  replace H_g := hide (H_g.out.ext (hw22) l_g)
  replace l_g := Nat.lt_of_lt_of_le l_g (Below.size (hw22))
  replace H_s := hide (H_s.out.ext (hw22) l_s)
  replace l_s := Nat.lt_of_lt_of_le l_s (Below.size (hw22))
  replace H_t := hide (H_t.out.ext (hw22) l_t)
  replace l_t := Nat.lt_of_lt_of_le l_t (Below.size (hw22))
  replace H_u := hide (H_u.out.ext (hw22) l_u)
  replace l_u := Nat.lt_of_lt_of_le l_u (Below.size (hw22))
  replace H_v := hide (H_v.out.ext (hw22) l_v)
  replace l_v := Nat.lt_of_lt_of_le l_v (Below.size (hw22))
  replace H_w := hide (H_w.out.ext (hw22) l_w)
  replace l_w := Nat.lt_of_lt_of_le l_w (Below.size (hw22))
  replace H_o := hide (H_o.out.ext (hw22) l_o)
  replace l_o := Nat.lt_of_lt_of_le l_o (Below.size (hw22))
  replace H_x := hide (H_x.out.ext (hw22) l_x)
  replace l_x := Nat.lt_of_lt_of_le l_x (Below.size (hw22))
  replace H_y := hide (H_y.out.ext (hw22) l_y)
  replace l_y := Nat.lt_of_lt_of_le l_y (Below.size (hw22))
  replace H_z := hide (H_z.out.ext (hw22) l_z)
  replace l_z := Nat.lt_of_lt_of_le l_z (Below.size (hw22))
  replace HB := hide (HB.out.trans (hw22))
  clear hw22 W21
  have k_0 := (H_k.out 0 _ rfl).1
  have k_1 := (H_k.out 1 _ rfl).1
  have k_2 := (H_k.out 2 _ rfl).1
  have k_3 := (H_k.out 3 _ rfl).1
  have k_4 := (H_k.out 4 _ rfl).1
  have a_0 := (H_a.out 0 _ rfl).1
  have a_1 := (H_a.out 1 _ rfl).1
  go_wp2_with fail
  clear k_0 k_1 k_2 k_3 k_4 a_0 a_1
  replace H_k := hide (H_k.out.ext (Ext.alloc w22 (.cells #[.int .i64 pe.x, .int .i64 pe.y] 39)) l_k)
  replace l_k := Nat.lt_of_lt_of_le l_k (Below.size (Ext.alloc w22 (.cells #[.int .i64 pe.x, .int .i64 pe.y] 39)))
  replace H_a := hide (H_a.out.ext (Ext.alloc w22 (.cells #[.int .i64 pe.x, .int .i64 pe.y] 39)) l_a)
  replace l_a := Nat.lt_of_lt_of_le l_a (Below.size (Ext.alloc w22 (.cells #[.int .i64 pe.x, .int .i64 pe.y] 39)))
  replace H_b := hide (H_b.out.ext (Ext.alloc w22 (.cells #[.int .i64 pe.x, .int .i64 pe.y] 39)) l_b)
  replace l_b := Nat.lt_of_lt_of_le l_b (Below.size (Ext.alloc w22 (.cells #[.int .i64 pe.x, .int .i64 pe.y] 39)))
  replace H_g := hide (H_g.out.ext (Ext.alloc w22 (.cells #[.int .i64 pe.x, .int .i64 pe.y] 39)) l_g)
  replace l_g := Nat.lt_of_lt_of_le l_g (Below.size (Ext.alloc w22 (.cells #[.int .i64 pe.x, .int .i64 pe.y] 39)))
  replace H_s := hide (H_s.out.ext (Ext.alloc w22 (.cells #[.int .i64 pe.x, .int .i64 pe.y] 39)) l_s)
  replace l_s := Nat.lt_of_lt_of_le l_s (Below.size (Ext.alloc w22 (.cells #[.int .i64 pe.x, .int .i64 pe.y] 39)))
  replace H_t := hide (H_t.out.ext (Ext.alloc w22 (.cells #[.int .i64 pe.x, .int .i64 pe.y] 39)) l_t)
  replace l_t := Nat.lt_of_lt_of_le l_t (Below.size (Ext.alloc w22 (.cells #[.int .i64 pe.x, .int .i64 pe.y] 39)))
  replace H_u := hide (H_u.out.ext (Ext.alloc w22 (.cells #[.int .i64 pe.x, .int .i64 pe.y] 39)) l_u)
  replace l_u := Nat.lt_of_lt_of_le l_u (Below.size (Ext.alloc w22 (.cells #[.int .i64 pe.x, .int .i64 pe.y] 39)))
  replace H_v := hide (H_v.out.ext (Ext.alloc w22 (.cells #[.int .i64 pe.x, .int .i64 pe.y] 39)) l_v)
  replace l_v := Nat.lt_of_lt_of_le l_v (Below.size (Ext.alloc w22 (.cells #[.int .i64 pe.x, .int .i64 pe.y] 39)))
  replace H_w := hide (H_w.out.ext (Ext.alloc w22 (.cells #[.int .i64 pe.x, .int .i64 pe.y] 39)) l_w)
  replace l_w := Nat.lt_of_lt_of_le l_w (Below.size (Ext.alloc w22 (.cells #[.int .i64 pe.x, .int .i64 pe.y] 39)))
  replace H_o := hide (H_o.out.ext (Ext.alloc w22 (.cells #[.int .i64 pe.x, .int .i64 pe.y] 39)) l_o)
  replace l_o := Nat.lt_of_lt_of_le l_o (Below.size (Ext.alloc w22 (.cells #[.int .i64 pe.x, .int .i64 pe.y] 39)))
  replace H_x := hide (H_x.out.ext (Ext.alloc w22 (.cells #[.int .i64 pe.x, .int .i64 pe.y] 39)) l_x)
  replace l_x := Nat.lt_of_lt_of_le l_x (Below.size (Ext.alloc w22 (.cells #[.int .i64 pe.x, .int .i64 pe.y] 39)))
  replace H_y := hide (H_y.out.ext (Ext.alloc w22 (.cells #[.int .i64 pe.x, .int .i64 pe.y] 39)) l_y)
  replace l_y := Nat.lt_of_lt_of_le l_y (Below.size (Ext.alloc w22 (.cells #[.int .i64 pe.x, .int .i64 pe.y] 39)))
  replace H_z := hide (H_z.out.ext (Ext.alloc w22 (.cells #[.int .i64 pe.x, .int .i64 pe.y] 39)) l_z)
  replace l_z := Nat.lt_of_lt_of_le l_z (Below.size (Ext.alloc w22 (.cells #[.int .i64 pe.x, .int .i64 pe.y] 39)))
  replace HB := hide (HB.out.trans (Ext.alloc w22 (.cells #[.int .i64 pe.x, .int .i64 pe.y] 39)))
  have H_e : Hid (Blk (w22.alloc (.cells #[.int .i64 pe.x, .int .i64 pe.y] 39)) (w22.heap.size) [.int .i64 pe.x, .int .i64 pe.y]) := Blk.alloc w22 [.int .i64 pe.x, .int .i64 pe.y] 39
  have l_e : w22.heap.size < (w22.alloc (.cells #[.int .i64 pe.x, .int .i64 pe.y] 39)).heap.size := by simp
  generalize (w22.alloc (.cells #[.int .i64 pe.x, .int .i64 pe.y] 39)) = W23 at *
  generalize w22.heap.size = S23 at *
  clear w22
  refine (c5.out _).mono ?_
  rintro r w24 ⟨rfl, hw24⟩
  replace H_k := hide (H_k.out.ext (hw24) l_k)
  replace l_k := Nat.lt_of_lt_of_le l_k (Below.size (hw24))
  replace H_a := hide (H_a.out.ext (hw24) l_a)
  replace l_a := Nat.lt_of_lt_of_le l_a (Below.size (hw24))
  replace H_b := hide (H_b.out.ext (hw24) l_b)
  replace l_b := Nat.lt_of_lt_of_le l_b (Below.size (hw24))
  replace H_g := hide (H_g.out.ext (hw24) l_g)
  replace l_g := Nat.lt_of_lt_of_le l_g (Below.size (hw24))
  replace H_s := hide (H_s.out.ext (hw24) l_s)
  replace l_s := Nat.lt_of_lt_of_le l_s (Below.size (hw24))
  replace H_t := hide (H_t.out.ext (hw24) l_t)
  replace l_t := Nat.lt_of_lt_of_le l_t (Below.size (hw24))
  replace H_u := hide (H_u.out.ext (hw24) l_u)
  replace l_u := Nat.lt_of_lt_of_le l_u (Below.size (hw24))
  replace H_v := hide (H_v.out.ext (hw24) l_v)
  replace l_v := Nat.lt_of_lt_of_le l_v (Below.size (hw24))
  replace H_w := hide (H_w.out.ext (hw24) l_w)
  replace l_w := Nat.lt_of_lt_of_le l_w (Below.size (hw24))
  replace H_o := hide (H_o.out.ext (hw24) l_o)
  replace l_o := Nat.lt_of_lt_of_le l_o (Below.size (hw24))
  replace H_x := hide (H_x.out.ext (hw24) l_x)
  replace l_x := Nat.lt_of_lt_of_le l_x (Below.size (hw24))
  replace H_y := hide (H_y.out.ext (hw24) l_y)
  replace l_y := Nat.lt_of_lt_of_le l_y (Below.size (hw24))
  replace H_z := hide (H_z.out.ext (hw24) l_z)
  replace l_z := Nat.lt_of_lt_of_le l_z (Below.size (hw24))
  replace H_e := hide (H_e.out.ext (hw24) l_e)
  replace l_e := Nat.lt_of_lt_of_le l_e (Below.size (hw24))
  replace HB := hide (HB.out.trans (hw24))
  clear hw24 W23
  have k_0 := (H_k.out 0 _ rfl).1
  have k_1 := (H_k.out 1 _ rfl).1
  have k_2 := (H_k.out 2 _ rfl).1
  have k_3 := (H_k.out 3 _ rfl).1
  have k_4 := (H_k.out 4 _ rfl).1
  have a_0 := (H_a.out 0 _ rfl).1
  have a_1 := (H_a.out 1 _ rfl).1
  go_wp2_with fail
  clear k_0 k_1 k_2 k_3 k_4 a_0 a_1
  replace H_k := hide (H_k.out.ext (Ext.alloc w24 (.cells #[.int .i64 pe.x, .int .i64 pe.y] 39)) l_k)
  replace l_k := Nat.lt_of_lt_of_le l_k (Below.size (Ext.alloc w24 (.cells #[.int .i64 pe.x, .int .i64 pe.y] 39)))
  replace H_a := hide (H_a.out.ext (Ext.alloc w24 (.cells #[.int .i64 pe.x, .int .i64 pe.y] 39)) l_a)
  replace l_a := Nat.lt_of_lt_of_le l_a (Below.size (Ext.alloc w24 (.cells #[.int .i64 pe.x, .int .i64 pe.y] 39)))
  replace H_b := hide (H_b.out.ext (Ext.alloc w24 (.cells #[.int .i64 pe.x, .int .i64 pe.y] 39)) l_b)
  replace l_b := Nat.lt_of_lt_of_le l_b (Below.size (Ext.alloc w24 (.cells #[.int .i64 pe.x, .int .i64 pe.y] 39)))
  replace H_g := hide (H_g.out.ext (Ext.alloc w24 (.cells #[.int .i64 pe.x, .int .i64 pe.y] 39)) l_g)
  replace l_g := Nat.lt_of_lt_of_le l_g (Below.size (Ext.alloc w24 (.cells #[.int .i64 pe.x, .int .i64 pe.y] 39)))
  replace H_s := hide (H_s.out.ext (Ext.alloc w24 (.cells #[.int .i64 pe.x, .int .i64 pe.y] 39)) l_s)
  replace l_s := Nat.lt_of_lt_of_le l_s (Below.size (Ext.alloc w24 (.cells #[.int .i64 pe.x, .int .i64 pe.y] 39)))
  replace H_t := hide (H_t.out.ext (Ext.alloc w24 (.cells #[.int .i64 pe.x, .int .i64 pe.y] 39)) l_t)
  replace l_t := Nat.lt_of_lt_of_le l_t (Below.size (Ext.alloc w24 (.cells #[.int .i64 pe.x, .int .i64 pe.y] 39)))
  replace H_u := hide (H_u.out.ext (Ext.alloc w24 (.cells #[.int .i64 pe.x, .int .i64 pe.y] 39)) l_u)
  replace l_u := Nat.lt_of_lt_of_le l_u (Below.size (Ext.alloc w24 (.cells #[.int .i64 pe.x, .int .i64 pe.y] 39)))
  replace H_v := hide (H_v.out.ext (Ext.alloc w24 (.cells #[.int .i64 pe.x, .int .i64 pe.y] 39)) l_v)
  replace l_v := Nat.lt_of_lt_of_le l_v (Below.size (Ext.alloc w24 (.cells #[.int .i64 pe.x, .int .i64 pe.y] 39)))
  replace H_w := hide (H_w.out.ext (Ext.alloc w24 (.cells #[.int .i64 pe.x, .int .i64 pe.y] 39)) l_w)
  replace l_w := Nat.lt_of_lt_of_le l_w (Below.size (Ext.alloc w24 (.cells #[.int .i64 pe.x, .int .i64 pe.y] 39)))
  replace H_o := hide (H_o.out.ext (Ext.alloc w24 (.cells #[.int .i64 pe.x, .int .i64 pe.y] 39)) l_o)
  replace l_o := Nat.lt_of_lt_of_le l_o (Below.size (Ext.alloc w24 (.cells #[.int .i64 pe.x, .int .i64 pe.y] 39)))
  replace H_x := hide (H_x.out.ext (Ext.alloc w24 (.cells #[.int .i64 pe.x, .int .i64 pe.y] 39)) l_x)
  replace l_x := Nat.lt_of_lt_of_le l_x (Below.size (Ext.alloc w24 (.cells #[.int .i64 pe.x, .int .i64 pe.y] 39)))
  replace H_y := hide (H_y.out.ext (Ext.alloc w24 (.cells #[.int .i64 pe.x, .int .i64 pe.y] 39)) l_y)
  replace l_y := Nat.lt_of_lt_of_le l_y (Below.size (Ext.alloc w24 (.cells #[.int .i64 pe.x, .int .i64 pe.y] 39)))
  replace H_z := hide (H_z.out.ext (Ext.alloc w24 (.cells #[.int .i64 pe.x, .int .i64 pe.y] 39)) l_z)
  replace l_z := Nat.lt_of_lt_of_le l_z (Below.size (Ext.alloc w24 (.cells #[.int .i64 pe.x, .int .i64 pe.y] 39)))
  replace H_e := hide (H_e.out.ext (Ext.alloc w24 (.cells #[.int .i64 pe.x, .int .i64 pe.y] 39)) l_e)
  replace l_e := Nat.lt_of_lt_of_le l_e (Below.size (Ext.alloc w24 (.cells #[.int .i64 pe.x, .int .i64 pe.y] 39)))
  replace HB := hide (HB.out.trans (Ext.alloc w24 (.cells #[.int .i64 pe.x, .int .i64 pe.y] 39)))
  have H_f : Hid (Blk (w24.alloc (.cells #[.int .i64 pe.x, .int .i64 pe.y] 39)) (w24.heap.size) [.int .i64 pe.x, .int .i64 pe.y]) := Blk.alloc w24 [.int .i64 pe.x, .int .i64 pe.y] 39
  have l_f : w24.heap.size < (w24.alloc (.cells #[.int .i64 pe.x, .int .i64 pe.y] 39)).heap.size := by simp
  generalize (w24.alloc (.cells #[.int .i64 pe.x, .int .i64 pe.y] 39)) = W25 at *
  generalize w24.heap.size = S25 at *
  clear w24
  generalize prByte pa = F1 at *
  refine (c6.out _).mono ?_
  rintro r w26 ⟨aq1, gq1, cq1, rfl, -, hOq1, hw26, hcq1, -⟩
  replace hw26 : Ext W25 w26 := hw26
  replace H_k := hide (H_k.out.ext (hw26) l_k)
  replace l_k := Nat.lt_of_lt_of_le l_k (Below.size (hw26))
  replace H_a := hide (H_a.out.ext (hw26) l_a)
  replace l_a := Nat.lt_of_lt_of_le l_a (Below.size (hw26))
  replace H_b := hide (H_b.out.ext (hw26) l_b)
  replace l_b := Nat.lt_of_lt_of_le l_b (Below.size (hw26))
  replace H_g := hide (H_g.out.ext (hw26) l_g)
  replace l_g := Nat.lt_of_lt_of_le l_g (Below.size (hw26))
  replace H_s := hide (H_s.out.ext (hw26) l_s)
  replace l_s := Nat.lt_of_lt_of_le l_s (Below.size (hw26))
  replace H_t := hide (H_t.out.ext (hw26) l_t)
  replace l_t := Nat.lt_of_lt_of_le l_t (Below.size (hw26))
  replace H_u := hide (H_u.out.ext (hw26) l_u)
  replace l_u := Nat.lt_of_lt_of_le l_u (Below.size (hw26))
  replace H_v := hide (H_v.out.ext (hw26) l_v)
  replace l_v := Nat.lt_of_lt_of_le l_v (Below.size (hw26))
  replace H_w := hide (H_w.out.ext (hw26) l_w)
  replace l_w := Nat.lt_of_lt_of_le l_w (Below.size (hw26))
  replace H_o := hide (H_o.out.ext (hw26) l_o)
  replace l_o := Nat.lt_of_lt_of_le l_o (Below.size (hw26))
  replace H_x := hide (H_x.out.ext (hw26) l_x)
  replace l_x := Nat.lt_of_lt_of_le l_x (Below.size (hw26))
  replace H_y := hide (H_y.out.ext (hw26) l_y)
  replace l_y := Nat.lt_of_lt_of_le l_y (Below.size (hw26))
  replace H_z := hide (H_z.out.ext (hw26) l_z)
  replace l_z := Nat.lt_of_lt_of_le l_z (Below.size (hw26))
  replace H_e := hide (H_e.out.ext (hw26) l_e)
  replace l_e := Nat.lt_of_lt_of_le l_e (Below.size (hw26))
  replace H_f := hide (H_f.out.ext (hw26) l_f)
  replace l_f := Nat.lt_of_lt_of_le l_f (Below.size (hw26))
  replace HB := hide (HB.out.trans (hw26))
  clear hw26 W25
  obtain rfl := hOq1.at' (by omega)
  have Bq1 := hide hOq1.toBSeg
  clear hOq1
  have k_0 := (H_k.out 0 _ rfl).1
  have k_1 := (H_k.out 1 _ rfl).1
  have k_2 := (H_k.out 2 _ rfl).1
  have k_3 := (H_k.out 3 _ rfl).1
  have k_4 := (H_k.out 4 _ rfl).1
  go_wp2_with fail
  clear k_0 k_1 k_2 k_3 k_4
  refine (c7.out _ _ _ _ (hTh.out.ext HB.out) Bq1.out hcq1).mono ?_
  rintro r w27 ⟨rfl, hw27⟩
  replace H_k := hide (H_k.out.ext (hw27) l_k)
  replace l_k := Nat.lt_of_lt_of_le l_k (Below.size (hw27))
  replace H_a := hide (H_a.out.ext (hw27) l_a)
  replace l_a := Nat.lt_of_lt_of_le l_a (Below.size (hw27))
  replace H_b := hide (H_b.out.ext (hw27) l_b)
  replace l_b := Nat.lt_of_lt_of_le l_b (Below.size (hw27))
  replace H_g := hide (H_g.out.ext (hw27) l_g)
  replace l_g := Nat.lt_of_lt_of_le l_g (Below.size (hw27))
  replace H_s := hide (H_s.out.ext (hw27) l_s)
  replace l_s := Nat.lt_of_lt_of_le l_s (Below.size (hw27))
  replace H_t := hide (H_t.out.ext (hw27) l_t)
  replace l_t := Nat.lt_of_lt_of_le l_t (Below.size (hw27))
  replace H_u := hide (H_u.out.ext (hw27) l_u)
  replace l_u := Nat.lt_of_lt_of_le l_u (Below.size (hw27))
  replace H_v := hide (H_v.out.ext (hw27) l_v)
  replace l_v := Nat.lt_of_lt_of_le l_v (Below.size (hw27))
  replace H_w := hide (H_w.out.ext (hw27) l_w)
  replace l_w := Nat.lt_of_lt_of_le l_w (Below.size (hw27))
  replace H_o := hide (H_o.out.ext (hw27) l_o)
  replace l_o := Nat.lt_of_lt_of_le l_o (Below.size (hw27))
  replace H_x := hide (H_x.out.ext (hw27) l_x)
  replace l_x := Nat.lt_of_lt_of_le l_x (Below.size (hw27))
  replace H_y := hide (H_y.out.ext (hw27) l_y)
  replace l_y := Nat.lt_of_lt_of_le l_y (Below.size (hw27))
  replace H_z := hide (H_z.out.ext (hw27) l_z)
  replace l_z := Nat.lt_of_lt_of_le l_z (Below.size (hw27))
  replace H_e := hide (H_e.out.ext (hw27) l_e)
  replace l_e := Nat.lt_of_lt_of_le l_e (Below.size (hw27))
  replace H_f := hide (H_f.out.ext (hw27) l_f)
  replace l_f := Nat.lt_of_lt_of_le l_f (Below.size (hw27))
  replace HB := hide (HB.out.trans (hw27))
  replace Bq1 := hide (Bq1.out.of_all (hw27))
  clear hw27 w26
  clear c1 c2 c3 c4 c5 c6 c7 Bq1
  have hNe := run_nePr_same
  have s_0 := (H_s.out 0 _ rfl).1
  have s_1 := (H_s.out 1 _ rfl).1
  have t_0 := (H_t.out 0 _ rfl).1
  have t_1 := (H_t.out 1 _ rfl).1
  have u_0 := (H_u.out 0 _ rfl).1
  have u_1 := (H_u.out 1 _ rfl).1
  have w_0 := (H_w.out 0 _ rfl).1
  have w_1 := (H_w.out 1 _ rfl).1
  have o_0 := (H_o.out 0 _ rfl).1
  have o_1 := (H_o.out 1 _ rfl).1
  have y_0 := (H_y.out 0 _ rfl).1
  have y_1 := (H_y.out 1 _ rfl).1
  have z_0 := (H_z.out 0 _ rfl).1
  have z_1 := (H_z.out 1 _ rfl).1
  have e_0 := (H_e.out 0 _ rfl).1
  have e_1 := (H_e.out 1 _ rfl).1
  have f_0 := (H_f.out 0 _ rfl).1
  have f_1 := (H_f.out 1 _ rfl).1
  have a_0 := (H_a.out 0 _ rfl).1
  have a_1 := (H_a.out 1 _ rfl).1
  go_wp2_with fail
  clear s_0 s_1 t_0 t_1 u_0 u_1 w_0 w_1 o_0 o_1 y_0 y_1 z_0 z_1 e_0 e_1 f_0 f_1 a_0 a_1
  replace H_k := hide (H_k.out.ext (Ext.alloc w27 (.cells #[.int .i64 pa.x, .int .i64 pa.y] 39)) l_k)
  replace l_k := Nat.lt_of_lt_of_le l_k (Below.size (Ext.alloc w27 (.cells #[.int .i64 pa.x, .int .i64 pa.y] 39)))
  replace H_a := hide (H_a.out.ext (Ext.alloc w27 (.cells #[.int .i64 pa.x, .int .i64 pa.y] 39)) l_a)
  replace l_a := Nat.lt_of_lt_of_le l_a (Below.size (Ext.alloc w27 (.cells #[.int .i64 pa.x, .int .i64 pa.y] 39)))
  replace H_b := hide (H_b.out.ext (Ext.alloc w27 (.cells #[.int .i64 pa.x, .int .i64 pa.y] 39)) l_b)
  replace l_b := Nat.lt_of_lt_of_le l_b (Below.size (Ext.alloc w27 (.cells #[.int .i64 pa.x, .int .i64 pa.y] 39)))
  replace H_g := hide (H_g.out.ext (Ext.alloc w27 (.cells #[.int .i64 pa.x, .int .i64 pa.y] 39)) l_g)
  replace l_g := Nat.lt_of_lt_of_le l_g (Below.size (Ext.alloc w27 (.cells #[.int .i64 pa.x, .int .i64 pa.y] 39)))
  replace H_s := hide (H_s.out.ext (Ext.alloc w27 (.cells #[.int .i64 pa.x, .int .i64 pa.y] 39)) l_s)
  replace l_s := Nat.lt_of_lt_of_le l_s (Below.size (Ext.alloc w27 (.cells #[.int .i64 pa.x, .int .i64 pa.y] 39)))
  replace H_t := hide (H_t.out.ext (Ext.alloc w27 (.cells #[.int .i64 pa.x, .int .i64 pa.y] 39)) l_t)
  replace l_t := Nat.lt_of_lt_of_le l_t (Below.size (Ext.alloc w27 (.cells #[.int .i64 pa.x, .int .i64 pa.y] 39)))
  replace H_u := hide (H_u.out.ext (Ext.alloc w27 (.cells #[.int .i64 pa.x, .int .i64 pa.y] 39)) l_u)
  replace l_u := Nat.lt_of_lt_of_le l_u (Below.size (Ext.alloc w27 (.cells #[.int .i64 pa.x, .int .i64 pa.y] 39)))
  replace H_v := hide (H_v.out.ext (Ext.alloc w27 (.cells #[.int .i64 pa.x, .int .i64 pa.y] 39)) l_v)
  replace l_v := Nat.lt_of_lt_of_le l_v (Below.size (Ext.alloc w27 (.cells #[.int .i64 pa.x, .int .i64 pa.y] 39)))
  replace H_w := hide (H_w.out.ext (Ext.alloc w27 (.cells #[.int .i64 pa.x, .int .i64 pa.y] 39)) l_w)
  replace l_w := Nat.lt_of_lt_of_le l_w (Below.size (Ext.alloc w27 (.cells #[.int .i64 pa.x, .int .i64 pa.y] 39)))
  replace H_o := hide (H_o.out.ext (Ext.alloc w27 (.cells #[.int .i64 pa.x, .int .i64 pa.y] 39)) l_o)
  replace l_o := Nat.lt_of_lt_of_le l_o (Below.size (Ext.alloc w27 (.cells #[.int .i64 pa.x, .int .i64 pa.y] 39)))
  replace H_x := hide (H_x.out.ext (Ext.alloc w27 (.cells #[.int .i64 pa.x, .int .i64 pa.y] 39)) l_x)
  replace l_x := Nat.lt_of_lt_of_le l_x (Below.size (Ext.alloc w27 (.cells #[.int .i64 pa.x, .int .i64 pa.y] 39)))
  replace H_y := hide (H_y.out.ext (Ext.alloc w27 (.cells #[.int .i64 pa.x, .int .i64 pa.y] 39)) l_y)
  replace l_y := Nat.lt_of_lt_of_le l_y (Below.size (Ext.alloc w27 (.cells #[.int .i64 pa.x, .int .i64 pa.y] 39)))
  replace H_z := hide (H_z.out.ext (Ext.alloc w27 (.cells #[.int .i64 pa.x, .int .i64 pa.y] 39)) l_z)
  replace l_z := Nat.lt_of_lt_of_le l_z (Below.size (Ext.alloc w27 (.cells #[.int .i64 pa.x, .int .i64 pa.y] 39)))
  replace H_e := hide (H_e.out.ext (Ext.alloc w27 (.cells #[.int .i64 pa.x, .int .i64 pa.y] 39)) l_e)
  replace l_e := Nat.lt_of_lt_of_le l_e (Below.size (Ext.alloc w27 (.cells #[.int .i64 pa.x, .int .i64 pa.y] 39)))
  replace H_f := hide (H_f.out.ext (Ext.alloc w27 (.cells #[.int .i64 pa.x, .int .i64 pa.y] 39)) l_f)
  replace l_f := Nat.lt_of_lt_of_le l_f (Below.size (Ext.alloc w27 (.cells #[.int .i64 pa.x, .int .i64 pa.y] 39)))
  replace HB := hide (HB.out.trans (Ext.alloc w27 (.cells #[.int .i64 pa.x, .int .i64 pa.y] 39)))
  have H_r : Hid (Blk (w27.alloc (.cells #[.int .i64 pa.x, .int .i64 pa.y] 39)) (w27.heap.size) [.int .i64 pa.x, .int .i64 pa.y]) := Blk.alloc w27 [.int .i64 pa.x, .int .i64 pa.y] 39
  have l_r : w27.heap.size < (w27.alloc (.cells #[.int .i64 pa.x, .int .i64 pa.y] 39)).heap.size := by simp
  generalize (w27.alloc (.cells #[.int .i64 pa.x, .int .i64 pa.y] 39)) = W28 at *
  generalize w27.heap.size = S28 at *
  clear w27
  clear hNe
  clear H_k l_k
  clear H_a l_a
  clear H_b l_b
  clear H_g l_g
  clear H_s l_s
  clear H_t l_t
  clear H_u l_u
  clear H_v l_v
  clear H_w l_w
  clear H_o l_o
  clear H_x l_x
  clear H_y l_y
  clear H_z l_z
  clear H_e l_e
  clear H_f l_f
  clear H_r l_r
  refine (drawEdRead_any a b off n cap f _ (hs.of_all HB.out) hB hn).mono ?_
  rintro e wd ⟨P', D', L', x', y', sl, gs, m, cs, F, rfl, hk, hOd, hFd, hmc, hm3, -, hwd⟩
  replace HB := hide (HB.out.trans hwd)
  clear hwd W28
  have Bd := hide hOd.toBSeg
  clear hOd
  go_wp2_with fail
  replace HB := hide (HB.out.trans (Ext.alloc wd (.cells #[.int .i64 P', .int .i64 D', .int .i64 L', .int .i64 x', .int .i64 y'] 37)))
  replace Bd := hide (Bd.out.of_all (Ext.alloc wd (.cells #[.int .i64 P', .int .i64 D', .int .i64 L', .int .i64 x', .int .i64 y'] 37)))
  have H_j : Hid (Blk (wd.alloc (.cells #[.int .i64 P', .int .i64 D', .int .i64 L', .int .i64 x', .int .i64 y'] 37)) (wd.heap.size) [.int .i64 P', .int .i64 D', .int .i64 L', .int .i64 x', .int .i64 y']) := Blk.alloc wd [.int .i64 P', .int .i64 D', .int .i64 L', .int .i64 x', .int .i64 y'] 37
  have l_j : wd.heap.size < (wd.alloc (.cells #[.int .i64 P', .int .i64 D', .int .i64 L', .int .i64 x', .int .i64 y'] 37)).heap.size := by simp
  generalize (wd.alloc (.cells #[.int .i64 P', .int .i64 D', .int .i64 L', .int .i64 x', .int .i64 y'] 37)) = W29 at *
  generalize wd.heap.size = S29 at *
  clear wd
  refine (implEdRead_any P' D' L' x' y' sl gs 0 m cs F _ (by have := hk.p1; omega) (by have := hk.l1; omega) (hTh.out.ext HB.out) Bd.out hFd hmc).mono ?_
  rintro r we ⟨⟨c, ok, rfl, hopt⟩, hwe⟩
  replace H_j := hide (H_j.out.ext (hwe) l_j)
  replace l_j := Nat.lt_of_lt_of_le l_j (Below.size (hwe))
  replace HB := hide (HB.out.trans (hwe))
  replace Bd := hide (Bd.out.of_all (hwe))
  clear hwe
  clear W29
  cases ok
  · obtain rfl : c = ⟨0, 0⟩ := by
      rcases hopt with ⟨h, _⟩ | ⟨_, _, h⟩
      · cases h
      · exact h
    clear hopt
    have hEq := run_eqPr_same
    go_wp2
    go_ret
    exact ⟨rfl, Below.alloc HB.out (Below.size HB.out) _⟩
  obtain ⟨hc', hR⟩ : EvOk P' D' L' x' y' ∧ ReadsE P'.toNat D' m F c := by
    rcases hopt with ⟨_, h, k⟩ | ⟨h, _⟩
    · exact ⟨h, k⟩
    · cases h
  clear hopt
  obtain rfl : m = 3 := hR.len
  have hback := hide (hR.wrote hFd)
  have c8 := hide (fun w => ebytes_yes hc' hR.on w)
  obtain rfl := Bd.out.at' (by omega)
  have j_0 := (H_j.out 0 _ rfl).1
  have j_1 := (H_j.out 1 _ rfl).1
  have j_2 := (H_j.out 2 _ rfl).1
  have j_3 := (H_j.out 3 _ rfl).1
  have j_4 := (H_j.out 4 _ rfl).1
  go_wp2_with fail
  clear j_0 j_1 j_2 j_3 j_4
  replace H_j := hide (H_j.out.ext (Ext.alloc we (.cells #[.int .i64 c.x, .int .i64 c.y] 39)) l_j)
  replace l_j := Nat.lt_of_lt_of_le l_j (Below.size (Ext.alloc we (.cells #[.int .i64 c.x, .int .i64 c.y] 39)))
  replace HB := hide (HB.out.trans (Ext.alloc we (.cells #[.int .i64 c.x, .int .i64 c.y] 39)))
  replace Bd := hide (Bd.out.of_all (Ext.alloc we (.cells #[.int .i64 c.x, .int .i64 c.y] 39)))
  have H_p : Hid (Blk (we.alloc (.cells #[.int .i64 c.x, .int .i64 c.y] 39)) (we.heap.size) [.int .i64 c.x, .int .i64 c.y]) := Blk.alloc we [.int .i64 c.x, .int .i64 c.y] 39
  have l_p : we.heap.size < (we.alloc (.cells #[.int .i64 c.x, .int .i64 c.y] 39)).heap.size := by simp
  generalize (we.alloc (.cells #[.int .i64 c.x, .int .i64 c.y] 39)) = W30 at *
  generalize we.heap.size = S30 at *
  clear we
  generalize prByte c = F5 at *
  refine (c8.out _).mono ?_
  rintro r w31 ⟨aq5, gq5, cq5, rfl, -, hOq5, hw31, hcq5, -⟩
  replace hw31 : Ext W30 w31 := hw31
  replace H_j := hide (H_j.out.ext (hw31) l_j)
  replace l_j := Nat.lt_of_lt_of_le l_j (Below.size (hw31))
  replace H_p := hide (H_p.out.ext (hw31) l_p)
  replace l_p := Nat.lt_of_lt_of_le l_p (Below.size (hw31))
  replace HB := hide (HB.out.trans (hw31))
  replace Bd := hide (Bd.out.of_all (hw31))
  clear hw31 W30
  obtain rfl := hOq5.at' (by omega)
  have Bq5 := hide hOq5.toBSeg
  clear hOq5
  obtain ⟨T, hTT⟩ : ∃ T, strOfNums (nums F 3) = T := ⟨_, rfl⟩
  have cvD := conv_bytes (cap := cs) Bd.out
  rw [hTT] at cvD
  have cv5 := conv_bytes (cap := cq5) Bq5.out
  rw [nums_congr hback.out, hTT] at cv5
  clear hTT hback hc' hR c8
  go_wp2
  go_ret
  exact ⟨rfl, HB.out⟩

end Go.Proofs.YtcfpmillbdkpcaaDoor
