/- Walk: DrawPointRead of the model: some curve and some bytes. -/
import Derived.Test.YtnhemiaklkkilaaDoorDrawP
import Derived.Test.YtnhemiaklkkilaaDoorCurveB
import Derived.Maps.AppendAt
namespace Go.Proofs.YtnhemiaklkkilaaDoor
set_option linter.unusedVariables false
open Go.RowKit Go.Sort

/-- Some curve, its numbers small, and some few bytes. -/
def GivesDraw (w : World) (e : Ending) (w' : World) : Prop :=
  ∃ p A B N x y a g o m cap F, e = .returned (.tuple #[.agg #[.int .i64 p, .int .i64 A, .int .i64 B, .int .i64 N, .int .i64 x, .int .i64 y], .slice a m cap]) ∧ KBd p A B N ∧ BSeg w' a g o m F ∧ (∀ i, i < m → 0 ≤ F i ∧ F i ≤ 255) ∧ m ≤ 8 ∧ m ≤ cap ∧ Below w.heap.size w w' ∧ (0 < m → w.heap.size ≤ g)

/-- In mid-call: the answer's block, the cursor, the curve's block. -/
structure MidR (w wr : World) (C S : Nat) (a : Option Addr) (b off n cap : Nat) (f : Nat → Int) (p A B N x y : Int) : Prop where
  res : CvF wr w.heap.size 0 0 0 0 0 0
  cv : CvF wr S p A B N x y
  cur : Cur wr C a n cap
  code : Code wr C a b off n f
  below : Below w.heap.size w wr
  hC : w.heap.size < C
  hS : C < S
  hb : 0 < n → b < w.heap.size

section
variable {w wr w1 : World} {C S : Nat} {a : Option Addr} {b off n cap : Nat} {f : Nat → Int} {p A B N x y : Int}

theorem MidR.grow {X : Nat → Prop} (h : MidR w wr C S a b off n cap f p A B N x y) (g : Grw X wr w1) (hX : ∀ k, k ≤ S → k ≠ C → ¬ X k) (hc : Cur w1 C a n cap) : MidR w w1 C S a b off n cap f p A B N x y := by
  have h1 := h.hC; have h2 := h.hS; have h3 := h.hb
  exact ⟨h.res.of_block (g.block _ h.res.lt (hX _ (by omega) (by omega))), h.cv.of_block (g.block _ h.cv.lt (hX _ (by omega) (by omega))), hc, h.code.grw g (fun hn => hX _ (by have := h3 hn; omega) (by have := h3 hn; omega)), h.below.trans (g.below (fun k hk => hX k (by omega) (by omega)) h.below.size), h1, h2, h3⟩

theorem MidR.ext (h : MidR w wr C S a b off n cap f p A B N x y) (e : Ext wr w1) : MidR w w1 C S a b off n cap f p A B N x y := h.grow (X := fun _ => False) (.of_ext e) (fun _ _ _ k => k) (h.cur.ext e)
theorem MidR.grwC (h : MidR w wr C S a b off n cap f p A B N x y) (g : Grw (Cx C) wr w1) (hc : Cur w1 C a n cap) : MidR w w1 C S a b off n cap f p A B N x y := h.grow g (fun _ _ hn e => hn e) hc
theorem MidR.touch (h : MidR w wr C S a b off n cap f p A B N x y) (t : Touch C wr w1) (hc : Cur w1 C a n cap) : MidR w w1 C S a b off n cap f p A B N x y := h.grwC (.of_touch t rfl) hc
theorem MidR.turn {g : Nat} (h : MidR w wr C S a b off n cap f p A B N x y) (t : Touch g wr w1) (hg : S < g) : MidR w w1 C S a b off n cap f p A B N x y := by
  have h2 := h.hS
  refine h.grow (X := fun k => k = g) (.of_touch t rfl) (fun k hk _ e => by omega) (h.cur.of_block (t.grown.block _ h.cur.lt (by simp; omega)))

theorem MidR.done (h : MidR w wr C S a b off n cap f p A B N x y) {a' : Option Addr} {g o m cap' : Nat} {F : Nat → Int} (hk : KBd p A B N) (hs : BSeg wr a' g o m F) (hg : 0 < m → S < g) (hr : ∀ i, i < m → 0 ≤ F i ∧ F i ≤ 255) (hm : m ≤ 8) (hc : m ≤ cap') :
    GivesDraw w (.returned (.tuple #[.agg #[.int .i64 p, .int .i64 A, .int .i64 B, .int .i64 N, .int .i64 x, .int .i64 y], .slice a' m cap'])) (putCv wr w.heap.size p A B N x y) := by
  have h1 := h.hC; have h2 := h.hS
  exact ⟨p, A, B, N, x, y, a', g, o, m, cap', F, rfl, hk, hs.touch (touch_putCv wr w.heap.size p A B N x y) (fun hm => by have := hg hm; omega), hr, hm, hc, below_putCv h.below (Nat.le_refl _) _ _ _ _ _ _, fun hm => by have := hg hm; omega⟩

end

theorem MidR.appended {w wr w4 : World} {C S : Nat} {a : Option Addr} {b off n cap : Nat} {f : Nat → Int} {p A B N x y : Int} {o : Obj} {g : Nat} (h : MidR w wr C S a b off n cap f p A B N x y) (hg : (wr.alloc o).grownBy w4 (some g)) (hS : S < g) : MidR w w4 C S a b off n cap f p A B N x y := by
  have h2 := h.hS
  have k := h.ext (Ext.alloc wr o)
  exact k.grow (X := fun i => i = g) ⟨hg.os, hg.tape, hg.output, hg.size, fun i hi hn => hg.block i hi (by simp; exact hn)⟩ (fun i hi _ e => by omega) (k.cur.of_block (hg.block _ k.cur.lt (by simp; omega)))

theorem byts_app (F : Nat → Int) (m : Nat) (x : Int) : byts F m ++ [.int .u8 x] = byts (fun i => if i = m then x else F i) (m + 1) := by
  rw [byts_succ]
  congr 1
  · unfold byts
    refine List.map_congr_left (fun i hi => ?_)
    have := List.mem_range.1 hi
    simp [show i ≠ m by omega]
  · simp

/-- What lies from base on is kept. -/
theorem owns_keep {w w' : World} {base n : Nat} {v : Value} {xs : List Value} (h : w.ownsRow base 5 1 v n xs) (hk : ∀ k, base ≤ k → k < w.heap.size → w'.heap[k]? = w.heap[k]?) : w'.ownsRow base 5 1 v n xs := by
  refine ⟨h.1, ?_⟩
  rcases h.2 with hn | ⟨g, cap, cur, hv, hb, hg, rest⟩
  · exact .inl hn
  · exact .inr ⟨g, cap, cur, hv, hb, by rw [hk g hb (by
      rcases Nat.lt_or_ge g w.heap.size with k | k
      · exact k
      · rw [Array.getElem?_eq_none k] at hg; cases hg)]; exact hg, rest⟩

theorem bone_cell' (x : Int) : ∀ u ∈ [Value.int .u8 x], u.oneCell' = true := by
  intro u hu
  simp at hu
  subst hu
  rfl

theorem seg_lit8 (w : World) (xs : Array Value) (m : Nat) (g : Nat → Int) (h : ∀ i, i < m → xs[i]? = some (.int .u8 (g i))) : BSeg (w.alloc (.cells xs 5)) (some ⟨w.heap.size, 0, none⟩) w.heap.size 0 m g :=
  ⟨fun _ => rfl, fun i hi => by rw [Nat.zero_add]; exact (World.cell?_alloc_at _ _ _ _ rfl).trans (h i hi)⟩

theorem ptByte_range {P A B N gx gy : Int} {q : Pt} (hc : CvOk P A B N gx gy) (ha : On P.toNat A B q) (sh : Bool) (i : Nat) : 0 ≤ ptByte q sh i ∧ ptByte q sh i ≤ 255 := by
  obtain ⟨⟨x0, x1⟩, y0, y1⟩ := on_range hc ha
  unfold ptByte xb
  repeat' split
  all_goals omega

set_option maxHeartbeats 6400000 in
set_option maxRecDepth 100000 in
theorem drawPointRead_any (a : Option Addr) (b off n cap : Nat) (f : Nat → Int) (w : World) (hs : BSeg w a b off n f) (hB : ∀ i, i < n → 0 ≤ f i ∧ f i ≤ 255) (hn : n ≤ 1048576) :
    Calls Tryd.prog 19 #[.slice a n cap] w fun e w' => GivesDraw w e w' := by
  go_enter Tryd.func19, Tryd.ntmps19
  go_wp2_with fail
  have E0 := Ext.alloc w (.cells #[.int .i64 0, .int .i64 0, .int .i64 0, .int .i64 0, .int .i64 0, .int .i64 0] 25)
  have F0 := CvF.alloc w 0 0 0 0 0 0 25
  refine (l1New_any a b off n cap f _ (hs.of_all E0) hB hn).mono ?_
  rintro e w1 ⟨rfl, hC1, sz1, hw1⟩
  have F1 := F0.of_block (hw1.block _ F0.lt)
  have E1 : Ext w w1 := E0.trans hw1
  simp only [World.size_alloc] at hC1 sz1
  have hK1 : Code w1 (w.heap.size + 1) a b off n f := ⟨hs.of_all E1, hB, fun h => by have := hs.lt h; omega⟩
  clear E0 F0 hw1
  generalize hCn : w.heap.size + 1 = C at *
  go_wp2_with fail
  show Calls Tryd.prog 41 #[.pointer (some ⟨C, 0, none⟩)] w1 _
  refine (l3DrawAny_any C a b off n cap f _ hC1 hK1 hn).mono ?_
  rintro e w2 ⟨p, A, B, N, x, y, rfl, hk, hx, hy, hC2, G2⟩
  have F2 := F1.of_block (G2.block _ F1.lt (by unfold Cx; omega))
  have M2 : Hid (MidR w (w2.alloc (.cells #[.int .i64 p, .int .i64 A, .int .i64 B, .int .i64 N, .int .i64 x, .int .i64 y] 25)) C w2.heap.size a b off n cap f p A B N x y) := ⟨F2.of_block ((Ext.alloc w2 _).block _ F2.lt), CvF.alloc w2 p A B N x y _, hC2.ext (Ext.alloc w2 _), (hK1.grw G2 hK1.ne).ext (Ext.alloc w2 _), (Below.trans E1 ((G2.below (fun k hk => by unfold Cx; omega) (Below.size E1)))).trans ((show Below w2.heap.size w2 _ from Ext.alloc w2 _).mono (by have := G2.size; have := Below.size E1; omega)), by omega, by have := G2.size; omega, fun h => hs.lt h⟩
  clear F1 F2 G2 hC2 hC1 hK1 E1 sz1 hx hy
  go_wp2
  generalize (w2.alloc (.cells #[.int .i64 p, .int .i64 A, .int .i64 B, .int .i64 N, .int .i64 x, .int .i64 y] 25)) = V at *
  generalize w2.heap.size = S at *
  clear w2 w1
  have xS : ¬ Cx C S := by have := M2.out.hS; unfold Cx; omega
  obtain ⟨k0, k1, k2, k3, k4, k5⟩ := M2.out.cv.c
  have e0 := cell_reC k0 xS
  have e1 := cell_reC k1 xS
  have e2 := cell_reC k2 xS
  have e3 := cell_reC k3 xS
  have e4 := cell_reC k4 xS
  have e5 := cell_reC k5 xS
  clear k0 k1 k2 k3 k4 k5 xS
  refine anyK_begin (Cx C) 12 rfl (by kernel_rfl) ?_
  refine anyK_take 0 3 9 rfl (by decide) (by kernel_rfl) (fun _ _ d _ _ h => by cases d <;> exact h) ?_
  repeat (refine headC_step (fun K hK => ?_); go_simp; first | (refine hK _ ?_; clear hK K) | (apply Exists.intro; refine ⟨fun _ => ?_, hK _ ?_⟩; (fail); clear hK K))
  refine headC_nil ?_
  refine anyK_take 4 1 8 rfl (by decide) (by kernel_rfl) (fun _ _ d _ _ h => by cases d <;> exact h) ?_
  repeat (refine headC_step (fun K hK => ?_); go_simp; first | (refine hK _ ?_; clear hK K) | (apply Exists.intro; refine ⟨fun _ => ?_, hK _ ?_⟩; (fail); clear hK K))
  refine headC_nil ?_
  clear e0 e1 e2 e3 e4 e5
  refine anyK_one 3 (by kernel_rfl) ?_
  refine stepK_run rfl ?_
  intro w3' h3 K hKK
  go_simp
  have M3' := M2.out.ext h3
  refine (l3DrawPoint_any C a b off n cap f p A B N x y _ M3'.cur M3'.code hn hk).mono ?_
  rintro e w3 ⟨q, rfl, hC3, G3⟩
  have M3 := hide (M3'.grwC G3 hC3)
  have H3 : Grw (Cx C) V w3 := (Grw.of_ext h3).trans G3
  go_simp
  refine hKK _ _ H3 ?_
  clear hKK K h3 G3 hC3 M3' w3' M2
  refine anyK_one 5 (by kernel_rfl) ?_
  refine stepK_run rfl ?_
  intro w5' h5 K hKK
  go_simp
  have M5' := M3.out.ext h5
  refine (l1Once_any C a b off n cap f 2 _ M5'.cur M5'.code hn (by omega) (by omega)).mono ?_
  rintro e w5 ⟨sh, rfl, hC5, T5⟩
  have M5 := hide (M5'.touch T5 hC5)
  have H5 : Grw (Cx C) V w5 := (H3.trans (.of_ext h5)).trans (.of_touch T5 rfl)
  go_simp
  refine hKK _ _ H5 ?_
  clear hKK K h5 T5 hC5 M5' w5' M3 H3
  refine anyK_one 6 (by kernel_rfl) ?_
  refine stepK_run rfl ?_
  intro w6' h6 K hKK
  go_simp
  have M6' := M5.out.ext h6
  refine (specPointBytes_any p A B N x y q sh _ (by have := hk.p1; omega) (by have := hk.n1; omega)).mono ?_
  rintro e w6 ⟨ok, hok, ab, gb, cb, rfl, hgb, hO, hw6, hcb, hown⟩
  have M6 := hide (M6'.ext hw6)
  have H6 : Grw (Cx C) V w6 := (H5.trans (.of_ext h6)).trans (.of_ext hw6)
  have sB : S < w6'.heap.size := M6'.cv.lt
  have hr : ∀ i, i < ptLen q sh ok → 0 ≤ ptByte q sh i ∧ ptByte q sh i ≤ 255 := fun i hi => by
    cases ok
    · simp [ptLen] at hi
    · exact ptByte_range (hok.1 rfl).1 (hok.1 rfl).2 sh i
  have hm7 : ptLen q sh ok ≤ 7 := by unfold ptLen; (repeat' split) <;> omega
  go_simp
  refine hKK _ _ H6 ?_
  clear hKK K h6 hw6 M6' M5 H5 hok hO hgb
  generalize ptLen q sh ok = m at *
  generalize ptByte q sh = F at *
  generalize w6'.heap.size = base at *
  clear w6'
  replace hown := hide hown
  refine anyK_take 7 5 0 rfl (by decide) (by kernel_rfl) (fun _ _ d _ _ h => by cases d <;> exact h) ?_
  repeat (refine headC_step (fun K hK => ?_); go_simp; first | (refine hK _ ?_; clear hK K) | (apply Exists.intro; refine ⟨fun _ => ?_, hK _ ?_⟩; (fail); clear hK K))
  refine headC_nil ?_
  refine anyK_done (by kernel_rfl) ?_ 0
  intro wz hz
  have MZ := hide (M6.out.ext hz)
  have OZ := hide (owns_keep hown.out (fun k _ hk => hz.block k hk))
  clear hown hz M6 H6 w6
  replace hr := hide hr
  by_cases hm : m = 0
  · subst hm
    obtain ⟨⟨⟨z0, z1, z2, z3, z4, z5⟩, fz⟩, ⟨⟨k0, k1, k2, k3, k4, k5⟩, fk⟩, -, -, -, hC', hS', -⟩ := MZ.out
    go_wp2
    clear z0 z1 z2 z3 z4 z5 fz k0 k1 k2 k3 k4 k5 fk hC' hS'
    obtain ⟨⟨⟨z0, z1, z2, z3, z4, z5⟩, fz⟩, -, -, -, -, -, -, -⟩ := MZ.out
    refine bodyPost_ret (v := .tuple #[.agg #[.int .i64 p, .int .i64 A, .int .i64 B, .int .i64 N, .int .i64 x, .int .i64 y], .slice ab 0 cb]) (by simp [results, Tryd.results19, go_sem, z0, z1, z2, z3, z4, z5]) rfl (MZ.out.done hk (show BSeg _ ab 0 0 0 F from ⟨fun h => absurd h (Nat.lt_irrefl _), fun i hi => absurd hi (Nat.not_lt_zero _)⟩) (fun h => absurd h (Nat.lt_irrefl _)) hr.out (by omega) hcb)
  have hm0 : 0 < m := by omega
  have hmz : (0 : Int) < (m : Int) := by omega
  have hCS : C < S := MZ.out.hS
  obtain ⟨a2, g, c2, hv2, hbg, hBO⟩ := bown_of_owns OZ.out
  cases hv2
  obtain rfl := hBO.at' hm0
  clear hBO
  go_wp2_with fail
  refine (l1Below_any C a b off n cap f 8 _ MZ.out.cur MZ.out.code hn (by omega) (by omega)).mono ?_
  rintro e w3 ⟨d, rfl, d0, d1, hC3, T3⟩
  have M1 := hide (MZ.out.touch T3 hC3)
  have O1 := hide (owns_keep OZ.out (fun k hk hl => T3.grown.block k hl (by simp; omega)))
  clear T3 hC3 MZ OZ
  by_cases c0 : d = 0
  · subst c0
    go_wp2_with fail
    refine (l1Below_any C a b off n cap f (m : Int) _ M1.out.cur M1.out.code hn (by omega) (by omega)).mono ?_
    rintro e w4 ⟨i, rfl, i0, i1, hC3, T3⟩
    have M4 := hide (M1.out.touch T3 hC3)
    have O4 := hide (owns_keep O1.out (fun k hk hl => T3.grown.block k hl (by simp; omega)))
    clear T3 hC3 M1 O1
    go_wp2_with fail
    refine (l1Byte_any C a b off n cap f _ M4.out.cur M4.out.code hn).mono ?_
    rintro e w5 ⟨v, rfl, v0, v1, hC3, T3⟩
    have M5 := hide (M4.out.touch T3 hC3)
    have O5 := hide (owns_keep O4.out (fun k hk hl => T3.grown.block k hl (by simp; omega)))
    clear T3 hC3 M4 O4
    obtain ⟨i, rfl⟩ := Int.eq_ofNat_of_zero_le i0
    have him : i < m := by omega
    have him' : (i : Int) < (m : Int) := by omega
    obtain ⟨a2, g2, c2, hv2, -, hBO⟩ := bown_of_owns O5.out
    cases hv2
    cases hBO.at' hm0
    have M6 := hide (M5.out.turn ((Touch.refl g w5).set i (.int .u8 v)) (by omega))
    have B6 := hBO.set him v
    have cb0 := hBO.cell i him
    have fb0 := hBO.free i him
    simp only [Nat.zero_add] at B6 cb0 fb0
    replace B6 := hide B6
    clear hBO
    obtain ⟨⟨⟨z0, z1, z2, z3, z4, z5⟩, fz⟩, ⟨⟨k0, k1, k2, k3, k4, k5⟩, fk⟩, -, -, -, hC', hS', -⟩ := M5.out
    go_wp2
    clear z0 z1 z2 z3 z4 z5 fz k0 k1 k2 k3 k4 k5 fk hC' hS'
    clear cb0 fb0
    generalize w5.setCell ⟨g, i, none⟩ (.int .u8 v) = W3 at *
    obtain ⟨⟨⟨z0, z1, z2, z3, z4, z5⟩, fz⟩, -, -, -, -, -, -, -⟩ := M6.out
    refine bodyPost_ret (v := .tuple #[.agg #[.int .i64 p, .int .i64 A, .int .i64 B, .int .i64 N, .int .i64 x, .int .i64 y], .slice (some ⟨g, 0, none⟩) m cb]) (by simp [results, Tryd.results19, go_sem, z0, z1, z2, z3, z4, z5]) rfl (M6.out.done hk B6.out.toBSeg (fun _ => by omega) (fun j hj => by show 0 ≤ (if j = i then v else F j) ∧ (if j = i then v else F j) ≤ 255; split; exact ⟨v0, v1⟩; exact hr.out j hj) (by omega) hcb)
  by_cases c1 : d = 1
  · subst c1
    go_wp2_with fail
    refine (l1Below_any C a b off n cap f (m : Int) _ M1.out.cur M1.out.code hn (by omega) (by omega)).mono ?_
    rintro e w4 ⟨i, rfl, i0, i1, hC3, T3⟩
    have M4 := hide (M1.out.touch T3 hC3)
    have O4 := hide (owns_keep O1.out (fun k hk hl => T3.grown.block k hl (by simp; omega)))
    clear T3 hC3 M1 O1
    obtain ⟨i, rfl⟩ := Int.eq_ofNat_of_zero_le i0
    have him : i < m := by omega
    have hic : i ≤ cb := by omega
    obtain ⟨a2, g2, c2, hv2, -, hBO⟩ := bown_of_owns O4.out
    cases hv2
    cases hBO.at' hm0
    have BS := hide (hBO.toBSeg.cut (Nat.le_of_lt him))
    clear hBO
    obtain ⟨⟨⟨z0, z1, z2, z3, z4, z5⟩, fz⟩, ⟨⟨k0, k1, k2, k3, k4, k5⟩, fk⟩, -, -, -, hC', hS', -⟩ := M4.out
    go_wp2
    clear z0 z1 z2 z3 z4 z5 fz k0 k1 k2 k3 k4 k5 fk hC' hS'
    obtain ⟨⟨⟨z0, z1, z2, z3, z4, z5⟩, fz⟩, -, -, -, -, -, -, -⟩ := M4.out
    refine bodyPost_ret (v := .tuple #[.agg #[.int .i64 p, .int .i64 A, .int .i64 B, .int .i64 N, .int .i64 x, .int .i64 y], .slice (some ⟨g, 0, none⟩) i cb]) (by simp [results, Tryd.results19, go_sem, z0, z1, z2, z3, z4, z5]) rfl (M4.out.done hk BS.out (fun _ => by omega) (fun j hj => hr.out j (by omega)) (by omega) hic)
  by_cases c2 : d = 2
  · subst c2
    obtain ⟨i0, hi, hz0, hz1, hz2⟩ := info_parts Tryd.info5
    have hgl : base ≤ w3.heap.size := by
      obtain ⟨a2, g2, c2, hv2, hb2, hB2⟩ := bown_of_owns O1.out
      have := hB2.toBSeg.lt hm0
      omega
    go_wp2_with (at_builtin; (refine wpList_append_own _ rfl _ _ 22 rfl base 5 i0 (.int .u8 0) 1 1 Tryd.underlying22 hi hz0 hz1 hz2 rfl (by decide) _ _ _ rfl (O1.out.alloc _) ⟨w3.heap.size, 0, none⟩ 1 1 [.int .u8 0] rfl rfl (cell_one_new _ _ _) (bone_cell' _) (by unfold maxLen; omega) (by omega) (by simp; omega) ?_); intro v' w4 hown' hgrow hnil; have M4 := hide (M1.out.appended hgrow (show S < g by omega)); obtain ⟨⟨⟨z0, z1, z2, z3, z4, z5⟩, fz⟩, ⟨⟨k0, k1, k2, k3, k4, k5⟩, fk⟩, -, -, -, hC', hS', -⟩ := M4.out)
    clear z0 z1 z2 z3 z4 z5 fz k0 k1 k2 k3 k4 k5 fk hC' hS'
    rw [byts_app] at hown'
    have hc3 := hown'
    obtain ⟨a3, g3, c3, hv3, hb3, hB3⟩ := bown_of_owns hown'
    subst hv3
    replace hc3 := owns_cap hc3
    have BS := hide hB3.toBSeg
    clear hown' hgrow hnil hB3
    obtain ⟨⟨⟨z0, z1, z2, z3, z4, z5⟩, fz⟩, -, -, -, -, -, -, -⟩ := M4.out
    refine bodyPost_ret (v := .tuple #[.agg #[.int .i64 p, .int .i64 A, .int .i64 B, .int .i64 N, .int .i64 x, .int .i64 y], .slice a3 (m + 1) c3]) (by simp [results, Tryd.results19, go_sem, z0, z1, z2, z3, z4, z5]) rfl (M4.out.done hk BS.out (fun _ => by omega) (fun j hj => by show 0 ≤ (if j = m then 0 else F j) ∧ (if j = m then 0 else F j) ≤ 255; split; omega; exact hr.out j (by omega)) (by omega) hc3)
  by_cases c3 : d = 3
  · subst c3
    go_wp2_with fail
    refine (l1Below_any C a b off n cap f 2 _ M1.out.cur M1.out.code hn (by omega) (by omega)).mono ?_
    rintro e w4 ⟨i, rfl, i0, i1, hC3, T3⟩
    have M4 := hide (M1.out.touch T3 hC3)
    have O4 := hide (owns_keep O1.out (fun k hk hl => T3.grown.block k hl (by simp; omega)))
    clear T3 hC3 M1 O1
    go_wp2_with fail
    refine (l1Below_any C a b off n cap f 5 _ M4.out.cur M4.out.code hn (by omega) (by omega)).mono ?_
    rintro e w5 ⟨j, rfl, j0, j1, hC3, T3⟩
    have M5 := hide (M4.out.touch T3 hC3)
    have O5 := hide (owns_keep O4.out (fun k hk hl => T3.grown.block k hl (by simp; omega)))
    clear T3 hC3 M4 O4
    go_wp2_with fail
    refine (l1Byte_any C a b off n cap f _ M5.out.cur M5.out.code hn).mono ?_
    rintro e w6 ⟨v, rfl, v0, v1, hC3, T3⟩
    have M6 := hide (M5.out.touch T3 hC3)
    have O6 := hide (owns_keep O5.out (fun k hk hl => T3.grown.block k hl (by simp; omega)))
    clear T3 hC3 M5 O5
    obtain ⟨G, hG⟩ : ∃ G : Nat → Int, G = fun k => if k = 0 then 2 + i else if k = 1 then 0 else if k = 2 then j else v := ⟨_, rfl⟩
    have BS := seg_lit8 (putCv w6 w.heap.size p A B N x y) #[.int .u8 (2 + i), .int .u8 0, .int .u8 j, .int .u8 v] 4 G (fun k hk => by
      rw [hG]
      have : k = 0 ∨ k = 1 ∨ k = 2 ∨ k = 3 := by omega
      rcases this with rfl | rfl | rfl | rfl <;> rfl)
    rw [size_putCv] at BS
    replace BS := hide BS
    have hGr : Hid (∀ k, k < 4 → 0 ≤ G k ∧ G k ≤ 255) := fun k hk => by
      rw [hG]
      have : k = 0 ∨ k = 1 ∨ k = 2 ∨ k = 3 := by omega
      rcases this with rfl | rfl | rfl | rfl <;> simp <;> omega
    have sG : S < w6.heap.size := M6.out.cv.lt
    have rG : w.heap.size < w6.heap.size := M6.out.res.lt
    clear hG
    obtain ⟨⟨⟨z0, z1, z2, z3, z4, z5⟩, fz⟩, ⟨⟨k0, k1, k2, k3, k4, k5⟩, fk⟩, -, -, -, hC', hS', -⟩ := M6.out
    go_wp2
    clear z0 z1 z2 z3 z4 z5 fz k0 k1 k2 k3 k4 k5 fk hC' hS'
    obtain ⟨⟨⟨z0, z1, z2, z3, z4, z5⟩, fz⟩, -, -, -, -, -, -, -⟩ := M6.out
    refine bodyPost_ret (v := .tuple #[.agg #[.int .i64 p, .int .i64 A, .int .i64 B, .int .i64 N, .int .i64 x, .int .i64 y], .slice (some ⟨w6.heap.size, 0, none⟩) 4 4]) (by simp [results, Tryd.results19, go_sem, z0, z1, z2, z3, z4, z5, rG]) rfl ?_
    exact ⟨p, A, B, N, x, y, some ⟨w6.heap.size, 0, none⟩, w6.heap.size, 0, 4, 4, G, rfl, hk, BS.out, hGr.out, by omega, by omega, (below_putCv M6.out.below (Nat.le_refl _) p A B N x y).alloc (by rw [size_putCv]; exact M6.out.below.size) _, fun _ => M6.out.below.size⟩
  · skip
    obtain ⟨⟨⟨z0, z1, z2, z3, z4, z5⟩, fz⟩, ⟨⟨k0, k1, k2, k3, k4, k5⟩, fk⟩, -, -, -, hC', hS', -⟩ := M1.out
    obtain ⟨a2, g2, c2, hv2, -, hBO⟩ := bown_of_owns O1.out
    cases hv2
    cases hBO.at' hm0
    have BS := hide hBO.toBSeg
    clear hBO
    go_wp2
    clear z0 z1 z2 z3 z4 z5 fz k0 k1 k2 k3 k4 k5 fk hC' hS'
    obtain ⟨⟨⟨z0, z1, z2, z3, z4, z5⟩, fz⟩, -, -, -, -, -, -, -⟩ := M1.out
    refine bodyPost_ret (v := .tuple #[.agg #[.int .i64 p, .int .i64 A, .int .i64 B, .int .i64 N, .int .i64 x, .int .i64 y], .slice (some ⟨g, 0, none⟩) m cb]) (by simp [results, Tryd.results19, go_sem, z0, z1, z2, z3, z4, z5]) rfl (M1.out.done hk BS.out (fun _ => by omega) hr.out (by omega) hcb)

end Go.Proofs.YtnhemiaklkkilaaDoor
