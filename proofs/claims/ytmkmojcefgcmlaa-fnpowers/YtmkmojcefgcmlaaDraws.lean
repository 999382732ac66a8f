/- Walks of the model's draws of naturals: l1DrawNat: some list of ints in new memory; the cursor alone has turned. -/
import Derived.Test.YtmkmojcefgcmlaaCursor
import Derived.Test.YtmkmojcefgcmlaaNormOwns
namespace Go.Proofs.Ytmkmojcefgcmlaa
set_option linter.unusedVariables false
open Go.RowKit

/-- Of what was there only block C may have turned. -/
def Grow (C : Nat) (w w' : World) : Prop := w.grownBy w' (some C)

theorem Grow.refl (C : Nat) (w : World) : Grow C w w := ⟨rfl, rfl, rfl, Nat.le_refl _, fun _ _ _ => rfl⟩

theorem Grow.trans {C : Nat} {w w1 w2 : World} (h : Grow C w w1) (k : Grow C w1 w2) : Grow C w w2 :=
  ⟨k.os.trans h.os, k.tape.trans h.tape, k.output.trans h.output, Nat.le_trans h.size k.size, fun i hi hne => (k.block i (Nat.lt_of_lt_of_le hi h.size) hne).trans (h.block i hi hne)⟩

theorem Grow.touch {C : Nat} {w w1 : World} (h : Touch C w w1) : Grow C w w1 := h.grown

theorem Grow.alloc {C : Nat} {w w1 : World} (h : Grow C w w1) (o : Obj) : Grow C w (w1.alloc o) := Grow.trans h (World.grownBy_alloc w1 o (some C))

/-- A write into a row that came later. -/
theorem Grow.later {C : Nat} {w w1 w2 : World} {row : Option Nat} (h : Grow C w w1) (k : w1.grownBy w2 row) (hr : ∀ j, row = some j → w.heap.size ≤ j) : Grow C w w2 :=
  ⟨k.os.trans h.os, k.tape.trans h.tape, k.output.trans h.output, Nat.le_trans h.size k.size, fun i hi hne => (k.block i (Nat.lt_of_lt_of_le hi h.size) (fun e => by have := hr i e.symm; omega)).trans (h.block i hi hne)⟩

theorem Grow.below {C : Nat} {w w1 : World} (h : Below w.heap.size w w1) : Grow C w w1 := ⟨h.os, h.tape, h.output, h.size, fun i hi _ => h.block i hi⟩

theorem Own.grow {C : Nat} {w w' : World} {a : Option Addr} {g off n : Nat} {f : Nat → Int} (h : Own w a g off n f) (k : Grow C w w') (hne : 0 < n → g ≠ C) : Own w' a g off n f :=
  ⟨⟨h.at', fun i hi => (World.cell?_of_block (a := ⟨g, off + i, none⟩) (k.block g (h.lt (by omega)) (by simp; exact hne (by omega)))).trans (h.cell i hi)⟩,
    fun i hi => (World.frozen?_of_block (a := ⟨g, off + i, none⟩) (k.block g (h.lt (by omega)) (by simp; exact hne (by omega)))).trans (h.free i hi)⟩

/-- The call hands back some list, at most lim long, in new memory; of what was there the cursor alone has turned. -/
def GivesList (w : World) (C : Nat) (c : Option Addr) (n cap : Nat) (lim : Nat) (e : Ending) (w' : World) : Prop :=
  ∃ g cp m f, e = .returned (.slice (some ⟨g, 0, none⟩) m cp) ∧ m ≤ lim ∧ w.heap.size ≤ g ∧ Own w' (some ⟨g, 0, none⟩) g 0 m f ∧ w'.ownsRow w.heap.size 3 1 (.slice (some ⟨g, 0, none⟩) m cp) m (ints f m) ∧ Cur w' C c n cap ∧ Grow C w w'

/-- In mid-draw: j ints are gathered. -/
structure Gather (w wr : World) (C : Nat) (c : Option Addr) (n cap : Nat) (v : Value) (j : Nat) (f : Nat → Int) : Prop where
  own : wr.ownsRow w.heap.size 3 1 v j (ints f j)
  notnil : v ≠ .slice none 0 0
  cur : Cur wr C c n cap
  grow : Grow C w wr

theorem ints_congr {f g : Nat → Int} {n : Nat} (h : ∀ i, i < n → f i = g i) : ints f n = ints g n := by
  unfold ints
  exact List.map_congr_left (fun i hi => by rw [h i (List.mem_range.1 hi)])

theorem gather_step {w wr w1 : World} {C : Nat} {c : Option Addr} {n cap : Nat} {v v' : Value} {j : Nat} {f : Nat → Int} {x : Int} {o : Obj} (h : Gather w wr C c n cap v j f) (hC : C < w.heap.size)
    (hown : w1.ownsRow w.heap.size 3 1 v' (j + 1) (ints f j ++ [.int .i64 x])) (hg : (wr.alloc o).grownBy w1 v.ownBlock) (hv : v' ≠ .slice none 0 0) : Gather w w1 C c n cap v' (j + 1) (fun i => if i = j then x else f i) := by
  have hcb : (wr.alloc o).heap[C]? = wr.heap[C]? := Below.heap_alloc _ _ _ (Nat.lt_of_lt_of_le hC h.grow.size)
  have hlt : ∀ k, v.ownBlock = some k → w.heap.size ≤ k := fun k hk => (h.own.lt k hk).1
  refine ⟨?_, hv, ?_, (h.grow.alloc o).later hg hlt⟩
  · rw [ints_succ, ints_congr (f := fun i => if i = j then x else f i) (g := f) (fun i hi => by simp [show i ≠ j by omega])]
    simpa using hown
  · refine h.cur.of_block ?_
    rw [hg.block C (by have := h.grow.size; simp; omega) (fun e => by have := hlt C e.symm; omega), hcb]

theorem gather_touch {w wr w1 : World} {C : Nat} {c : Option Addr} {n cap : Nat} {v : Value} {j : Nat} {f : Nat → Int} (h : Gather w wr C c n cap v j f) (hC : C < w.heap.size) (k : Grow C wr w1) (hc : Cur w1 C c n cap) : Gather w w1 C c n cap v j f :=
  ⟨h.own.kept k (by
    cases e : v.ownBlock with
    | none => exact .inl rfl
    | some b => exact .inr (by have := (h.own.lt b e).1; simp; omega)), h.notnil, hc, h.grow.trans k⟩

theorem one_cell2 (x : Int) : ∀ u ∈ [Value.int .i64 x], u.oneCell' = true := by
  intro u hu
  simp at hu
  subst hu
  rfl

/-- The row of the numbers that are picked from. -/
theorem four_row (w : World) (x0 x1 x2 x3 : Int) : (w.alloc (.cells #[.int .i64 x0, .int .i64 x1, .int .i64 x2, .int .i64 x3] 3)).rowIs w.heap.size 3 4 (fun j => .int .i64 (if j = 0 then x0 else if j = 1 then x1 else if j = 2 then x2 else x3)) :=
  World.rowIs_alloc w _ 3 _ (fun i hi => by
    have : i = 0 ∨ i = 1 ∨ i = 2 ∨ i = 3 := by simp at hi; omega
    rcases this with rfl | rfl | rfl | rfl <;> rfl)

set_option maxHeartbeats 1600000 in
theorem l1DrawNat_any (C : Nat) (c : Option Addr) (b off n cap : Nat) (fb : Nat → Int) (m : Int) (w : World) (hC : Cur w C c n cap) (hK : Code w C c b off n fb) (hn : n ≤ 1048576) (hm0 : 0 < m) (hm1 : m ≤ 100) (hCw : C < w.heap.size) :
    Calls Try.prog 47 #[.pointer (some ⟨C, 0, none⟩), .int .i64 m] w fun e w' => GivesList w C c n cap 100 e w' := by
  obtain ⟨i0, hi, hz0, hz1, hz2⟩ := info_parts Try.info3
  have hbase := World.ownsRow_made (base := w.heap.size) (e := 3) (size := 1) w #[] 0 (Nat.le_refl _) (by simp) rfl
  have G0 : Gather w (w.alloc (.cells #[] 3)) C c n cap (.slice (some ⟨w.heap.size, 0, none⟩) 0 0) 0 (fun _ => 0) := ⟨hbase, by simp, hC.of_block (Below.heap_alloc _ _ _ hCw), (Grow.refl C w).alloc _⟩
  go_enter Try.func47, Try.ntmps47
  go_wp2_with fail
  refine (l1Below_any C c b off n cap fb m _ G0.cur (hK.grow ((Grow.refl C w).alloc _)) hn hm0 (by omega)).mono ?_
  rintro e w1 ⟨x, rfl, x0, x1, hC1, T1⟩
  have G1 := gather_touch G0 hCw (Grow.touch T1) hC1
  obtain ⟨k0, rfl⟩ := Int.eq_ofNat_of_zero_le x0
  clear G0 hC1 T1 hbase
  go_wp2
  go_loopw [5, 6] (fun v si wr => ∃ (k j : Nat) (f : Nat → Int), k + j = k0 ∧ si = .int .i64 k ∧ Gather w wr C c n cap v j f) (fun _ si _ => (intOf si).toNat)
  case atStart => exact ⟨k0, 0, _, by omega, rfl, G1⟩
  case round =>
    clear G1
    obtain ⟨k, j, f, hkj, rfl, hG⟩ := hrel
    have Hkj : Hid (k + j = k0) := hkj
    have hjk : j ≤ 100 := by omega
    clear hkj
    by_cases h0 : k = 0
    · subst h0
      obtain ⟨gg, cap', hv', hg', hc', hO2⟩ := own_some hG.own hG.notnil
      have hcur := hG.cur
      have hgr := hG.grow
      rw [hv']
      clear hv' hG
      go_wp2_with fail
      refine (l1Norm_owns gg 0 j cap' f _ hO2.toSeg (by omega) hc').mono ?_
      rintro e w2 ⟨g3, cap3, m3, rfl, hm3, hmc, hz, hl, hg3, hO3, hB3, hown3⟩
      have hgr2 := hgr.trans (Grow.below hB3)
      have hcur2 := hcur.of_block (hB3.block C (Nat.lt_of_lt_of_le hCw hgr.size))
      have hge : w.heap.size ≤ g3 := by have := hgr.size; omega
      have hown4 : w2.ownsRow w.heap.size 3 1 (.slice (some ⟨g3, 0, none⟩) m3 cap3) m3 (ints f m3) := by
        refine ⟨hown3.1, ?_⟩
        rcases hown3.2 with h | ⟨g, cp, cur, h1, h2, h3⟩
        · exact .inl h
        · exact .inr ⟨g, cp, cur, h1, by have := hgr.size; omega, h3⟩
      go_wp2
      go_ret
      exact ⟨g3, cap3, m3, f, rfl, by omega, hge, hO3, hown4, hcur2, hgr2⟩
    · obtain ⟨m', rfl⟩ : ∃ m', k = m' + 1 := ⟨k - 1, by omega⟩
      have hpos : (0 : Int) < (m' : Int) + 1 := by omega
      have hm'1 : m' ≤ 100 := by have := Hkj.out; omega
      go_wp2_with fail
      refine (l1Below_any C c b off n cap fb 65536 _ hG.cur (hK.grow hG.grow) hn (by omega) (by omega)).mono ?_
      rintro e w2 ⟨x, rfl, y0, y1, hC2, T2⟩
      have G2 := gather_touch hG hCw (Grow.touch T2) hC2
      clear hG hC2 T2
      go_wp2_with fail
      refine (l1Once_any C c b off n cap fb 6 _ G2.cur (hK.grow G2.grow) hn (by omega) (by omega)).mono ?_
      rintro e w3 ⟨t, rfl, hC3, T3⟩
      have G3 := gather_touch G2 hCw (Grow.touch T3) hC3
      clear G2 hC3 T3
      cases t
      · go_wp2_with (at_builtin; refine wpList_append_own _ rfl _ _ 24 rfl w.heap.size 3 i0 (.int .i64 0) 1 8 Try.underlying24 hi hz0 hz1 hz2 rfl (by decide) _ _ _ rfl (G3.own.alloc _) ⟨w3.heap.size, 0, none⟩ 1 1 [.int .i64 x] rfl rfl (cell_one_new _ _ _) (one_cell2 _) (by unfold maxLen; omega) (by omega) (by have := G3.grow.size; simp; omega) ?_; intro v' w4 hown' hgrow hnil)
        have G4 := gather_step G3 hCw hown' hgrow (fun e => G3.notnil (hnil.1 e).1)
        clear hown' hgrow hnil G3
        go_wp2
        go_roundw
        case rel => exact ⟨m', j + 1, _, by have := Hkj.out; omega, by go_num, G4⟩
        case measure => simp [intOf]
      · have r4 := four_row w3 0 1 65535 32768
        have B4 : Below w3.heap.size w3 (w3.alloc (.cells #[.int .i64 0, .int .i64 1, .int .i64 65535, .int .i64 32768] 3)) := (Below.refl _ _).alloc (Nat.le_refl _) _
        have G4 := gather_touch G3 hCw (Grow.below B4) (G3.cur.of_block (B4.block C (Nat.lt_of_lt_of_le hCw G3.grow.size)))
        have hne : w3.heap.size ≠ C := by have := G3.grow.size; omega
        clear G3 B4
        go_wp2_with fail
        refine (l1PickInt_any C c b off n cap fb _ w3.heap.size 0 4 4 _ _ G4.cur (hK.grow G4.grow) hn (Seg.of_row r4 (Nat.le_refl _)) (by omega) (by omega) hne).mono ?_
        rintro e w5 ⟨y, rfl, hC5, T5⟩
        have G5 := gather_touch G4 hCw (Grow.touch T5) hC5
        clear G4 hC5 T5 r4
        go_wp2_with (at_builtin; refine wpList_append_own _ rfl _ _ 24 rfl w.heap.size 3 i0 (.int .i64 0) 1 8 Try.underlying24 hi hz0 hz1 hz2 rfl (by decide) _ _ _ rfl (G5.own.alloc _) ⟨w5.heap.size, 0, none⟩ 1 1 [.int .i64 y] rfl rfl (cell_one_new _ _ _) (one_cell2 _) (by unfold maxLen; omega) (by omega) (by have := G5.grow.size; simp; omega) ?_; intro v' w6 hown' hgrow hnil)
        have G6 := gather_step G5 hCw hown' hgrow (fun e => G5.notnil (hnil.1 e).1)
        clear hown' hgrow hnil G5
        go_wp2
        go_roundw
        case rel => exact ⟨m', j + 1, _, by have := Hkj.out; omega, by go_num, G6⟩
        case measure => simp [intOf]

set_option maxHeartbeats 1600000 in
theorem l1DrawAny_any (C : Nat) (c : Option Addr) (b off n cap : Nat) (fb : Nat → Int) (w : World) (hC : Cur w C c n cap) (hK : Code w C c b off n fb) (hn : n ≤ 1048576) (hCw : C < w.heap.size) :
    Calls Try.prog 39 #[.pointer (some ⟨C, 0, none⟩)] w fun e w' => ∃ a g cp m f, e = .returned (.slice a m cp) ∧ m ≤ 200 ∧ w.heap.size ≤ g ∧ Own w' a g 0 m f ∧ Cur w' C c n cap ∧ Grow C w w' := by
  obtain ⟨i0, hi, hz0, hz1, hz2⟩ := info_parts Try.info3
  go_enter Try.func39, Try.ntmps39
  go_wp2_with fail
  refine (l1DrawNat_any C c b off n cap fb 7 _ hC hK hn (by omega) (by omega) hCw).mono ?_
  rintro e w1 ⟨g1, cp1, m1, f1, rfl, hm1, hg1, hO1, hown1, hC1, Gr1⟩
  have G1 : Gather w w1 C c n cap (.slice (some ⟨g1, 0, none⟩) m1 cp1) m1 f1 := ⟨hown1, by simp, hC1, Gr1⟩
  clear hO1 hown1 hC1 Gr1
  go_wp2_with fail
  refine (l1Below_any C c b off n cap fb 30 _ G1.cur (hK.grow G1.grow) hn (by omega) (by omega)).mono ?_
  rintro e w2 ⟨x, rfl, x0, x1, hC2, T2⟩
  have G2 := gather_touch G1 hCw (Grow.touch T2) hC2
  clear G1 hC2 T2
  by_cases e0 : x = 0
  · subst e0
    have r4 := four_row w2 0 (-1) 65536 1
    have B4 : Below w2.heap.size w2 (w2.alloc (.cells #[.int .i64 0, .int .i64 (-1), .int .i64 65536, .int .i64 1] 3)) := (Below.refl _ _).alloc (Nat.le_refl _) _
    have G4 := gather_touch G2 hCw (Grow.below B4) (G2.cur.of_block (B4.block C (Nat.lt_of_lt_of_le hCw G2.grow.size)))
    have hne : w2.heap.size ≠ C := by have := G2.grow.size; omega
    clear G2 B4
    go_wp2_with fail
    refine (l1PickInt_any C c b off n cap fb _ w2.heap.size 0 4 4 _ _ G4.cur (hK.grow G4.grow) hn (Seg.of_row r4 (Nat.le_refl _)) (by omega) (by omega) hne).mono ?_
    rintro e w5 ⟨y, rfl, hC5, T5⟩
    have G5 := gather_touch G4 hCw (Grow.touch T5) hC5
    clear G4 hC5 T5 r4
    go_wp2_with (at_builtin; refine wpList_append_own _ rfl _ _ 24 rfl w.heap.size 3 i0 (.int .i64 0) 1 8 Try.underlying24 hi hz0 hz1 hz2 rfl (by decide) _ _ _ rfl (G5.own.alloc _) ⟨w5.heap.size, 0, none⟩ 1 1 [.int .i64 y] rfl rfl (cell_one_new _ _ _) (one_cell2 _) (by unfold maxLen; omega) (by omega) (by have := G5.grow.size; simp; omega) ?_; intro v' w6 hown' hgrow hnil)
    have G6 := gather_step G5 hCw hown' hgrow (fun e => G5.notnil (hnil.1 e).1)
    clear hown' hgrow hnil G5
    obtain ⟨gg, cap', hv', hg', hc', hO2⟩ := own_some G6.own G6.notnil
    have hcur := G6.cur
    have hgr := G6.grow
    rw [hv']
    clear hv' G6
    go_wp2
    go_ret
    exact ⟨_, gg, cap', m1 + 1, _, rfl, by omega, hg', hO2, hcur, hgr⟩
  · have e0' : (x == 0) = false := by simp [e0]
    by_cases e1 : x = 1
    · subst e1
      have hcur := G2.cur
      have hgr := G2.grow
      clear G2
      go_wp2_with fail
      refine (l1Below_any C c b off n cap fb 2 _ hcur (hK.grow hgr) hn (by omega) (by omega)).mono ?_
      rintro e w3 ⟨y, rfl, y0, y1, hC3, T3⟩
      have hgr3 := hgr.trans (Grow.touch T3)
      clear hcur hgr T3
      go_wp2_with fail
      refine (l1Below_any C c b off n cap fb 2 _ hC3 (hK.grow hgr3) hn (by omega) (by omega)).mono ?_
      rintro e w4 ⟨z, rfl, z0, z1, hC4, T4⟩
      have hgr4 := hgr3.trans (Grow.touch T4)
      clear hC3 hgr3 T4
      obtain ⟨k0, hk0⟩ := Int.eq_ofNat_of_zero_le (show 0 ≤ 64 - y + z by omega)
      have hk1 : k0 ≤ 65 := by omega
      go_wp2
      clear hk0
      go_loopw [3, 4] (fun v si wr => ∃ (k j : Nat) (f : Nat → Int), k + j = k0 ∧ si = .int .i64 k ∧ wr.ownsRow w.heap.size 3 1 v j (ints f j) ∧ Cur wr C c n cap ∧ Grow C w wr) (fun _ si _ => (intOf si).toNat)
      case atStart => exact ⟨k0, 0, fun _ => 0, by omega, rfl, World.ownsRow_nil _ _ _ _, hC4, hgr4⟩
      case round =>
        clear hC4 hgr4
        obtain ⟨k, j, f, hkj, rfl, hown, hcr, hgw⟩ := hrel
        have Hkj : Hid (k + j = k0) := hkj
        have hjk : j ≤ 65 := by omega
        clear hkj
        by_cases h0 : k = 0
        · subst h0
          obtain ⟨a', g', cap', hv', hg', hO⟩ := own_of_owns hown
          rw [hv']
          clear hv' hown
          go_wp2
          go_ret
          exact ⟨a', g', cap', j, f, rfl, by omega, hg', hO, hcr, hgw⟩
        · obtain ⟨m', rfl⟩ : ∃ m', k = m' + 1 := ⟨k - 1, by omega⟩
          have hpos : (0 : Int) < (m' : Int) + 1 := by omega
          have hm'1 : m' ≤ 100 := by have := Hkj.out; omega
          go_wp2_with (at_builtin; refine wpList_append_own _ rfl _ _ 24 rfl w.heap.size 3 i0 (.int .i64 0) 1 8 Try.underlying24 hi hz0 hz1 hz2 rfl (by decide) _ _ _ rfl (hown.alloc _) ⟨wr.heap.size, 0, none⟩ 1 1 [.int .i64 65535] rfl rfl (cell_one_new _ _ _) (one_cell2 _) (by unfold maxLen; omega) (by omega) (by have := hgw.size; simp; omega) ?_; intro v' w6 hown' hgrow hnil)
          have hlt : ∀ k, u3.ownBlock = some k → w.heap.size ≤ k := fun k hk => (hown.lt k hk).1
          have hgw' := (hgw.alloc (.cells #[.int .i64 65535] 3)).later hgrow hlt
          have hcr' : Cur w6 C c n cap := by
            refine hcr.of_block ?_
            rw [hgrow.block C (by have := hgw.size; simp; omega) (fun e => by have := hlt C e.symm; omega)]
            exact Below.heap_alloc _ _ _ (Nat.lt_of_lt_of_le hCw hgw.size)
          have hown2 : w6.ownsRow w.heap.size 3 1 v' (j + 1) (ints (fun i => if i = j then 65535 else f i) (j + 1)) := by
            rw [ints_succ, ints_congr (f := fun i => if i = j then 65535 else f i) (g := f) (fun i hi => by simp [show i ≠ j by omega])]
            simpa using hown'
          clear hown' hgrow hnil hown hcr hgw
          go_wp2
          go_roundw
          case rel => exact ⟨m', j + 1, _, by have := Hkj.out; omega, by go_num, hown2, hcr', hgw'⟩
          case measure => simp [intOf]
    · have e1' : (x == 1) = false := by simp [e1]
      obtain ⟨gg, cap', hv', hg', hc', hO2⟩ := own_some G2.own G2.notnil
      simp only [Value.slice.injEq, Option.some.injEq, Addr.mk.injEq] at hv'
      obtain ⟨⟨rfl, -, -⟩, -, rfl⟩ := hv'
      have hcur := G2.cur
      have hgr := G2.grow
      clear G2
      go_wp2
      go_ret
      exact ⟨_, g1, cp1, m1, f1, rfl, by omega, hg', hO2, hcur, hgr⟩

end Go.Proofs.Ytmkmojcefgcmlaa
