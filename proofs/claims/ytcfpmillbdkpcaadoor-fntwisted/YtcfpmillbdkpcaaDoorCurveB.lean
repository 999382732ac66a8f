/- Walks: PointBytes of the model. -/
import Derived.Test.YtcfpmillbdkpcaaDoorCurveK
import Derived.Test.YtcfpmillbdkpcaaDoorCurveY
import Derived.Test.YtcfpmillbdkpcaaDoorSteps
import Derived.Test.YtcfpmillbdkpcaaDoorBLAll
import Derived.Deep.AppendLies
namespace Go.Proofs.YtcfpmillbdkpcaaDoor
set_option linter.unusedVariables false
open Go.RowKit Go.Sort

/-- The i-th of the three bytes of x, the highest first. -/
def xb (x : Int) (i : Nat) : Int := if i = 0 then x / 65536 else if i = 1 then x / 256 % 256 else x % 256

/-- A point's bytes. -/
def ptByte (a : Pt) (short : Bool) (i : Nat) : Int := if a.far then 0 else if short then (if i = 0 then 2 + a.y % 2 else xb a.x (i - 1)) else if i = 0 then 4 else if i ≤ 3 then xb a.x (i - 1) else xb a.y (i - 4)

/-- Their number. -/
def ptLen (a : Pt) (short ok : Bool) : Nat := if ok then (if a.far then 1 else if short then 4 else 7) else 0

/-- The call hands back those bytes in new memory, and ok. -/
def GivesBs (w : World) (m : Nat) (F : Nat → Int) (ok : Bool) (e : Ending) (w' : World) : Prop :=
  ∃ a g cap, e = .returned (.tuple #[.slice a m cap, .bool ok]) ∧ w.heap.size ≤ g ∧ BOwn w' a g 0 m F ∧ Below w.heap.size w w' ∧ m ≤ cap ∧ w'.ownsRow w.heap.size 5 1 (.slice a m cap) m (byts F m)

/-- PointBytes' answer. -/
def GivesPB (P A B N gx gy : Int) (a : Pt) (short : Bool) (w : World) (e : Ending) (w' : World) : Prop :=
  ∃ ok : Bool, (ok = true ↔ CvOk P A B N gx gy ∧ On P.toNat A B a) ∧ GivesBs w (ptLen a short ok) (ptByte a short) ok e w'

/-- A block of bytes lies there. -/
def Lies (w : World) (g : Nat) (xs : Array Value) : Prop := w.heap[g]? = some (.cells xs 5 (0, 0))

theorem Lies.lt {w : World} {g : Nat} {xs : Array Value} (h : Lies w g xs) : g < w.heap.size := by
  rcases Nat.lt_or_ge g w.heap.size with k | k
  · exact k
  · unfold Lies at h; rw [Array.getElem?_eq_none k] at h; cases h
theorem Lies.ext {w w' : World} {g : Nat} {xs : Array Value} (h : Lies w g xs) (hx : Ext w w') : Lies w' g xs := (Below.block hx g h.lt).trans h
theorem Lies.new (w : World) (xs : Array Value) : Lies (w.alloc (.cells xs 5)) w.heap.size xs := heap_alloc_new w _
theorem Lies.owns {w : World} {g : Nat} {xs : Array Value} (h : Lies w g xs) {base n : Nat} (hb : base ≤ g) (hn : xs.size = n) (hm : n ≤ maxLen) : w.ownsRow base 5 1 (.slice (some ⟨g, 0, none⟩) n n) n xs.toList :=
  ⟨by simp [hn], .inr ⟨g, n, xs, rfl, hb, h, Nat.le_refl _, hm, by simp [hn], by rw [Nat.mul_one, ← hn, ← Array.length_toList, List.take_length]⟩⟩
theorem owns_ext {w w' : World} {base g n cap : Nat} {xs : List Value} (h : w.ownsRow base 5 1 (.slice (some ⟨g, 0, none⟩) n cap) n xs) (hx : Ext w w') : w'.ownsRow base 5 1 (.slice (some ⟨g, 0, none⟩) n cap) n xs := by
  refine ⟨h.1, ?_⟩
  rcases h.2 with ⟨hn, _⟩ | ⟨g', cap', cur, hv, hb, hg, rest⟩
  · cases hn
  · refine .inr ⟨g', cap', cur, hv, hb, ?_, rest⟩
    exact Lies.ext (show Lies w g' cur from hg) hx

theorem bown_of_list {w : World} {base : Nat} {v : Value} {n : Nat} {xs : List Value} {f : Nat → Int} (h : w.ownsRow base 5 1 v n xs) (hx : xs = byts f n) : ∃ a g cap, v = .slice a n cap ∧ base ≤ g ∧ BOwn w a g 0 n f := by
  subst hx
  exact bown_of_owns h

theorem owns_mono {w : World} {b b' n : Nat} {v : Value} {xs : List Value} (h : w.ownsRow b 5 1 v n xs) (hb : b' ≤ b) : w.ownsRow b' 5 1 v n xs := by
  refine ⟨h.1, ?_⟩
  rcases h.2 with hn | ⟨g, cap, cur, hv, hg, rest⟩
  · exact .inl hn
  · exact .inr ⟨g, cap, cur, hv, Nat.le_trans hb hg, rest⟩

theorem owns_cap {w : World} {b n cap : Nat} {a : Option Addr} {xs : List Value} (h : w.ownsRow b 5 1 (.slice a n cap) n xs) : n ≤ cap := by
  rcases h.2 with ⟨hv, rfl⟩ | ⟨g, c, cur, hv, _, _, hn, _⟩
  · exact Nat.zero_le _
  · cases hv; exact hn

theorem givesBs_of_owns {w w' : World} {b : Nat} {v : Value} {n : Nat} {xs : List Value} {f : Nat → Int} (h : w'.ownsRow b 5 1 v n xs) (hb : w.heap.size ≤ b) (hx : xs = byts f n) (hB : Below w.heap.size w w') : GivesBs w n f true (.returned (.tuple #[v, .bool true])) w' := by
  subst hx
  obtain ⟨a, g, cap, rfl, hg, hO⟩ := bown_of_owns (owns_mono h hb)
  exact ⟨a, g, cap, rfl, hg, hO, hB, owns_cap h, owns_mono h hb⟩

theorem three_cells (x y z : Int) : ∀ u ∈ [Value.int .u8 x, .int .u8 y, .int .u8 z], u.oneCell' = true := by
  intro u hu
  simp only [List.mem_cons, List.not_mem_nil, or_false] at hu
  rcases hu with rfl | rfl | rfl <;> rfl

theorem on_range {P A B N gx gy : Int} {a : Pt} (hc : CvOk P A B N gx gy) (ha : On P.toNat A B a) : (0 ≤ a.x ∧ a.x ≤ 16777215) ∧ 0 ≤ a.y ∧ a.y ≤ 16777215 := by
  have h1 := hc.p5
  have h2 := hc.pM
  rcases ha with ⟨_, hx, hy⟩ | ⟨_, h⟩
  · omega
  · have := h.x0; have := h.x1; have := h.y0; have := h.y1
    omega

theorem ext_alloc (w : World) (o : Obj) : Ext w (w.alloc o) := (Below.refl _ _).alloc (Nat.le_refl _) _
theorem ext_grown {V w w' : World} {v : Value} {row : Option Nat} (h : Ext V w) (hg : w.grownBy w' row) (hr : ∀ k, row = some k → V.heap.size ≤ k) : Ext V w' := Below.grown h hg (Below.size h) hr

set_option maxHeartbeats 400000 in
theorem l3Three_any (x : Int) (w : World) (x0 : 0 ≤ x) (x1 : x ≤ 16777215) : Calls Tryd.prog 73 #[.int .i64 x] w fun e w' => e = .returned (.slice (some ⟨w.heap.size, 0, none⟩) 3 3) ∧ w' = w.alloc (.cells #[.int .u8 (x / 65536), .int .u8 (x / 256 % 256), .int .u8 (x % 256)] 5) := by
  go_enter Tryd.func73, Tryd.ntmps73
  go_wp2
  go_ret
  exact ⟨rfl, rfl⟩

set_option maxHeartbeats 1600000 in
set_option maxRecDepth 100000 in
theorem specPointBytes_any (P A B N gx gy : Int) (a : Pt) (short : Bool) (w : World) (hP1 : P ≤ 9223372036854775807) (hN1 : N ≤ 9223372036854775807) :
    Calls Tryd.prog 24 #[.agg #[.int .i64 P, .int .i64 A, .int .i64 B, .int .i64 N, .int .i64 gx, .int .i64 gy], .agg #[.int .i64 a.x, .int .i64 a.y, .bool a.far], .bool short] w fun e w' => GivesPB P A B N gx gy a short w e w' := by
  have F0 := Fr2b w P A B N gx gy a 25 27
  have HF0 := hide F0
  go_enter Tryd.func24, Tryd.ntmps24
  obtain ⟨⟨k0, k1, k2, k3, k4, k5⟩, ⟨a0, a1, a2, -, -, -⟩⟩ := F0
  go_wp2_with fail
  refine (specPointOk_any P A B N gx gy a _ hP1 hN1).mono ?_
  rintro r w1 ⟨⟨ok, rfl, h1⟩, hw1⟩
  have K1 := HF0.out.2.below hw1 (by simp)
  have B1 : Below w.heap.size w w1 := (((Below.refl w.heap.size w).alloc (Nat.le_refl _) _).alloc (by simp) _).trans (hw1.mono (by simp <;> omega))
  clear k0 k1 k2 k3 k4 k5 a0 a1 a2 HF0
  cases ok
  · have HG : Hid (∀ e w', GivesBs w 0 (ptByte a short) false e w' → GivesPB P A B N gx gy a short w e w') := fun e w' h => ⟨false, h1, h⟩
    clear h1 K1 hw1
    go_wp2
    go_ret2
    exact HG.out _ _ ⟨_, w1.heap.size, _, rfl, B1.size, BOwn.nil _ _ _ _ _, B1.alloc B1.size _, Nat.zero_le _, (Lies.new w1 #[]).owns B1.size rfl (by decide)⟩
  have hc := h1.1 rfl
  have HG : Hid (∀ e w', GivesBs w (ptLen a short true) (ptByte a short) true e w' → GivesPB P A B N gx gy a short w e w') := fun e w' h => ⟨true, h1, h⟩
  have HB := hide B1
  clear h1 hw1
  obtain ⟨p0, p1, p2, -, -, -⟩ := K1
  cases hf : a.far
  rotate_left
  · have HG : Hid (∀ e w', GivesBs w 1 (fun _ => 0) true e w' → GivesPB P A B N gx gy a short w e w') := fun e w' h => HG.out e w' (by
      have e1 : ptLen a short true = 1 := by simp [ptLen, hf]
      have e2 : ptByte a short = fun _ => 0 := by funext i; simp [ptByte, hf]
      rw [e1, e2]; exact h)
    rw [hf] at p2
    clear hf hc p0 p1 B1
    go_wp2
    go_ret2
    exact HG.out _ _ (givesBs_of_owns (f := fun _ => 0) ((Lies.new w1 #[.int .u8 0]).owns (Nat.le_refl _) rfl (by decide)) HB.out.size rfl (HB.out.alloc HB.out.size _))
  rw [hf] at p2
  have hx := hc.2
  have hx0 : 0 ≤ a.x ∧ a.x ≤ 16777215 := (on_range hc.1 hc.2).1
  have hy0 : 0 ≤ a.y ∧ a.y ≤ 16777215 := (on_range hc.1 hc.2).2
  obtain ⟨x0, x1⟩ := hx0
  obtain ⟨y0, y1⟩ := hy0
  clear hx hc B1
  cases short
  · have HG : Hid (∀ e w', GivesBs w 7 (ptByte a false) true e w' → GivesPB P A B N gx gy a false w e w') := fun e w' h => HG.out e w' (by
      have e1 : ptLen a false true = 7 := by simp [ptLen, hf]
      rw [e1]; exact h)
    have HX : Hid ([Value.int .u8 4] ++ [.int .u8 (a.x / 65536), .int .u8 (a.x / 256 % 256), .int .u8 (a.x % 256)] ++ [.int .u8 (a.y / 65536), .int .u8 (a.y / 256 % 256), .int .u8 (a.y % 256)] = byts (ptByte a false) 7) := by
      show _ = _
      simp [byts, List.range_succ, ptByte, hf, xb]
    clear hf
    have e0 := cell_regrown p0
    have e1 := cell_regrown p1
    clear p0 p1
    go_wp2
    refine anyW_begin 11 rfl (by kernel_rfl) ?_
    refine anyW_take 1 2 9 rfl (by decide) (by kernel_rfl) (fun _ _ d _ _ h => by cases d <;> exact h) ?_
    repeat (refine headS_step (fun K hK => ?_); go_simp; first | (refine hK _ ?_; clear hK K) | (apply Exists.intro; refine ⟨fun _ => ?_, hK _ ?_⟩; (fail); clear hK K))
    refine headS_nil ?_
    refine anyW_take 5 2 7 rfl (by decide) (by kernel_rfl) (fun _ _ d _ _ h => by cases d <;> exact h) ?_
    repeat (refine headS_step (fun K hK => ?_); go_simp; first | (refine hK _ ?_; clear hK K) | (apply Exists.intro; refine ⟨fun _ => ?_, hK _ ?_⟩; (fail); clear hK K))
    refine headS_nil ?_
    clear e0 e1
    obtain ⟨i0, hi, hz0, hz1, hz2⟩ := info_parts Tryd.info5
    refine anyW_two 0 3 (by kernel_rfl) ?_ ?_
    · skip
      refine stepW_run rfl ?_
      intro wa' hwa K hK
      go_simp
      have Ewa := Ext.trans (Ext.refl w1) (Ext.trans hwa (ext_alloc wa' (.cells #[.int .u8 (4)] 5)))
      have Xwa := Ext.trans hwa (ext_alloc wa' (.cells #[.int .u8 (4)] 5))
      have LgA := Lies.new wa' #[.int .u8 (4)]
      have sgA : w1.heap.size ≤ wa'.heap.size := Nat.le_trans (Below.size (Ext.refl w1)) (Below.size hwa)
      refine hK _ _ Ewa ?_
      clear hK K hwa
      generalize wa'.alloc (.cells #[.int .u8 (4)] 5) = wa at *
      generalize wa'.heap.size = gA at *
      clear wa'
      refine anyW_one 3 (by kernel_rfl) ?_
      refine stepW_run rfl ?_
      intro wb' hwb K hK
      go_simp
      have Ewb := Ext.trans (Ewa) (Ext.trans hwb (ext_alloc wb' (.cells #[.int .u8 (a.x / 65536), .int .u8 (a.x / 256 % 256), .int .u8 (a.x % 256)] 5)))
      have Xwb := Ext.trans hwb (ext_alloc wb' (.cells #[.int .u8 (a.x / 65536), .int .u8 (a.x / 256 % 256), .int .u8 (a.x % 256)] 5))
      have LgB := Lies.new wb' #[.int .u8 (a.x / 65536), .int .u8 (a.x / 256 % 256), .int .u8 (a.x % 256)]
      have sgB : w1.heap.size ≤ wb'.heap.size := Nat.le_trans (Below.size (Ewa)) (Below.size hwb)
      refine (l3Three_any a.x _ x0 x1).mono ?_
      rintro r wz ⟨rfl, rfl⟩
      refine hK _ _ Ewb ?_
      clear hK K hwb
      generalize wb'.alloc (.cells #[.int .u8 (a.x / 65536), .int .u8 (a.x / 256 % 256), .int .u8 (a.x % 256)] 5) = wb at *
      generalize wb'.heap.size = gB at *
      clear wb'
      have LgA := LgA.ext Xwb
      refine anyW_one 4 (by kernel_rfl) ?_
      have OgA := LgA.owns (n := 1) sgA rfl (by decide)
      refine stepW_run rfl ?_
      intro wc' hwc K hK
      have swc : w1.heap.size ≤ wc'.heap.size := Nat.le_trans (Below.size (Ewb)) (Below.size hwc)
      refine step_append_lies _ rfl _ _ 22 rfl w1.heap.size 5 i0 (.int .u8 0) 1 1 Tryd.underlying22 hi hz0 hz1 hz2 rfl (by decide) _ 1 [.int .u8 4] rfl (owns_ext OgA hwc) ⟨gB, 0, none⟩ 3 3 [.int .u8 (a.x / 65536), .int .u8 (a.x / 256 % 256), .int .u8 (a.x % 256)] rfl rfl (World.news_of_block (LgB.ext hwc)) (three_cells _ _ _) (by decide) (by decide) (by decide) swc _ rfl ?_
      intro gC capgC wc OgC hgwc hatwc hltwc
      have Ewc : Ext w1 wc := Below.grown (Ext.trans (Ewb) hwc) hgwc swc (fun k e => by obtain rfl := Option.some.inj e; exact sgA)
      refine hK _ _ Ewc ?_
      clear hK K
      have sgC : w1.heap.size ≤ gC := by
        rcases hatwc with e | e
        · obtain rfl := Option.some.inj e; exact sgA
        · rw [e]; exact swc
      refine anyW_one 7 (by kernel_rfl) ?_
      refine stepW_run rfl ?_
      intro wd' hwd K hK
      go_simp
      have Ewd := Ext.trans (Ewc) (Ext.trans hwd (ext_alloc wd' (.cells #[.int .u8 (a.y / 65536), .int .u8 (a.y / 256 % 256), .int .u8 (a.y % 256)] 5)))
      have Xwd := Ext.trans hwd (ext_alloc wd' (.cells #[.int .u8 (a.y / 65536), .int .u8 (a.y / 256 % 256), .int .u8 (a.y % 256)] 5))
      have LgD := Lies.new wd' #[.int .u8 (a.y / 65536), .int .u8 (a.y / 256 % 256), .int .u8 (a.y % 256)]
      have sgD : w1.heap.size ≤ wd'.heap.size := Nat.le_trans (Below.size (Ewc)) (Below.size hwd)
      refine (l3Three_any a.y _ y0 y1).mono ?_
      rintro r wz ⟨rfl, rfl⟩
      refine hK _ _ Ewd ?_
      clear hK K hwd
      generalize wd'.alloc (.cells #[.int .u8 (a.y / 65536), .int .u8 (a.y / 256 % 256), .int .u8 (a.y % 256)] 5) = wd at *
      generalize wd'.heap.size = gD at *
      clear wd'
      have OgC := owns_ext OgC Xwd
      refine anyW_one 8 (by kernel_rfl) ?_
      refine stepW_run rfl ?_
      intro we' hwe K hK
      have swe : w1.heap.size ≤ we'.heap.size := Nat.le_trans (Below.size (Ewd)) (Below.size hwe)
      refine step_append_lies _ rfl _ _ 22 rfl w1.heap.size 5 i0 (.int .u8 0) 1 1 Tryd.underlying22 hi hz0 hz1 hz2 rfl (by decide) _ (1 + 3) ([.int .u8 4] ++ [.int .u8 (a.x / 65536), .int .u8 (a.x / 256 % 256), .int .u8 (a.x % 256)]) rfl (owns_ext OgC hwe) ⟨gD, 0, none⟩ 3 3 [.int .u8 (a.y / 65536), .int .u8 (a.y / 256 % 256), .int .u8 (a.y % 256)] rfl rfl (World.news_of_block (LgD.ext hwe)) (three_cells _ _ _) (by decide) (by decide) (by decide) swe _ rfl ?_
      intro gE capgE we OgE hgwe hatwe hltwe
      have Ewe : Ext w1 we := Below.grown (Ext.trans (Ewd) hwe) hgwe swe (fun k e => by obtain rfl := Option.some.inj e; exact sgC)
      refine hK _ _ Ewe ?_
      clear hK K
      refine anyW_take 9 2 0 rfl (by decide) (by kernel_rfl) (fun _ _ d _ _ h => by cases d <;> exact h) ?_
      repeat (refine headS_step (fun K hK => ?_); go_simp; first | (refine hK _ ?_; clear hK K) | (apply Exists.intro; refine ⟨fun _ => ?_, hK _ ?_⟩; (fail); clear hK K))
      refine headS_nil ?_
      refine anyW_done (by kernel_rfl) ?_ 0
      intro wq hwq
      go_wp2
      go_ret2
      exact HG.out _ _ (givesBs_of_owns (owns_ext OgE hwq) HB.out.size (HX.out) (HB.out.trans ((Ext.trans Ewe hwq : Ext w1 wq).mono HB.out.size)))

    · skip
      refine stepW_run rfl ?_
      intro wa' hwa K hK
      go_simp
      have Ewa := Ext.trans (Ext.refl w1) (Ext.trans hwa (ext_alloc wa' (.cells #[.int .u8 (a.x / 65536), .int .u8 (a.x / 256 % 256), .int .u8 (a.x % 256)] 5)))
      have Xwa := Ext.trans hwa (ext_alloc wa' (.cells #[.int .u8 (a.x / 65536), .int .u8 (a.x / 256 % 256), .int .u8 (a.x % 256)] 5))
      have LgB := Lies.new wa' #[.int .u8 (a.x / 65536), .int .u8 (a.x / 256 % 256), .int .u8 (a.x % 256)]
      have sgB : w1.heap.size ≤ wa'.heap.size := Nat.le_trans (Below.size (Ext.refl w1)) (Below.size hwa)
      refine (l3Three_any a.x _ x0 x1).mono ?_
      rintro r wz ⟨rfl, rfl⟩
      refine hK _ _ Ewa ?_
      clear hK K hwa
      generalize wa'.alloc (.cells #[.int .u8 (a.x / 65536), .int .u8 (a.x / 256 % 256), .int .u8 (a.x % 256)] 5) = wa at *
      generalize wa'.heap.size = gB at *
      clear wa'
      refine anyW_one 0 (by kernel_rfl) ?_
      refine stepW_run rfl ?_
      intro wb' hwb K hK
      go_simp
      have Ewb := Ext.trans (Ewa) (Ext.trans hwb (ext_alloc wb' (.cells #[.int .u8 (4)] 5)))
      have Xwb := Ext.trans hwb (ext_alloc wb' (.cells #[.int .u8 (4)] 5))
      have LgA := Lies.new wb' #[.int .u8 (4)]
      have sgA : w1.heap.size ≤ wb'.heap.size := Nat.le_trans (Below.size (Ewa)) (Below.size hwb)
      refine hK _ _ Ewb ?_
      clear hK K hwb
      generalize wb'.alloc (.cells #[.int .u8 (4)] 5) = wb at *
      generalize wb'.heap.size = gA at *
      clear wb'
      have LgB := LgB.ext Xwb
      refine anyW_one 4 (by kernel_rfl) ?_
      have OgA := LgA.owns (n := 1) sgA rfl (by decide)
      refine stepW_run rfl ?_
      intro wc' hwc K hK
      have swc : w1.heap.size ≤ wc'.heap.size := Nat.le_trans (Below.size (Ewb)) (Below.size hwc)
      refine step_append_lies _ rfl _ _ 22 rfl w1.heap.size 5 i0 (.int .u8 0) 1 1 Tryd.underlying22 hi hz0 hz1 hz2 rfl (by decide) _ 1 [.int .u8 4] rfl (owns_ext OgA hwc) ⟨gB, 0, none⟩ 3 3 [.int .u8 (a.x / 65536), .int .u8 (a.x / 256 % 256), .int .u8 (a.x % 256)] rfl rfl (World.news_of_block (LgB.ext hwc)) (three_cells _ _ _) (by decide) (by decide) (by decide) swc _ rfl ?_
      intro gC capgC wc OgC hgwc hatwc hltwc
      have Ewc : Ext w1 wc := Below.grown (Ext.trans (Ewb) hwc) hgwc swc (fun k e => by obtain rfl := Option.some.inj e; exact sgA)
      refine hK _ _ Ewc ?_
      clear hK K
      have sgC : w1.heap.size ≤ gC := by
        rcases hatwc with e | e
        · obtain rfl := Option.some.inj e; exact sgA
        · rw [e]; exact swc
      refine anyW_one 7 (by kernel_rfl) ?_
      refine stepW_run rfl ?_
      intro wd' hwd K hK
      go_simp
      have Ewd := Ext.trans (Ewc) (Ext.trans hwd (ext_alloc wd' (.cells #[.int .u8 (a.y / 65536), .int .u8 (a.y / 256 % 256), .int .u8 (a.y % 256)] 5)))
      have Xwd := Ext.trans hwd (ext_alloc wd' (.cells #[.int .u8 (a.y / 65536), .int .u8 (a.y / 256 % 256), .int .u8 (a.y % 256)] 5))
      have LgD := Lies.new wd' #[.int .u8 (a.y / 65536), .int .u8 (a.y / 256 % 256), .int .u8 (a.y % 256)]
      have sgD : w1.heap.size ≤ wd'.heap.size := Nat.le_trans (Below.size (Ewc)) (Below.size hwd)
      refine (l3Three_any a.y _ y0 y1).mono ?_
      rintro r wz ⟨rfl, rfl⟩
      refine hK _ _ Ewd ?_
      clear hK K hwd
      generalize wd'.alloc (.cells #[.int .u8 (a.y / 65536), .int .u8 (a.y / 256 % 256), .int .u8 (a.y % 256)] 5) = wd at *
      generalize wd'.heap.size = gD at *
      clear wd'
      have OgC := owns_ext OgC Xwd
      refine anyW_one 8 (by kernel_rfl) ?_
      refine stepW_run rfl ?_
      intro we' hwe K hK
      have swe : w1.heap.size ≤ we'.heap.size := Nat.le_trans (Below.size (Ewd)) (Below.size hwe)
      refine step_append_lies _ rfl _ _ 22 rfl w1.heap.size 5 i0 (.int .u8 0) 1 1 Tryd.underlying22 hi hz0 hz1 hz2 rfl (by decide) _ (1 + 3) ([.int .u8 4] ++ [.int .u8 (a.x / 65536), .int .u8 (a.x / 256 % 256), .int .u8 (a.x % 256)]) rfl (owns_ext OgC hwe) ⟨gD, 0, none⟩ 3 3 [.int .u8 (a.y / 65536), .int .u8 (a.y / 256 % 256), .int .u8 (a.y % 256)] rfl rfl (World.news_of_block (LgD.ext hwe)) (three_cells _ _ _) (by decide) (by decide) (by decide) swe _ rfl ?_
      intro gE capgE we OgE hgwe hatwe hltwe
      have Ewe : Ext w1 we := Below.grown (Ext.trans (Ewd) hwe) hgwe swe (fun k e => by obtain rfl := Option.some.inj e; exact sgC)
      refine hK _ _ Ewe ?_
      clear hK K
      refine anyW_take 9 2 0 rfl (by decide) (by kernel_rfl) (fun _ _ d _ _ h => by cases d <;> exact h) ?_
      repeat (refine headS_step (fun K hK => ?_); go_simp; first | (refine hK _ ?_; clear hK K) | (apply Exists.intro; refine ⟨fun _ => ?_, hK _ ?_⟩; (fail); clear hK K))
      refine headS_nil ?_
      refine anyW_done (by kernel_rfl) ?_ 0
      intro wq hwq
      go_wp2
      go_ret2
      exact HG.out _ _ (givesBs_of_owns (owns_ext OgE hwq) HB.out.size (HX.out) (HB.out.trans ((Ext.trans Ewe hwq : Ext w1 wq).mono HB.out.size)))

  · have HG : Hid (∀ e w', GivesBs w 4 (ptByte a true) true e w' → GivesPB P A B N gx gy a true w e w') := fun e w' h => HG.out e w' (by
      have e1 : ptLen a true true = 4 := by simp [ptLen, hf]
      rw [e1]; exact h)
    have HX : Hid (∀ b0 b1 b2 b3 : Int, b0 = 2 + a.y % 2 → b1 = a.x / 65536 → b2 = a.x / 256 % 256 → b3 = a.x % 256 → [Value.int .u8 b0] ++ [.int .u8 b1, .int .u8 b2, .int .u8 b3] = byts (ptByte a true) 4) := by
      rintro _ _ _ _ rfl rfl rfl rfl
      simp [byts, List.range_succ, ptByte, hf, xb]
    clear hf
    have hw1 : IntKind.u8.wrap (IntKind.i64.wrap (2 + a.y.tmod 2)) = 2 + a.y % 2 := by
      rw [Int.tmod_eq_emod_of_nonneg y0]
      have m0 := Int.emod_nonneg a.y (show (2 : Int) ≠ 0 by decide)
      have m1 := Int.emod_lt_of_pos a.y (show (0 : Int) < 2 by decide)
      generalize a.y % 2 = m at m0 m1
      obtain rfl | rfl : m = 0 ∨ m = 1 := by omega
      · decide
      · decide
    have e0 := cell_regrown p0
    have e1 := cell_regrown p1
    clear p0 p1
    go_wp2
    refine anyW_begin 12 rfl (by kernel_rfl) ?_
    refine anyW_take 0 5 7 rfl (by decide) (by kernel_rfl) (fun _ _ d _ _ h => by cases d <;> exact h) ?_
    repeat (refine headS_step (fun K hK => ?_); go_simp; first | (refine hK _ ?_; clear hK K) | (apply Exists.intro; refine ⟨fun _ => ?_, hK _ ?_⟩; (fail); clear hK K))
    refine headS_nil ?_
    refine anyW_take 6 2 5 rfl (by decide) (by kernel_rfl) (fun _ _ d _ _ h => by cases d <;> exact h) ?_
    repeat (refine headS_step (fun K hK => ?_); go_simp; first | (refine hK _ ?_; clear hK K) | (apply Exists.intro; refine ⟨fun _ => ?_, hK _ ?_⟩; (fail); clear hK K))
    refine headS_nil ?_
    clear e0 e1 hw1
    obtain ⟨i0, hi, hz0, hz1, hz2⟩ := info_parts Tryd.info5
    refine anyW_two 5 8 (by kernel_rfl) ?_ ?_
    · skip
      refine stepW_run rfl ?_
      intro wa' hwa K hK
      go_simp
      have Ewa := Ext.trans (Ext.refl w1) (Ext.trans hwa (ext_alloc wa' (.cells #[.int .u8 (2 + a.y % 2)] 5)))
      have Xwa := Ext.trans hwa (ext_alloc wa' (.cells #[.int .u8 (2 + a.y % 2)] 5))
      have LgA := Lies.new wa' #[.int .u8 (2 + a.y % 2)]
      have sgA : w1.heap.size ≤ wa'.heap.size := Nat.le_trans (Below.size (Ext.refl w1)) (Below.size hwa)
      refine hK _ _ Ewa ?_
      clear hK K hwa
      generalize wa'.alloc (.cells #[.int .u8 (2 + a.y % 2)] 5) = wa at *
      generalize wa'.heap.size = gA at *
      clear wa'
      refine anyW_one 8 (by kernel_rfl) ?_
      refine stepW_run rfl ?_
      intro wb' hwb K hK
      go_simp
      have Ewb := Ext.trans (Ewa) (Ext.trans hwb (ext_alloc wb' (.cells #[.int .u8 (a.x / 65536), .int .u8 (a.x / 256 % 256), .int .u8 (a.x % 256)] 5)))
      have Xwb := Ext.trans hwb (ext_alloc wb' (.cells #[.int .u8 (a.x / 65536), .int .u8 (a.x / 256 % 256), .int .u8 (a.x % 256)] 5))
      have LgB := Lies.new wb' #[.int .u8 (a.x / 65536), .int .u8 (a.x / 256 % 256), .int .u8 (a.x % 256)]
      have sgB : w1.heap.size ≤ wb'.heap.size := Nat.le_trans (Below.size (Ewa)) (Below.size hwb)
      refine (l3Three_any a.x _ x0 x1).mono ?_
      rintro r wz ⟨rfl, rfl⟩
      refine hK _ _ Ewb ?_
      clear hK K hwb
      generalize wb'.alloc (.cells #[.int .u8 (a.x / 65536), .int .u8 (a.x / 256 % 256), .int .u8 (a.x % 256)] 5) = wb at *
      generalize wb'.heap.size = gB at *
      clear wb'
      have LgA := LgA.ext Xwb
      refine anyW_one 9 (by kernel_rfl) ?_
      have OgA := LgA.owns (n := 1) sgA rfl (by decide)
      refine stepW_run rfl ?_
      intro wc' hwc K hK
      have swc : w1.heap.size ≤ wc'.heap.size := Nat.le_trans (Below.size (Ewb)) (Below.size hwc)
      refine step_append_lies _ rfl _ _ 22 rfl w1.heap.size 5 i0 (.int .u8 0) 1 1 Tryd.underlying22 hi hz0 hz1 hz2 rfl (by decide) _ 1 [.int .u8 (2 + a.y % 2)] rfl (owns_ext OgA hwc) ⟨gB, 0, none⟩ 3 3 [.int .u8 (a.x / 65536), .int .u8 (a.x / 256 % 256), .int .u8 (a.x % 256)] rfl rfl (World.news_of_block (LgB.ext hwc)) (three_cells _ _ _) (by decide) (by decide) (by decide) swc _ rfl ?_
      intro gC capgC wc OgC hgwc hatwc hltwc
      have Ewc : Ext w1 wc := Below.grown (Ext.trans (Ewb) hwc) hgwc swc (fun k e => by obtain rfl := Option.some.inj e; exact sgA)
      refine hK _ _ Ewc ?_
      clear hK K
      refine anyW_take 10 2 0 rfl (by decide) (by kernel_rfl) (fun _ _ d _ _ h => by cases d <;> exact h) ?_
      repeat (refine headS_step (fun K hK => ?_); go_simp; first | (refine hK _ ?_; clear hK K) | (apply Exists.intro; refine ⟨fun _ => ?_, hK _ ?_⟩; (fail); clear hK K))
      refine headS_nil ?_
      refine anyW_done (by kernel_rfl) ?_ 0
      intro wq hwq
      go_wp2
      go_ret2
      exact HG.out _ _ (givesBs_of_owns (owns_ext OgC hwq) HB.out.size (HX.out _ _ _ _ rfl rfl rfl rfl) (HB.out.trans ((Ext.trans Ewc hwq : Ext w1 wq).mono HB.out.size)))
    · skip
      refine stepW_run rfl ?_
      intro wa' hwa K hK
      go_simp
      have Ewa := Ext.trans (Ext.refl w1) (Ext.trans hwa (ext_alloc wa' (.cells #[.int .u8 (a.x / 65536), .int .u8 (a.x / 256 % 256), .int .u8 (a.x % 256)] 5)))
      have Xwa := Ext.trans hwa (ext_alloc wa' (.cells #[.int .u8 (a.x / 65536), .int .u8 (a.x / 256 % 256), .int .u8 (a.x % 256)] 5))
      have LgB := Lies.new wa' #[.int .u8 (a.x / 65536), .int .u8 (a.x / 256 % 256), .int .u8 (a.x % 256)]
      have sgB : w1.heap.size ≤ wa'.heap.size := Nat.le_trans (Below.size (Ext.refl w1)) (Below.size hwa)
      refine (l3Three_any a.x _ x0 x1).mono ?_
      rintro r wz ⟨rfl, rfl⟩
      refine hK _ _ Ewa ?_
      clear hK K hwa
      generalize wa'.alloc (.cells #[.int .u8 (a.x / 65536), .int .u8 (a.x / 256 % 256), .int .u8 (a.x % 256)] 5) = wa at *
      generalize wa'.heap.size = gB at *
      clear wa'
      refine anyW_one 5 (by kernel_rfl) ?_
      refine stepW_run rfl ?_
      intro wb' hwb K hK
      go_simp
      have Ewb := Ext.trans (Ewa) (Ext.trans hwb (ext_alloc wb' (.cells #[.int .u8 (2 + a.y % 2)] 5)))
      have Xwb := Ext.trans hwb (ext_alloc wb' (.cells #[.int .u8 (2 + a.y % 2)] 5))
      have LgA := Lies.new wb' #[.int .u8 (2 + a.y % 2)]
      have sgA : w1.heap.size ≤ wb'.heap.size := Nat.le_trans (Below.size (Ewa)) (Below.size hwb)
      refine hK _ _ Ewb ?_
      clear hK K hwb
      generalize wb'.alloc (.cells #[.int .u8 (2 + a.y % 2)] 5) = wb at *
      generalize wb'.heap.size = gA at *
      clear wb'
      have LgB := LgB.ext Xwb
      refine anyW_one 9 (by kernel_rfl) ?_
      have OgA := LgA.owns (n := 1) sgA rfl (by decide)
      refine stepW_run rfl ?_
      intro wc' hwc K hK
      have swc : w1.heap.size ≤ wc'.heap.size := Nat.le_trans (Below.size (Ewb)) (Below.size hwc)
      refine step_append_lies _ rfl _ _ 22 rfl w1.heap.size 5 i0 (.int .u8 0) 1 1 Tryd.underlying22 hi hz0 hz1 hz2 rfl (by decide) _ 1 [.int .u8 (2 + a.y % 2)] rfl (owns_ext OgA hwc) ⟨gB, 0, none⟩ 3 3 [.int .u8 (a.x / 65536), .int .u8 (a.x / 256 % 256), .int .u8 (a.x % 256)] rfl rfl (World.news_of_block (LgB.ext hwc)) (three_cells _ _ _) (by decide) (by decide) (by decide) swc _ rfl ?_
      intro gC capgC wc OgC hgwc hatwc hltwc
      have Ewc : Ext w1 wc := Below.grown (Ext.trans (Ewb) hwc) hgwc swc (fun k e => by obtain rfl := Option.some.inj e; exact sgA)
      refine hK _ _ Ewc ?_
      clear hK K
      refine anyW_take 10 2 0 rfl (by decide) (by kernel_rfl) (fun _ _ d _ _ h => by cases d <;> exact h) ?_
      repeat (refine headS_step (fun K hK => ?_); go_simp; first | (refine hK _ ?_; clear hK K) | (apply Exists.intro; refine ⟨fun _ => ?_, hK _ ?_⟩; (fail); clear hK K))
      refine headS_nil ?_
      refine anyW_done (by kernel_rfl) ?_ 0
      intro wq hwq
      go_wp2
      go_ret2
      exact HG.out _ _ (givesBs_of_owns (owns_ext OgC hwq) HB.out.size (HX.out _ _ _ _ rfl rfl rfl rfl) (HB.out.trans ((Ext.trans Ewc hwq : Ext w1 wq).mono HB.out.size)))

end Go.Proofs.YtcfpmillbdkpcaaDoor
