/- Walks: PointBytes of the model. Walks: the model's key as items. Walks: the model's key as items, of a curve. -/
import Derived.Deep.AppendLies
import Derived.Test.YtnnandjphlajnaaGreatDoorKt01
import Derived.Test.YtnnandjphlajnaaGreatDoorKt10
import Derived.Test.YtnnandjphlajnaaGreatDoorKt33
import Derived.Test.YtnnandjphlajnaaGreatDoorKt02
import Derived.Test.YtnnandjphlajnaaGreatDoorKt05
import Derived.Test.YtnnandjphlajnaaGreatDoorKt18
namespace Go.Proofs.YtnnandjphlajnaaGreatDoor

section
set_option linter.unusedVariables false

open Go.RowKit Go.Sort

/-- The i-th of the three bytes of x, the highest first. -/
def xb (x : Int) (i : Nat) : Int := if i = 0 then x / 65536 else if i = 1 then x / 256 % 256 else x % 256

/-- A point's bytes. -/
def ptByte (a : Pt) (short : Bool) (i : Nat) : Int := if a.far then 0 else if short then (if i = 0 then 2 + a.y % 2 else xb a.x (i - 1)) else if i = 0 then 4 else if i ≤ 3 then xb a.x (i - 1) else xb a.y (i - 4)

/-- Their number. -/
def ptLen (a : Pt) (short ok : Bool) : Nat := if ok then (if a.far then 1 else if short then 4 else 7) else 0

/-- The call hands back those bytes in new memory, and ok. -/
def GivesBt (w : World) (m : Nat) (F : Nat → Int) (ok : Bool) (e : Ending) (w' : World) : Prop :=
  ∃ a g cap, e = .returned (.tuple #[.slice a m cap, .bool ok]) ∧ w.heap.size ≤ g ∧ BOwn w' a g 0 m F ∧ Below w.heap.size w w' ∧ m ≤ cap ∧ w'.ownsRow w.heap.size 5 1 (.slice a m cap) m (byts F m)

/-- PointBytes' answer. -/
def GivesPB (P A B N gx gy : Int) (a : Pt) (short : Bool) (w : World) (e : Ending) (w' : World) : Prop :=
  ∃ ok : Bool, (ok = true ↔ CvOk P A B N gx gy ∧ On P.toNat A B a) ∧ GivesBt w (ptLen a short ok) (ptByte a short) ok e w'

/-- A block of bytes lies there. -/
def Lies (w : World) (g : Nat) (xs : Array Value) : Prop := w.heap[g]? = some (.cells xs 5 (0, 0))

theorem Lies.lt {w : World} {g : Nat} {xs : Array Value} (h : Lies w g xs) : g < w.heap.size := by
  rcases Nat.lt_or_ge g w.heap.size with k | k
  · exact k
  · unfold Lies at h; rw [Array.getElem?_eq_none k] at h; cases h

theorem Lies.ext {w w' : World} {g : Nat} {xs : Array Value} (h : Lies w g xs) (hx : Ext w w') : Lies w' g xs := (Below.block hx g h.lt).trans h

theorem Lies.new (w : World) (xs : Array Value) : Lies (w.alloc (.cells xs 5)) w.heap.size xs := heap_alloc_new w _

theorem Lies.owns {w : World} {g : Nat} {xs : Array Value} (h : Lies w g xs) {base n : Nat} (hb : base ≤ g) (hn : xs.size = n) (hm : n ≤ maxLen) : w.ownsRow base 5 1 (.slice (some ⟨g, 0, none⟩) n n) n xs.toList :=
  ⟨by simp [hn], .inr ⟨g, n, xs, rfl, hb, h, Nat.le_refl _, hm, by simp [hn], by rw [Nat.mul_one, ← hn, ← Array.length_toList, List.take_length]⟩⟩

theorem owns_ext {w w' : World} {base g n cap : Nat} {xs : List Value} (h : w.ownsRow base 5 1 (.slice (some ⟨g, 0, none⟩) n cap) n xs) (hx : Ext w w') : w'.ownsRow base 5 1 (.slice (some ⟨g, 0, none⟩) n cap) n xs := by
  refine ⟨h.1, ?_⟩
  rcases h.2 with ⟨hn, _⟩ | ⟨g', cap', cur, hv, hb, hg, rest⟩
  · cases hn
  · refine .inr ⟨g', cap', cur, hv, hb, ?_, rest⟩
    exact Lies.ext (show Lies w g' cur from hg) hx

theorem owns_monoB {w : World} {b b' n : Nat} {v : Value} {xs : List Value} (h : w.ownsRow b 5 1 v n xs) (hb : b' ≤ b) : w.ownsRow b' 5 1 v n xs := by
  refine ⟨h.1, ?_⟩
  rcases h.2 with hn | ⟨g, cap, cur, hv, hg, rest⟩
  · exact .inl hn
  · exact .inr ⟨g, cap, cur, hv, Nat.le_trans hb hg, rest⟩

theorem owns_cap {w : World} {b n cap : Nat} {a : Option Addr} {xs : List Value} (h : w.ownsRow b 5 1 (.slice a n cap) n xs) : n ≤ cap := by
  rcases h.2 with ⟨hv, rfl⟩ | ⟨g, c, cur, hv, _, _, hn, _⟩
  · exact Nat.zero_le _
  · cases hv; exact hn

theorem givesBs_of_owns {w w' : World} {b : Nat} {v : Value} {n : Nat} {xs : List Value} {f : Nat → Int} (h : w'.ownsRow b 5 1 v n xs) (hb : w.heap.size ≤ b) (hx : xs = byts f n) (hB : Below w.heap.size w w') : GivesBt w n f true (.returned (.tuple #[v, .bool true])) w' := by
  subst hx
  obtain ⟨a, g, cap, rfl, hg, hO⟩ := bown_of_owns (owns_monoB h hb)
  exact ⟨a, g, cap, rfl, hg, hO, hB, owns_cap h, owns_monoB h hb⟩

theorem three_cells (x y z : Int) : ∀ u ∈ [Value.int .u8 x, .int .u8 y, .int .u8 z], u.oneCell' = true := by
  intro u hu
  simp only [List.mem_cons, List.not_mem_nil, or_false] at hu
  rcases hu with rfl | rfl | rfl <;> rfl

theorem on_range {P A B N gx gy : Int} {a : Pt} (hc : CvOk P A B N gx gy) (ha : On P.toNat A B a) : (0 ≤ a.x ∧ a.x ≤ 16777215) ∧ 0 ≤ a.y ∧ a.y ≤ 16777215 := by
  have h1 := hc.p5
  have h2 := hc.pM
  rcases ha with ⟨_, hx, hy⟩ | ⟨_, h⟩
  · omega
  · have := h.x0; have := h.x1; have := h.y0; have := h.y1
    omega

theorem ext_alloc (w : World) (o : Obj) : Ext w (w.alloc o) := (Below.refl _ _).alloc (Nat.le_refl _) _

set_option maxHeartbeats 400000 in
theorem l3Three_any (x : Int) (w : World) (x0 : 0 ≤ x) (x1 : x ≤ 16777215) : Calls Tryz.prog 161 #[.int .i64 x] w fun e w' => e = .returned (.slice (some ⟨w.heap.size, 0, none⟩) 3 3) ∧ w' = w.alloc (.cells #[.int .u8 (x / 65536), .int .u8 (x / 256 % 256), .int .u8 (x % 256)] 5) := by
  go_enter Tryz.func161, Tryz.ntmps161
  go_wp2
  go_ret
  exact ⟨rfl, rfl⟩

set_option maxHeartbeats 1600000 in
set_option maxRecDepth 100000 in
theorem specPointBytes_any (P A B N gx gy : Int) (a : Pt) (short : Bool) (w : World) (hP1 : P ≤ 9223372036854775807) (hN1 : N ≤ 9223372036854775807) :
    Calls Tryz.prog 94 #[.agg #[.int .i64 P, .int .i64 A, .int .i64 B, .int .i64 N, .int .i64 gx, .int .i64 gy], .agg #[.int .i64 a.x, .int .i64 a.y, .bool a.far], .bool short] w fun e w' => GivesPB P A B N gx gy a short w e w' := by
  have F0 := Fr2b w P A B N gx gy a 37 38
  have HF0 := hide F0
  go_enter Tryz.func94, Tryz.ntmps94
  obtain ⟨⟨k0, k1, k2, k3, k4, k5⟩, ⟨a0, a1, a2, -, -, -⟩⟩ := F0
  go_wp2_with fail
  refine (specPointOk_any P A B N gx gy a _ hP1 hN1).mono ?_
  rintro r w1 ⟨⟨ok, rfl, h1⟩, hw1⟩
  have K1 := HF0.out.2.below hw1 (by simp)
  have B1 : Below w.heap.size w w1 := (((Below.refl w.heap.size w).alloc (Nat.le_refl _) _).alloc (by simp) _).trans (hw1.mono (by simp <;> omega))
  clear k0 k1 k2 k3 k4 k5 a0 a1 a2 HF0
  cases ok
  · have HG : Hid (∀ e w', GivesBt w 0 (ptByte a short) false e w' → GivesPB P A B N gx gy a short w e w') := fun e w' h => ⟨false, h1, h⟩
    clear h1 K1 hw1
    go_wp2
    go_ret2
    exact HG.out _ _ ⟨_, w1.heap.size, _, rfl, B1.size, BOwn.nil _ _ _ _ _, B1.alloc B1.size _, Nat.zero_le _, (Lies.new w1 #[]).owns B1.size rfl (by decide)⟩
  have hc := h1.1 rfl
  have HG : Hid (∀ e w', GivesBt w (ptLen a short true) (ptByte a short) true e w' → GivesPB P A B N gx gy a short w e w') := fun e w' h => ⟨true, h1, h⟩
  have HB := hide B1
  clear h1 hw1
  obtain ⟨p0, p1, p2, -, -, -⟩ := K1
  cases hf : a.far
  rotate_left
  · have HG : Hid (∀ e w', GivesBt w 1 (fun _ => 0) true e w' → GivesPB P A B N gx gy a short w e w') := fun e w' h => HG.out e w' (by
      have e1 : ptLen a short true = 1 := by simp [ptLen, hf]
      have e2 : ptByte a short = fun _ => 0 := by funext i; simp [ptByte, hf]
      rw [e1, e2]; exact h)
    rw [hf] at p2
    clear hf hc p0 p1 B1
    go_wp2
    go_ret2
    exact HG.out _ _ (givesBs_of_owns (f := fun _ => 0) ((Lies.new w1 #[.int .u8 0]).owns (Nat.le_refl _) rfl (by decide)) HB.out.size rfl (HB.out.alloc HB.out.size _))
  rw [hf] at p2
  have hx := hc.2
  have hx0 : 0 ≤ a.x ∧ a.x ≤ 16777215 := (on_range hc.1 hc.2).1
  have hy0 : 0 ≤ a.y ∧ a.y ≤ 16777215 := (on_range hc.1 hc.2).2
  obtain ⟨x0, x1⟩ := hx0
  obtain ⟨y0, y1⟩ := hy0
  clear hx hc B1
  cases short
  · have HG : Hid (∀ e w', GivesBt w 7 (ptByte a false) true e w' → GivesPB P A B N gx gy a false w e w') := fun e w' h => HG.out e w' (by
      have e1 : ptLen a false true = 7 := by simp [ptLen, hf]
      rw [e1]; exact h)
    have HX : Hid ([Value.int .u8 4] ++ [.int .u8 (a.x / 65536), .int .u8 (a.x / 256 % 256), .int .u8 (a.x % 256)] ++ [.int .u8 (a.y / 65536), .int .u8 (a.y / 256 % 256), .int .u8 (a.y % 256)] = byts (ptByte a false) 7) := by
      show _ = _
      simp [byts, List.range_succ, ptByte, hf, xb]
    clear hf
    have e0 := cell_regrown p0
    have e1 := cell_regrown p1
    clear p0 p1
    go_wp2
    refine anyW_begin 11 rfl (by kernel_rfl) ?_
    refine anyW_take 1 2 9 rfl (by decide) (by kernel_rfl) (fun _ _ d _ _ h => by cases d <;> exact h) ?_
    repeat (refine headS_step (fun K hK => ?_); go_simp; first | (refine hK _ ?_; clear hK K) | (apply Exists.intro; refine ⟨fun _ => ?_, hK _ ?_⟩; (fail); clear hK K))
    refine headS_nil ?_
    refine anyW_take 5 2 7 rfl (by decide) (by kernel_rfl) (fun _ _ d _ _ h => by cases d <;> exact h) ?_
    repeat (refine headS_step (fun K hK => ?_); go_simp; first | (refine hK _ ?_; clear hK K) | (apply Exists.intro; refine ⟨fun _ => ?_, hK _ ?_⟩; (fail); clear hK K))
    refine headS_nil ?_
    clear e0 e1
    obtain ⟨i0, hi, hz0, hz1, hz2⟩ := info_parts Tryz.info5
    refine anyW_two 0 3 (by kernel_rfl) ?_ ?_
    · skip
      refine stepW_run rfl ?_
      intro wa' hwa K hK
      go_simp
      have Ewa := Ext.trans (Ext.refl w1) (Ext.trans hwa (ext_alloc wa' (.cells #[.int .u8 (4)] 5)))
      have Xwa := Ext.trans hwa (ext_alloc wa' (.cells #[.int .u8 (4)] 5))
      have LgA := Lies.new wa' #[.int .u8 (4)]
      have sgA : w1.heap.size ≤ wa'.heap.size := Nat.le_trans (Below.size (Ext.refl w1)) (Below.size hwa)
      refine hK _ _ Ewa ?_
      clear hK K hwa
      generalize wa'.alloc (.cells #[.int .u8 (4)] 5) = wa at *
      generalize wa'.heap.size = gA at *
      clear wa'
      refine anyW_one 3 (by kernel_rfl) ?_
      refine stepW_run rfl ?_
      intro wb' hwb K hK
      go_simp
      have Ewb := Ext.trans (Ewa) (Ext.trans hwb (ext_alloc wb' (.cells #[.int .u8 (a.x / 65536), .int .u8 (a.x / 256 % 256), .int .u8 (a.x % 256)] 5)))
      have Xwb := Ext.trans hwb (ext_alloc wb' (.cells #[.int .u8 (a.x / 65536), .int .u8 (a.x / 256 % 256), .int .u8 (a.x % 256)] 5))
      have LgB := Lies.new wb' #[.int .u8 (a.x / 65536), .int .u8 (a.x / 256 % 256), .int .u8 (a.x % 256)]
      have sgB : w1.heap.size ≤ wb'.heap.size := Nat.le_trans (Below.size (Ewa)) (Below.size hwb)
      refine (l3Three_any a.x _ x0 x1).mono ?_
      rintro r wz ⟨rfl, rfl⟩
      refine hK _ _ Ewb ?_
      clear hK K hwb
      generalize wb'.alloc (.cells #[.int .u8 (a.x / 65536), .int .u8 (a.x / 256 % 256), .int .u8 (a.x % 256)] 5) = wb at *
      generalize wb'.heap.size = gB at *
      clear wb'
      have LgA := LgA.ext Xwb
      refine anyW_one 4 (by kernel_rfl) ?_
      have OgA := LgA.owns (n := 1) sgA rfl (by decide)
      refine stepW_run rfl ?_
      intro wc' hwc K hK
      have swc : w1.heap.size ≤ wc'.heap.size := Nat.le_trans (Below.size (Ewb)) (Below.size hwc)
      refine step_append_lies _ rfl _ _ 53 rfl w1.heap.size 5 i0 (.int .u8 0) 1 1 Tryz.underlying53 hi hz0 hz1 hz2 rfl (by decide) _ 1 [.int .u8 4] rfl (owns_ext OgA hwc) ⟨gB, 0, none⟩ 3 3 [.int .u8 (a.x / 65536), .int .u8 (a.x / 256 % 256), .int .u8 (a.x % 256)] rfl rfl (World.news_of_block (LgB.ext hwc)) (three_cells _ _ _) (by decide) (by decide) (by decide) swc _ rfl ?_
      intro gC capgC wc OgC hgwc hatwc hltwc
      have Ewc : Ext w1 wc := Below.grown (Ext.trans (Ewb) hwc) hgwc swc (fun k e => by obtain rfl := Option.some.inj e; exact sgA)
      refine hK _ _ Ewc ?_
      clear hK K
      have sgC : w1.heap.size ≤ gC := by
        rcases hatwc with e | e
        · obtain rfl := Option.some.inj e; exact sgA
        · rw [e]; exact swc
      refine anyW_one 7 (by kernel_rfl) ?_
      refine stepW_run rfl ?_
      intro wd' hwd K hK
      go_simp
      have Ewd := Ext.trans (Ewc) (Ext.trans hwd (ext_alloc wd' (.cells #[.int .u8 (a.y / 65536), .int .u8 (a.y / 256 % 256), .int .u8 (a.y % 256)] 5)))
      have Xwd := Ext.trans hwd (ext_alloc wd' (.cells #[.int .u8 (a.y / 65536), .int .u8 (a.y / 256 % 256), .int .u8 (a.y % 256)] 5))
      have LgD := Lies.new wd' #[.int .u8 (a.y / 65536), .int .u8 (a.y / 256 % 256), .int .u8 (a.y % 256)]
      have sgD : w1.heap.size ≤ wd'.heap.size := Nat.le_trans (Below.size (Ewc)) (Below.size hwd)
      refine (l3Three_any a.y _ y0 y1).mono ?_
      rintro r wz ⟨rfl, rfl⟩
      refine hK _ _ Ewd ?_
      clear hK K hwd
      generalize wd'.alloc (.cells #[.int .u8 (a.y / 65536), .int .u8 (a.y / 256 % 256), .int .u8 (a.y % 256)] 5) = wd at *
      generalize wd'.heap.size = gD at *
      clear wd'
      have OgC := owns_ext OgC Xwd
      refine anyW_one 8 (by kernel_rfl) ?_
      refine stepW_run rfl ?_
      intro we' hwe K hK
      have swe : w1.heap.size ≤ we'.heap.size := Nat.le_trans (Below.size (Ewd)) (Below.size hwe)
      refine step_append_lies _ rfl _ _ 53 rfl w1.heap.size 5 i0 (.int .u8 0) 1 1 Tryz.underlying53 hi hz0 hz1 hz2 rfl (by decide) _ (1 + 3) ([.int .u8 4] ++ [.int .u8 (a.x / 65536), .int .u8 (a.x / 256 % 256), .int .u8 (a.x % 256)]) rfl (owns_ext OgC hwe) ⟨gD, 0, none⟩ 3 3 [.int .u8 (a.y / 65536), .int .u8 (a.y / 256 % 256), .int .u8 (a.y % 256)] rfl rfl (World.news_of_block (LgD.ext hwe)) (three_cells _ _ _) (by decide) (by decide) (by decide) swe _ rfl ?_
      intro gE capgE we OgE hgwe hatwe hltwe
      have Ewe : Ext w1 we := Below.grown (Ext.trans (Ewd) hwe) hgwe swe (fun k e => by obtain rfl := Option.some.inj e; exact sgC)
      refine hK _ _ Ewe ?_
      clear hK K
      refine anyW_take 9 2 0 rfl (by decide) (by kernel_rfl) (fun _ _ d _ _ h => by cases d <;> exact h) ?_
      repeat (refine headS_step (fun K hK => ?_); go_simp; first | (refine hK _ ?_; clear hK K) | (apply Exists.intro; refine ⟨fun _ => ?_, hK _ ?_⟩; (fail); clear hK K))
      refine headS_nil ?_
      refine anyW_done (by kernel_rfl) ?_ 0
      intro wq hwq
      go_wp2
      go_ret2
      exact HG.out _ _ (givesBs_of_owns (owns_ext OgE hwq) HB.out.size (HX.out) (HB.out.trans ((Ext.trans Ewe hwq : Ext w1 wq).mono HB.out.size)))

    · skip
      refine stepW_run rfl ?_
      intro wa' hwa K hK
      go_simp
      have Ewa := Ext.trans (Ext.refl w1) (Ext.trans hwa (ext_alloc wa' (.cells #[.int .u8 (a.x / 65536), .int .u8 (a.x / 256 % 256), .int .u8 (a.x % 256)] 5)))
      have Xwa := Ext.trans hwa (ext_alloc wa' (.cells #[.int .u8 (a.x / 65536), .int .u8 (a.x / 256 % 256), .int .u8 (a.x % 256)] 5))
      have LgB := Lies.new wa' #[.int .u8 (a.x / 65536), .int .u8 (a.x / 256 % 256), .int .u8 (a.x % 256)]
      have sgB : w1.heap.size ≤ wa'.heap.size := Nat.le_trans (Below.size (Ext.refl w1)) (Below.size hwa)
      refine (l3Three_any a.x _ x0 x1).mono ?_
      rintro r wz ⟨rfl, rfl⟩
      refine hK _ _ Ewa ?_
      clear hK K hwa
      generalize wa'.alloc (.cells #[.int .u8 (a.x / 65536), .int .u8 (a.x / 256 % 256), .int .u8 (a.x % 256)] 5) = wa at *
      generalize wa'.heap.size = gB at *
      clear wa'
      refine anyW_one 0 (by kernel_rfl) ?_
      refine stepW_run rfl ?_
      intro wb' hwb K hK
      go_simp
      have Ewb := Ext.trans (Ewa) (Ext.trans hwb (ext_alloc wb' (.cells #[.int .u8 (4)] 5)))
      have Xwb := Ext.trans hwb (ext_alloc wb' (.cells #[.int .u8 (4)] 5))
      have LgA := Lies.new wb' #[.int .u8 (4)]
      have sgA : w1.heap.size ≤ wb'.heap.size := Nat.le_trans (Below.size (Ewa)) (Below.size hwb)
      refine hK _ _ Ewb ?_
      clear hK K hwb
      generalize wb'.alloc (.cells #[.int .u8 (4)] 5) = wb at *
      generalize wb'.heap.size = gA at *
      clear wb'
      have LgB := LgB.ext Xwb
      refine anyW_one 4 (by kernel_rfl) ?_
      have OgA := LgA.owns (n := 1) sgA rfl (by decide)
      refine stepW_run rfl ?_
      intro wc' hwc K hK
      have swc : w1.heap.size ≤ wc'.heap.size := Nat.le_trans (Below.size (Ewb)) (Below.size hwc)
      refine step_append_lies _ rfl _ _ 53 rfl w1.heap.size 5 i0 (.int .u8 0) 1 1 Tryz.underlying53 hi hz0 hz1 hz2 rfl (by decide) _ 1 [.int .u8 4] rfl (owns_ext OgA hwc) ⟨gB, 0, none⟩ 3 3 [.int .u8 (a.x / 65536), .int .u8 (a.x / 256 % 256), .int .u8 (a.x % 256)] rfl rfl (World.news_of_block (LgB.ext hwc)) (three_cells _ _ _) (by decide) (by decide) (by decide) swc _ rfl ?_
      intro gC capgC wc OgC hgwc hatwc hltwc
      have Ewc : Ext w1 wc := Below.grown (Ext.trans (Ewb) hwc) hgwc swc (fun k e => by obtain rfl := Option.some.inj e; exact sgA)
      refine hK _ _ Ewc ?_
      clear hK K
      have sgC : w1.heap.size ≤ gC := by
        rcases hatwc with e | e
        · obtain rfl := Option.some.inj e; exact sgA
        · rw [e]; exact swc
      refine anyW_one 7 (by kernel_rfl) ?_
      refine stepW_run rfl ?_
      intro wd' hwd K hK
      go_simp
      have Ewd := Ext.trans (Ewc) (Ext.trans hwd (ext_alloc wd' (.cells #[.int .u8 (a.y / 65536), .int .u8 (a.y / 256 % 256), .int .u8 (a.y % 256)] 5)))
      have Xwd := Ext.trans hwd (ext_alloc wd' (.cells #[.int .u8 (a.y / 65536), .int .u8 (a.y / 256 % 256), .int .u8 (a.y % 256)] 5))
      have LgD := Lies.new wd' #[.int .u8 (a.y / 65536), .int .u8 (a.y / 256 % 256), .int .u8 (a.y % 256)]
      have sgD : w1.heap.size ≤ wd'.heap.size := Nat.le_trans (Below.size (Ewc)) (Below.size hwd)
      refine (l3Three_any a.y _ y0 y1).mono ?_
      rintro r wz ⟨rfl, rfl⟩
      refine hK _ _ Ewd ?_
      clear hK K hwd
      generalize wd'.alloc (.cells #[.int .u8 (a.y / 65536), .int .u8 (a.y / 256 % 256), .int .u8 (a.y % 256)] 5) = wd at *
      generalize wd'.heap.size = gD at *
      clear wd'
      have OgC := owns_ext OgC Xwd
      refine anyW_one 8 (by kernel_rfl) ?_
      refine stepW_run rfl ?_
      intro we' hwe K hK
      have swe : w1.heap.size ≤ we'.heap.size := Nat.le_trans (Below.size (Ewd)) (Below.size hwe)
      refine step_append_lies _ rfl _ _ 53 rfl w1.heap.size 5 i0 (.int .u8 0) 1 1 Tryz.underlying53 hi hz0 hz1 hz2 rfl (by decide) _ (1 + 3) ([.int .u8 4] ++ [.int .u8 (a.x / 65536), .int .u8 (a.x / 256 % 256), .int .u8 (a.x % 256)]) rfl (owns_ext OgC hwe) ⟨gD, 0, none⟩ 3 3 [.int .u8 (a.y / 65536), .int .u8 (a.y / 256 % 256), .int .u8 (a.y % 256)] rfl rfl (World.news_of_block (LgD.ext hwe)) (three_cells _ _ _) (by decide) (by decide) (by decide) swe _ rfl ?_
      intro gE capgE we OgE hgwe hatwe hltwe
      have Ewe : Ext w1 we := Below.grown (Ext.trans (Ewd) hwe) hgwe swe (fun k e => by obtain rfl := Option.some.inj e; exact sgC)
      refine hK _ _ Ewe ?_
      clear hK K
      refine anyW_take 9 2 0 rfl (by decide) (by kernel_rfl) (fun _ _ d _ _ h => by cases d <;> exact h) ?_
      repeat (refine headS_step (fun K hK => ?_); go_simp; first | (refine hK _ ?_; clear hK K) | (apply Exists.intro; refine ⟨fun _ => ?_, hK _ ?_⟩; (fail); clear hK K))
      refine headS_nil ?_
      refine anyW_done (by kernel_rfl) ?_ 0
      intro wq hwq
      go_wp2
      go_ret2
      exact HG.out _ _ (givesBs_of_owns (owns_ext OgE hwq) HB.out.size (HX.out) (HB.out.trans ((Ext.trans Ewe hwq : Ext w1 wq).mono HB.out.size)))

  · have HG : Hid (∀ e w', GivesBt w 4 (ptByte a true) true e w' → GivesPB P A B N gx gy a true w e w') := fun e w' h => HG.out e w' (by
      have e1 : ptLen a true true = 4 := by simp [ptLen, hf]
      rw [e1]; exact h)
    have HX : Hid (∀ b0 b1 b2 b3 : Int, b0 = 2 + a.y % 2 → b1 = a.x / 65536 → b2 = a.x / 256 % 256 → b3 = a.x % 256 → [Value.int .u8 b0] ++ [.int .u8 b1, .int .u8 b2, .int .u8 b3] = byts (ptByte a true) 4) := by
      rintro _ _ _ _ rfl rfl rfl rfl
      simp [byts, List.range_succ, ptByte, hf, xb]
    clear hf
    have hw1 : IntKind.u8.wrap (IntKind.i64.wrap (2 + a.y.tmod 2)) = 2 + a.y % 2 := by
      rw [Int.tmod_eq_emod_of_nonneg y0]
      have m0 := Int.emod_nonneg a.y (show (2 : Int) ≠ 0 by decide)
      have m1 := Int.emod_lt_of_pos a.y (show (0 : Int) < 2 by decide)
      generalize a.y % 2 = m at m0 m1
      obtain rfl | rfl : m = 0 ∨ m = 1 := by omega
      · decide
      · decide
    have e0 := cell_regrown p0
    have e1 := cell_regrown p1
    clear p0 p1
    go_wp2
    refine anyW_begin 12 rfl (by kernel_rfl) ?_
    refine anyW_take 0 5 7 rfl (by decide) (by kernel_rfl) (fun _ _ d _ _ h => by cases d <;> exact h) ?_
    repeat (refine headS_step (fun K hK => ?_); go_simp; first | (refine hK _ ?_; clear hK K) | (apply Exists.intro; refine ⟨fun _ => ?_, hK _ ?_⟩; (fail); clear hK K))
    refine headS_nil ?_
    refine anyW_take 6 2 5 rfl (by decide) (by kernel_rfl) (fun _ _ d _ _ h => by cases d <;> exact h) ?_
    repeat (refine headS_step (fun K hK => ?_); go_simp; first | (refine hK _ ?_; clear hK K) | (apply Exists.intro; refine ⟨fun _ => ?_, hK _ ?_⟩; (fail); clear hK K))
    refine headS_nil ?_
    clear e0 e1 hw1
    obtain ⟨i0, hi, hz0, hz1, hz2⟩ := info_parts Tryz.info5
    refine anyW_two 5 8 (by kernel_rfl) ?_ ?_
    · skip
      refine stepW_run rfl ?_
      intro wa' hwa K hK
      go_simp
      have Ewa := Ext.trans (Ext.refl w1) (Ext.trans hwa (ext_alloc wa' (.cells #[.int .u8 (2 + a.y % 2)] 5)))
      have Xwa := Ext.trans hwa (ext_alloc wa' (.cells #[.int .u8 (2 + a.y % 2)] 5))
      have LgA := Lies.new wa' #[.int .u8 (2 + a.y % 2)]
      have sgA : w1.heap.size ≤ wa'.heap.size := Nat.le_trans (Below.size (Ext.refl w1)) (Below.size hwa)
      refine hK _ _ Ewa ?_
      clear hK K hwa
      generalize wa'.alloc (.cells #[.int .u8 (2 + a.y % 2)] 5) = wa at *
      generalize wa'.heap.size = gA at *
      clear wa'
      refine anyW_one 8 (by kernel_rfl) ?_
      refine stepW_run rfl ?_
      intro wb' hwb K hK
      go_simp
      have Ewb := Ext.trans (Ewa) (Ext.trans hwb (ext_alloc wb' (.cells #[.int .u8 (a.x / 65536), .int .u8 (a.x / 256 % 256), .int .u8 (a.x % 256)] 5)))
      have Xwb := Ext.trans hwb (ext_alloc wb' (.cells #[.int .u8 (a.x / 65536), .int .u8 (a.x / 256 % 256), .int .u8 (a.x % 256)] 5))
      have LgB := Lies.new wb' #[.int .u8 (a.x / 65536), .int .u8 (a.x / 256 % 256), .int .u8 (a.x % 256)]
      have sgB : w1.heap.size ≤ wb'.heap.size := Nat.le_trans (Below.size (Ewa)) (Below.size hwb)
      refine (l3Three_any a.x _ x0 x1).mono ?_
      rintro r wz ⟨rfl, rfl⟩
      refine hK _ _ Ewb ?_
      clear hK K hwb
      generalize wb'.alloc (.cells #[.int .u8 (a.x / 65536), .int .u8 (a.x / 256 % 256), .int .u8 (a.x % 256)] 5) = wb at *
      generalize wb'.heap.size = gB at *
      clear wb'
      have LgA := LgA.ext Xwb
      refine anyW_one 9 (by kernel_rfl) ?_
      have OgA := LgA.owns (n := 1) sgA rfl (by decide)
      refine stepW_run rfl ?_
      intro wc' hwc K hK
      have swc : w1.heap.size ≤ wc'.heap.size := Nat.le_trans (Below.size (Ewb)) (Below.size hwc)
      refine step_append_lies _ rfl _ _ 53 rfl w1.heap.size 5 i0 (.int .u8 0) 1 1 Tryz.underlying53 hi hz0 hz1 hz2 rfl (by decide) _ 1 [.int .u8 (2 + a.y % 2)] rfl (owns_ext OgA hwc) ⟨gB, 0, none⟩ 3 3 [.int .u8 (a.x / 65536), .int .u8 (a.x / 256 % 256), .int .u8 (a.x % 256)] rfl rfl (World.news_of_block (LgB.ext hwc)) (three_cells _ _ _) (by decide) (by decide) (by decide) swc _ rfl ?_
      intro gC capgC wc OgC hgwc hatwc hltwc
      have Ewc : Ext w1 wc := Below.grown (Ext.trans (Ewb) hwc) hgwc swc (fun k e => by obtain rfl := Option.some.inj e; exact sgA)
      refine hK _ _ Ewc ?_
      clear hK K
      refine anyW_take 10 2 0 rfl (by decide) (by kernel_rfl) (fun _ _ d _ _ h => by cases d <;> exact h) ?_
      repeat (refine headS_step (fun K hK => ?_); go_simp; first | (refine hK _ ?_; clear hK K) | (apply Exists.intro; refine ⟨fun _ => ?_, hK _ ?_⟩; (fail); clear hK K))
      refine headS_nil ?_
      refine anyW_done (by kernel_rfl) ?_ 0
      intro wq hwq
      go_wp2
      go_ret2
      exact HG.out _ _ (givesBs_of_owns (owns_ext OgC hwq) HB.out.size (HX.out _ _ _ _ rfl rfl rfl rfl) (HB.out.trans ((Ext.trans Ewc hwq : Ext w1 wq).mono HB.out.size)))
    · skip
      refine stepW_run rfl ?_
      intro wa' hwa K hK
      go_simp
      have Ewa := Ext.trans (Ext.refl w1) (Ext.trans hwa (ext_alloc wa' (.cells #[.int .u8 (a.x / 65536), .int .u8 (a.x / 256 % 256), .int .u8 (a.x % 256)] 5)))
      have Xwa := Ext.trans hwa (ext_alloc wa' (.cells #[.int .u8 (a.x / 65536), .int .u8 (a.x / 256 % 256), .int .u8 (a.x % 256)] 5))
      have LgB := Lies.new wa' #[.int .u8 (a.x / 65536), .int .u8 (a.x / 256 % 256), .int .u8 (a.x % 256)]
      have sgB : w1.heap.size ≤ wa'.heap.size := Nat.le_trans (Below.size (Ext.refl w1)) (Below.size hwa)
      refine (l3Three_any a.x _ x0 x1).mono ?_
      rintro r wz ⟨rfl, rfl⟩
      refine hK _ _ Ewa ?_
      clear hK K hwa
      generalize wa'.alloc (.cells #[.int .u8 (a.x / 65536), .int .u8 (a.x / 256 % 256), .int .u8 (a.x % 256)] 5) = wa at *
      generalize wa'.heap.size = gB at *
      clear wa'
      refine anyW_one 5 (by kernel_rfl) ?_
      refine stepW_run rfl ?_
      intro wb' hwb K hK
      go_simp
      have Ewb := Ext.trans (Ewa) (Ext.trans hwb (ext_alloc wb' (.cells #[.int .u8 (2 + a.y % 2)] 5)))
      have Xwb := Ext.trans hwb (ext_alloc wb' (.cells #[.int .u8 (2 + a.y % 2)] 5))
      have LgA := Lies.new wb' #[.int .u8 (2 + a.y % 2)]
      have sgA : w1.heap.size ≤ wb'.heap.size := Nat.le_trans (Below.size (Ewa)) (Below.size hwb)
      refine hK _ _ Ewb ?_
      clear hK K hwb
      generalize wb'.alloc (.cells #[.int .u8 (2 + a.y % 2)] 5) = wb at *
      generalize wb'.heap.size = gA at *
      clear wb'
      have LgB := LgB.ext Xwb
      refine anyW_one 9 (by kernel_rfl) ?_
      have OgA := LgA.owns (n := 1) sgA rfl (by decide)
      refine stepW_run rfl ?_
      intro wc' hwc K hK
      have swc : w1.heap.size ≤ wc'.heap.size := Nat.le_trans (Below.size (Ewb)) (Below.size hwc)
      refine step_append_lies _ rfl _ _ 53 rfl w1.heap.size 5 i0 (.int .u8 0) 1 1 Tryz.underlying53 hi hz0 hz1 hz2 rfl (by decide) _ 1 [.int .u8 (2 + a.y % 2)] rfl (owns_ext OgA hwc) ⟨gB, 0, none⟩ 3 3 [.int .u8 (a.x / 65536), .int .u8 (a.x / 256 % 256), .int .u8 (a.x % 256)] rfl rfl (World.news_of_block (LgB.ext hwc)) (three_cells _ _ _) (by decide) (by decide) (by decide) swc _ rfl ?_
      intro gC capgC wc OgC hgwc hatwc hltwc
      have Ewc : Ext w1 wc := Below.grown (Ext.trans (Ewb) hwc) hgwc swc (fun k e => by obtain rfl := Option.some.inj e; exact sgA)
      refine hK _ _ Ewc ?_
      clear hK K
      refine anyW_take 10 2 0 rfl (by decide) (by kernel_rfl) (fun _ _ d _ _ h => by cases d <;> exact h) ?_
      repeat (refine headS_step (fun K hK => ?_); go_simp; first | (refine hK _ ?_; clear hK K) | (apply Exists.intro; refine ⟨fun _ => ?_, hK _ ?_⟩; (fail); clear hK K))
      refine headS_nil ?_
      refine anyW_done (by kernel_rfl) ?_ 0
      intro wq hwq
      go_wp2
      go_ret2
      exact HG.out _ _ (givesBs_of_owns (owns_ext OgC hwq) HB.out.size (HX.out _ _ _ _ rfl rfl rfl rfl) (HB.out.trans ((Ext.trans Ewc hwq : Ext w1 wq).mono HB.out.size)))
end

section
set_option linter.unusedVariables false
set_option linter.unusedSimpArgs false

open Go.RowKit

def rsaC (k : Ky) : List Ic := ⟨48, 3, []⟩ :: [intC 1, natC k.n k.f, intC k.e]

set_option maxHeartbeats 3200000 in
set_option maxRecDepth 100000 in
theorem l10Key_rsa (k : Ky) (ad : Option Addr) (b off cap : Nat) (w : World) (hs : Seg w ad b off k.n k.f) (h1 : k.kind = 1) (hok : natOk k.n k.f = true) (h0 : 0 < k.n) (hb : bitsOf k.n k.f ≤ 512) (he : 0 ≤ k.e ∧ k.e ≤ 65537) :
    Calls Tryz.prog 38 #[.agg #[.int .i64 k.kind, .slice ad k.n cap, .int .i64 k.e, .int .i64 k.cP, .int .i64 k.cA, .int .i64 k.cB, .int .i64 k.cN, .int .i64 k.cX, .int .i64 k.cY, .int .i64 k.q.x, .int .i64 k.q.y, .bool k.q.far, .int .i64 k.dP, .int .i64 k.dD, .int .i64 k.dL, .int .i64 k.dX, .int .i64 k.dY, .int .i64 k.a.x, .int .i64 k.a.y]] w fun e w' => GivesIs w.heap.size w (rsaC k) e w' := by
  obtain ⟨V, hV⟩ : ∃ V, w.alloc (.cells #[.int .i64 k.kind, .slice ad k.n cap, .int .i64 k.e, .int .i64 k.cP, .int .i64 k.cA, .int .i64 k.cB, .int .i64 k.cN, .int .i64 k.cX, .int .i64 k.cY, .int .i64 k.q.x, .int .i64 k.q.y, .bool k.q.far, .int .i64 k.dP, .int .i64 k.dD, .int .i64 k.dL, .int .i64 k.dX, .int .i64 k.dY, .int .i64 k.a.x, .int .i64 k.a.y] 42) = V := ⟨_, rfl⟩
  obtain ⟨B0, hE, hsz⟩ := box1 w [.int .i64 k.kind, .slice ad k.n cap, .int .i64 k.e, .int .i64 k.cP, .int .i64 k.cA, .int .i64 k.cB, .int .i64 k.cN, .int .i64 k.cX, .int .i64 k.cY, .int .i64 k.q.x, .int .i64 k.q.y, .bool k.q.far, .int .i64 k.dP, .int .i64 k.dD, .int .i64 k.dL, .int .i64 k.dX, .int .i64 k.dY, .int .i64 k.a.x, .int .i64 k.a.y] 42 (w1 := V) (by rw [hV]; exact Ext.refl _)
  have HA := hide B0
  have HE := hide hE
  have c0 := (B0 0 _ rfl).1
  have c1 := (B0 1 _ rfl).1
  have c2 := (B0 2 _ rfl).1
  have hwV : w.heap.size < V.heap.size := World.block_lt_of_cell? _ _ c0
  have g1 : (k.kind == 1) = true := by simp [h1]
  have HI1 : Hid (∀ W, Calls Tryz.prog 92 #[.int .i64 1] W fun e w' => GivesIs W.heap.size W [intC 1] e w') := fun W => l10Int_any 1 W (by omega) (by omega)
  have HIe : Hid (∀ W, Calls Tryz.prog 92 #[.int .i64 k.e] W fun e w' => GivesIs W.heap.size W [intC k.e] e w') := fun W => l10Int_any k.e W (by omega) (by omega)
  have HIn : Hid (∀ W, Ext w W → Calls Tryz.prog 93 #[.slice ad k.n cap] W fun e w' => GivesIs W.heap.size W [natC k.n k.f] e w') := fun W h => l10Nat_any ad b off k.n cap k.f W (hs.of_all h) hok h0 hb
  have HR : Hid (rsaC k = ⟨48, 3, []⟩ :: ([intC 1] ++ [natC k.n k.f] ++ [intC k.e])) := rfl
  generalize rsaC k = C at *
  have HN1 : Hid (1 = [intC 1].length) := rfl
  have HN2 : Hid (1 = [natC k.n k.f].length) := rfl
  have HN3 : Hid (1 = [intC k.e].length) := rfl
  generalize [intC 1] = C1 at *
  generalize [natC k.n k.f] = C2 at *
  generalize [intC k.e] = C3 at *
  clear hs hok h0 hb he B0 hE h1
  have c0' := fun p : ReC (fun q => V.heap.size ≤ q) V => cell_reC c0 (by show ¬ V.heap.size ≤ w.heap.size; omega) p
  have c1' := fun p : ReC (fun q => V.heap.size ≤ q) V => cell_reC c1 (by show ¬ V.heap.size ≤ w.heap.size; omega) p
  have c2' := fun p : ReC (fun q => V.heap.size ≤ q) V => cell_reC c2 (by show ¬ V.heap.size ≤ w.heap.size; omega) p
  go_enter Tryz.func38, Tryz.ntmps38
  go_wp2_with fail
  refine anyK_begin (fun q => V.heap.size ≤ q) 11 rfl (by kernel_rfl) ?_
  refine anyK_take 1 2 9 rfl (by decide) (by kernel_rfl) (fun _ _ d _ _ h => by cases d <;> exact h) ?_
  repeat (refine headC_step (fun K hK => ?_); go_simp; first | (refine hK _ ?_; clear hK K) | (apply Exists.intro; refine ⟨fun p => ?_, hK _ ?_⟩; (fail); clear hK K))
  refine headC_nil ?_
  refine anyK_take 5 2 7 rfl (by decide) (by kernel_rfl) (fun _ _ d _ _ h => by cases d <;> exact h) ?_
  repeat (refine headC_step (fun K hK => ?_); go_simp; first | (refine hK _ ?_; clear hK K) | (apply Exists.intro; refine ⟨fun p => ?_, hK _ ?_⟩; (fail); clear hK K))
  refine headC_nil ?_
  have XV : Hid (Ext V V) := Ext.refl _
  have hwV2 : w.heap.size ≤ V.heap.size := by omega
  clear c0' c1' c2' c0 c1 c2
  refine anyK_one 0 (by kernel_rfl) ?_
  refine stepK_run rfl ?_
  intro w1 hw1 K2 hK2
  have Xw1 : Hid (Ext V w1) := hide (XV.out.trans hw1)
  go_simp
  refine (HI1.out w1).mono ?_
  rintro r1 w2 ⟨v1, L1, rfl, hL1, hC1, hE1⟩
  have HL1 := hide hL1
  have HC1 := hide hC1
  have HE1 := hide hE1
  have Xw2 : Hid (Ext V w2) := hide (Xw1.out.trans hE1)
  refine hK2 _ _ (.of_ext Xw2.out) ?_
  clear hK2 K2 hL1 hC1 hE1
  refine anyK_one 3 (by kernel_rfl) ?_
  refine stepK_run rfl ?_
  intro w3 hw3 K2 hK2
  have Xw3 : Hid (Ext V w3) := hide (Xw2.out.trans hw3)
  go_simp
  refine (HIn.out w3 (HE.out.trans Xw3.out)).mono ?_
  rintro r2 w4 ⟨v2, L2, rfl, hL2, hC2, hE2⟩
  have HL2 := hide hL2
  have HC2 := hide hC2
  have HE2 := hide hE2
  have Xw4 : Hid (Ext V w4) := hide (Xw3.out.trans hE2)
  refine hK2 _ _ (.of_ext Xw4.out) ?_
  clear hK2 K2 hL2 hC2 hE2
  refine anyK_one 4 (by kernel_rfl) ?_
  refine stepK_run rfl ?_
  intro w5 hw5 K2 hK2
  have Xw5 : Hid (Ext V w5) := hide (Xw4.out.trans hw5)
  rw [if_pos (show _ = true by kernel_rfl)]
  have A1 : LAcc V.heap.size w2 v1 L1 := HL1.out.low (Below.size Xw1.out)
  have e25 : Ext w2 w5 := (hw3.trans HE2.out).trans hw5
  have lat := A1.later e25 ((HL2.out.bods.low (Below.size hw3)).ext hw5) (Below.size Xw2.out)
  refine wp_appL _ _ rfl V.heap.size w3.heap.size w2 v1 v2 L1 L2 rfl A1 e25 rfl (ownsRow_ext HL2.out.row hw5) lat.1 lat.2 (by rw [map_len HC1.out, map_len HC2.out, ← HN1.out, ← HN2.out]; simp) (Below.size Xw2.out) ?_
  intro v3 w6 hA3 hB3
  have HA3 := hide hA3
  have Xw6 : Hid (Ext V w6) := hide (Below.trans Xw5.out (hB3 _ (fun j hj => (A1.row.lt j hj).1) (Below.size Xw5.out)))
  refine hK2 _ _ (.of_ext Xw6.out) ?_
  clear hK2 K2 hA3 hB3 lat A1 e25
  refine anyK_one 7 (by kernel_rfl) ?_
  refine stepK_run rfl ?_
  intro w7 hw7 K2 hK2
  have Xw7 : Hid (Ext V w7) := hide (Xw6.out.trans hw7)
  go_simp
  refine (HIe.out w7).mono ?_
  rintro r4 w8 ⟨v4, L4, rfl, hL4, hC4, hE4⟩
  have HL4 := hide hL4
  have HC4 := hide hC4
  have HE4 := hide hE4
  have Xw8 : Hid (Ext V w8) := hide (Xw7.out.trans hE4)
  refine hK2 _ _ (.of_ext Xw8.out) ?_
  clear hK2 K2 hL4 hC4 hE4
  refine anyK_one 8 (by kernel_rfl) ?_
  refine stepK_run rfl ?_
  intro w9 hw9 K2 hK2
  have Xw9 : Hid (Ext V w9) := hide (Xw8.out.trans hw9)
  rw [if_pos (show _ = true by kernel_rfl)]
  have e69 : Ext w6 w9 := (hw7.trans HE4.out).trans hw9
  have lat := HA3.out.later e69 ((HL4.out.bods.low (Below.size hw7)).ext hw9) (Below.size Xw6.out)
  refine wp_appL _ _ rfl V.heap.size w7.heap.size w6 v3 v4 (L1 ++ L2) L4 rfl HA3.out e69 rfl (ownsRow_ext HL4.out.row hw9) lat.1 lat.2 (by rw [List.length_append, map_len HC1.out, map_len HC2.out, map_len HC4.out, ← HN1.out, ← HN2.out, ← HN3.out]; simp) (Below.size Xw6.out) ?_
  intro v5 w10 hA5 hB5
  have HA5 := hide hA5
  have Xw10 : Hid (Ext V w10) := hide (Below.trans Xw9.out (hB5 _ (fun j hj => (HA3.out.row.lt j hj).1) (Below.size Xw9.out)))
  refine hK2 _ _ (.of_ext Xw10.out) ?_
  clear hK2 K2 hA5 hB5 lat e69
  refine anyK_one 9 (by kernel_rfl) ?_
  refine stepK_run rfl ?_
  intro w11 hw11 K2 hK2
  have Xw11 : Hid (Ext V w11) := hide (Xw10.out.trans hw11)
  go_simp
  refine (l10Made_any 48 3 v5 (L1 ++ L2 ++ L4) V.heap.size w11 (HA5.out.ext hw11) (by rw [List.length_append, List.length_append, map_len HC1.out, map_len HC2.out, map_len HC4.out, ← HN1.out, ← HN2.out, ← HN3.out]; simp) (Below.size Xw11.out)).mono ?_
  rintro r6 w12 ⟨v6, L6, rfl, hL6, hC6, hE6⟩
  have HL6 := hide hL6
  have HC6 := hide hC6
  have HE6 := hide hE6
  have Xw12 : Hid (Ext V w12) := hide (Xw11.out.trans hE6)
  refine hK2 _ _ (.of_ext Xw12.out) ?_
  clear hK2 K2 hL6 hC6 hE6
  refine anyK_take 10 1 0 rfl (by decide) (by kernel_rfl) (fun _ _ d _ _ h => by cases d <;> exact h) ?_
  repeat (refine headC_step (fun K hK => ?_); go_simp; first | (refine hK _ ?_; clear hK K) | (apply Exists.intro; refine ⟨fun p => ?_, hK _ ?_⟩; (fail); clear hK K))
  refine headC_nil ?_
  refine anyK_done (by kernel_rfl) ?_ 0
  intro w13 hw13
  have HL7 := hide (HL6.out.ext hw13)
  have X13 := hide (HE.out.trans (Xw12.out.trans hw13))
  go_wp2
  go_ret
  exact ⟨_, L6, rfl, HL7.out.low hwV2, by rw [HC6.out, HR.out, List.map_append, List.map_append, HC1.out, HC2.out, HC4.out], X13.out⟩

def cvC (k : Ky) : List Ic := ⟨48, 8, []⟩ :: ([intC 2, intC k.cP, intC k.cA, intC k.cB, intC k.cN, intC k.cX, intC k.cY] ++ [⟨3, 0, 0 :: (List.range 7).map (ptByte k.q false)⟩])

def edC (k : Ky) : List Ic := ⟨48, 7, []⟩ :: ([intC 3, intC k.dP, intC k.dD, intC k.dL, intC k.dX, intC k.dY] ++ [⟨3, 0, 0 :: (List.range 3).map (prByte k.a)⟩])

theorem seg_lit (w : World) (S : Nat) (hS : w.heap.size = S) (xs : List Int) (A : Array Value) (hA : A = (xs.map (fun x => Value.int .i64 x)).toArray) : Seg (w.alloc (.cells A 3)) (some ⟨S, 0, none⟩) S 0 xs.length (fun i => xs.getD i 0) := by
  subst hS
  refine ⟨fun _ => rfl, fun i hi => ?_⟩
  subst hA
  rw [World.cell?_alloc_new]
  simp [hi]
end

section
set_option linter.unusedVariables false
set_option linter.unusedSimpArgs false

open Go.RowKit

set_option maxHeartbeats 3200000 in
set_option maxRecDepth 100000 in
theorem l10Key_cv (k : Ky) (ad : Option Addr) (b off cap : Nat) (w : World) (g1 : (k.kind == 1) = false) (g2 : (k.kind == 2) = true)
    (HP : Hid (∀ W, Calls Tryz.prog 94 #[.agg #[.int .i64 k.cP, .int .i64 k.cA, .int .i64 k.cB, .int .i64 k.cN, .int .i64 k.cX, .int .i64 k.cY], .agg #[.int .i64 k.q.x, .int .i64 k.q.y, .bool k.q.far], .bool false] W fun e w' => GivesBt W 7 (ptByte k.q false) true e w')) (hf : ∀ z ∈ [2, k.cP, k.cA, k.cB, k.cN, k.cX, k.cY], -9223372036854775808 ≤ z ∧ z ≤ 9223372036854775807) :
    Calls Tryz.prog 38 #[.agg #[.int .i64 k.kind, .slice ad k.n cap, .int .i64 k.e, .int .i64 k.cP, .int .i64 k.cA, .int .i64 k.cB, .int .i64 k.cN, .int .i64 k.cX, .int .i64 k.cY, .int .i64 k.q.x, .int .i64 k.q.y, .bool k.q.far, .int .i64 k.dP, .int .i64 k.dD, .int .i64 k.dL, .int .i64 k.dX, .int .i64 k.dY, .int .i64 k.a.x, .int .i64 k.a.y]] w fun e w' => GivesIs w.heap.size w (cvC k) e w' := by
  obtain ⟨V, hV⟩ : ∃ V, w.alloc (.cells #[.int .i64 k.kind, .slice ad k.n cap, .int .i64 k.e, .int .i64 k.cP, .int .i64 k.cA, .int .i64 k.cB, .int .i64 k.cN, .int .i64 k.cX, .int .i64 k.cY, .int .i64 k.q.x, .int .i64 k.q.y, .bool k.q.far, .int .i64 k.dP, .int .i64 k.dD, .int .i64 k.dL, .int .i64 k.dX, .int .i64 k.dY, .int .i64 k.a.x, .int .i64 k.a.y] 42) = V := ⟨_, rfl⟩
  obtain ⟨B0, hE, hsz⟩ := box1 w [.int .i64 k.kind, .slice ad k.n cap, .int .i64 k.e, .int .i64 k.cP, .int .i64 k.cA, .int .i64 k.cB, .int .i64 k.cN, .int .i64 k.cX, .int .i64 k.cY, .int .i64 k.q.x, .int .i64 k.q.y, .bool k.q.far, .int .i64 k.dP, .int .i64 k.dD, .int .i64 k.dL, .int .i64 k.dX, .int .i64 k.dY, .int .i64 k.a.x, .int .i64 k.a.y] 42 (w1 := V) (by rw [hV]; exact Ext.refl _)
  have HA := hide B0
  have HE := hide hE
  have c0 := (B0 0 _ rfl).1
  have c3 := (B0 3 _ rfl).1
  have c4 := (B0 4 _ rfl).1
  have c5 := (B0 5 _ rfl).1
  have c6 := (B0 6 _ rfl).1
  have c7 := (B0 7 _ rfl).1
  have c8 := (B0 8 _ rfl).1
  have c9 := (B0 9 _ rfl).1
  have c10 := (B0 10 _ rfl).1
  have c11 := (B0 11 _ rfl).1
  have hwV : w.heap.size < V.heap.size := World.block_lt_of_cell? _ _ c0
  have hwV2 : w.heap.size ≤ V.heap.size := by omega
  have HI : Hid (∀ (S : Nat) (W : World), Seg W (some ⟨S, 0, none⟩) S 0 7 (fun i => ([2, k.cP, k.cA, k.cB, k.cN, k.cX, k.cY] : List Int).getD i 0) → Calls Tryz.prog 95 #[.slice (some ⟨S, 0, none⟩) 7 7] W fun e w' => GivesIs W.heap.size W ([intC 2, intC k.cP, intC k.cA, intC k.cB, intC k.cN, intC k.cX, intC k.cY]) e w') := fun S W h => l10Ints_any (some ⟨S, 0, none⟩) S 0 7 7 _ W h (by omega) (fun i hi => hf _ (by
    rw [List.getD_eq_getElem?_getD, List.getElem?_eq_getElem (by simpa using hi)]
    exact List.getElem_mem _))
  have HR : Hid (cvC k = ⟨48, 8, []⟩ :: ([intC 2, intC k.cP, intC k.cA, intC k.cB, intC k.cN, intC k.cX, intC k.cY] ++ [⟨3, 0, 0 :: (List.range 7).map (ptByte k.q false)⟩])) := rfl
  generalize cvC k = C at *
  have HN : Hid (7 = ([intC 2, intC k.cP, intC k.cA, intC k.cB, intC k.cN, intC k.cX, intC k.cY] : List Ic).length) := rfl
  generalize ([intC 2, intC k.cP, intC k.cA, intC k.cB, intC k.cN, intC k.cX, intC k.cY] : List Ic) = CI at *
  generalize ptByte k.q false = F at *
  clear hf hE B0
  go_enter Tryz.func38, Tryz.ntmps38
  go_wp2_with (at_builtin; refine stop_app rfl ?_)
  refine (HP.out _).mono ?_
  rintro e1 w1 ⟨ya, yg, yc, rfl, hyg, hyO, hyE, -, -⟩
  have HO := hide hyO
  have HY := hide hyE
  have d3 := ((Blk.ext HA.out hyE hwV) 3 _ rfl).1
  have d4 := ((Blk.ext HA.out hyE hwV) 4 _ rfl).1
  have d5 := ((Blk.ext HA.out hyE hwV) 5 _ rfl).1
  have d6 := ((Blk.ext HA.out hyE hwV) 6 _ rfl).1
  have d7 := ((Blk.ext HA.out hyE hwV) 7 _ rfl).1
  have d8 := ((Blk.ext HA.out hyE hwV) 8 _ rfl).1
  clear hyO hyE c3 c4 c5 c6 c7 c8 c9 c10 c11
  go_wp2_with (at_builtin; refine stop_app rfl ?_)
  refine (HI.out (w1.heap.size + 1) _ (seg_lit _ _ (by simp) [2, k.cP, k.cA, k.cB, k.cN, k.cX, k.cY] _ rfl)).mono ?_
  rintro e2 w2 ⟨v2, L2, rfl, h2, h2c, h2E⟩
  have H2 := hide h2
  have H2c := hide h2c
  have H2E := hide h2E
  obtain ⟨a2, c2, rfl⟩ := ownsRow_slc h2.row
  clear h2 h2c h2E
  go_wp2_with (at_builtin; refine stop_app rfl ?_)
  refine hide ?_
  have X2 : Hid (Ext w1 w2) := hide (Ext.trans (Ext.trans (Ext.alloc w1 _) (Ext.alloc _ _)) H2E.out)
  have XV : Hid (Ext V w2) := hide (Ext.trans HY.out X2.out)
  have HOw := hide ((HO.out.of_all X2.out).of_all (Ext.alloc w2 (.cells #[.int .u8 0] 5)))
  refine wpList_append_bs rfl _ _ rfl w2.heap.size _ 1 (byts (fun _ => 0) 1) rfl (owns_one8 w2 0) ya yg 0 7 yc F rfl HOw.out.toBSeg (by omega) (by simp) ?_
  intro v4 w4 h1 h2
  rw [byts_cons] at h1
  obtain ⟨xa, xg, xc, rfl, hxg, -, -, hxB⟩ := owns_seg (n := 8) h1
  have X4 : Hid (Ext w2 w4) := hide (Below.trans (Ext.alloc _ _) h2)
  have HIt := hide (l10Item_any 3 xa xg 0 8 xc (consF 0 F) w2.heap.size w4 hxB hxg (Below.size X4.out))
  rw [consF_map] at HIt
  clear h1 h2 hxB HO HOw
  go_wp2_with (at_builtin; refine stop_app rfl ?_)
  refine HIt.out.mono ?_
  rintro e5 w5 ⟨v5, L5, rfl, h5, h5c, h5E⟩
  have H5 := hide h5
  have H5c := hide h5c
  have H5E := hide h5E
  obtain ⟨a5, c5, rfl⟩ := ownsRow_slc h5.row
  clear h5 h5c h5E
  go_wp2_with (at_builtin; refine stop_app rfl ?_)
  refine hide ?_
  have A2 : LAcc V.heap.size w2 _ L2 := H2.out.low (Nat.le_trans (Below.size HY.out) (by simp; omega))
  have lat := A2.later (X4.out.trans H5E.out) H5.out.bods (Below.size XV.out)
  refine wpList_appL rfl _ _ rfl V.heap.size w2.heap.size w2 _ _ L2 L5 rfl A2 (X4.out.trans H5E.out) rfl H5.out.row lat.1 lat.2 (by rw [map_len H2c.out, map_len H5c.out, ← HN.out]; simp) (Below.size XV.out) ?_
  intro v6 w6 hA6 hB6
  have X6 : Hid (Ext V w6) := hide (Below.trans (XV.out.trans (X4.out.trans H5E.out)) (hB6 _ (fun j hj => (A2.row.lt j hj).1) (Below.size (XV.out.trans (X4.out.trans H5E.out)))))
  have HMd := hide (l10Made_any 48 8 v6 (L2 ++ L5) V.heap.size w6 hA6 (by rw [List.length_append, map_len H2c.out, map_len H5c.out, ← HN.out]; simp) (Below.size X6.out))
  obtain ⟨a6, c6, rfl⟩ := ownsRow_slc hA6.row
  clear hA6 hB6 lat A2
  obtain ⟨N6, hN6⟩ : ∃ N, (L2 ++ L5).length = N := ⟨_, rfl⟩
  rw [hN6] at HMd ⊢
  clear hN6
  go_wp2_with (at_builtin; refine stop_app rfl ?_)
  refine HMd.out.mono ?_
  rintro e7 w7 ⟨v7, L7, rfl, h7, h7c, h7E⟩
  have H7 := hide h7
  have H7c := hide h7c
  have H7E := hide h7E
  obtain ⟨a7, c7, rfl⟩ := ownsRow_slc h7.row
  clear h7 h7c h7E
  go_wp2
  go_ret
  exact ⟨_, L7, rfl, H7.out.low hwV2, by rw [H7c.out, HR.out, List.map_append, H2c.out, H5c.out], HE.out.trans (X6.out.trans H7E.out)⟩
end

end Go.Proofs.YtnnandjphlajnaaGreatDoor
