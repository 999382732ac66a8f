/- What the laws of curves need: points held against each other, blocks that stay, numbers within bounds. What the law of points and bytes needs: a point's bytes tell it, and what is read of bytes is written as these. Walk: the law of points and bytes. -/
import Derived.Test.YtcfpmillbdkpcaaDoorDrawAll
import Derived.Test.YtcfpmillbdkpcaaDoorGenPt
import Derived.Test.YtcfpmillbdkpcaaDoorCurveY
import Derived.Test.YtcfpmillbdkpcaaDoorBytPt
import Derived.Laws.BytesArg
namespace Go.Proofs.YtcfpmillbdkpcaaDoor
set_option linter.unusedVariables false

open Go.RowKit Go.Sort

theorem run_nePt_same (x y : Int) (f : Bool) (w : World) : (binOp .neq 27 (.agg #[.int .i64 x, .int .i64 y, .bool f]) (.agg #[.int .i64 x, .int .i64 y, .bool f])).run Tryd.prog w = .ok (.bool false) w := by
  rw [run_nePt]; simp

theorem run_eqPt_same (x y : Int) (f : Bool) (w : World) : (binOp .eql 27 (.agg #[.int .i64 x, .int .i64 y, .bool f]) (.agg #[.int .i64 x, .int .i64 y, .bool f])).run Tryd.prog w = .ok (.bool true) w := by
  rw [run_eqPt]; simp

theorem PtAt.ext {w w' : World} {C : Nat} {a : Pt} (h : PtAt w C a) (e : Ext w w') : PtAt w' C a := h.of_block (e.block C h.lt)
theorem CvAt.lt {w : World} {C : Nat} {p A B N x y : Int} (h : CvAt w C p A B N x y) : C < w.heap.size := block_lt_of_cell h.c0
theorem CvAt.ext {w w' : World} {C : Nat} {p A B N x y : Int} (h : CvAt w C p A B N x y) (e : Ext w w') : CvAt w' C p A B N x y := h.below e h.lt

section
variable {P A B N gx gy : Int}

theorem CvOk.p63 (h : CvOk P A B N gx gy) : P ≤ 9223372036854775807 := by have := h.pM; omega
theorem CvOk.n63 (h : CvOk P A B N gx gy) : N ≤ 9223372036854775807 := by have := h.nM; omega
theorem CvOk.mul_on (hc : CvOk P A B N gx gy) {a : Pt} (ha : On P.toNat A B a) {n : Nat} (hn : n ≤ 9223372036854775807) : On P.toNat A B (mulF P.toNat A n a) := mulF_on hc.cv (by omega) ha
end

open Go.RowKit Go.Sort

theorem CvF.ext {w w' : World} {C : Nat} {p A B N x y : Int} (h : CvF w C p A B N x y) (e : Ext w w') : CvF w' C p A B N x y := h.of_block (e.block C h.lt)

theorem three_back {x : Int} (h0 : 0 ≤ x) (h1 : x ≤ 16777215) : xb x 0 * 65536 + xb x 1 * 256 + xb x 2 = x := by
  simp only [xb]
  simp
  omega

theorem three_bytes {a b c : Int} (a0 : 0 ≤ a) (a1 : a ≤ 255) (b0 : 0 ≤ b) (b1 : b ≤ 255) (c0 : 0 ≤ c) (c1 : c ≤ 255) : xb (a * 65536 + b * 256 + c) 0 = a ∧ xb (a * 65536 + b * 256 + c) 1 = b ∧ xb (a * 65536 + b * 256 + c) 2 = c := by
  simp only [xb]
  simp
  omega

section
variable {P A B N gx gy : Int}

theorem reads_back (hc : CvOk P A B N gx gy) {a : Pt} (ha : On P.toNat A B a) (sh : Bool) : Reads P.toNat A B (ptLen a sh true) (ptByte a sh) a := by
  obtain ⟨⟨x0, x1⟩, y0, y1⟩ := on_range hc ha
  cases hf : a.far
  · cases sh
    · refine Or.inr (Or.inl ⟨by simp [ptLen, hf], by simp [ptByte, hf], ?_, ha⟩)
      refine Pt.ext' ?_ ?_ hf
      · have := three_back x0 x1
        simp [rd3, ptByte, hf]
        omega
      · have := three_back y0 y1
        simp [rd3, ptByte, hf]
        omega
    · refine Or.inr (Or.inr ⟨by simp [ptLen, hf], ?_, hf, ?_, ?_, ha⟩)
      · simp [ptByte, hf]; omega
      · have := three_back x0 x1
        simp [rd3, ptByte, hf]
        omega
      · simp [ptByte, hf]; omega
  · exact Or.inl ⟨by simp [ptLen, hf], by simp [ptByte, hf], ha.far_eq hf⟩

theorem Reads.on {n : Nat} {f : Nat → Int} {c : Pt} (h : Reads P.toNat A B n f c) : On P.toNat A B c := by
  rcases h with ⟨_, _, rfl⟩ | ⟨_, _, _, h⟩ | ⟨_, _, _, _, _, h⟩
  · exact on_far _ _ _
  · exact h
  · exact h

theorem Reads.pos {n : Nat} {f : Nat → Int} {c : Pt} (h : Reads P.toNat A B n f c) : 0 < n := by
  rcases h with ⟨h, _⟩ | ⟨h, _⟩ | ⟨h, _⟩ <;> omega

theorem wrote_back {n : Nat} {f : Nat → Int} {c : Pt} (h : Reads P.toNat A B n f c) (hr : ∀ i, i < n → 0 ≤ f i ∧ f i ≤ 255) : (ptLen c false true = n ∧ ∀ i, i < n → ptByte c false i = f i) ∨ (ptLen c true true = n ∧ ∀ i, i < n → ptByte c true i = f i) := by
  rcases h with ⟨rfl, h0, rfl⟩ | ⟨rfl, h0, rfl, _⟩ | ⟨rfl, h0, hf, hx, hy, _⟩
  · refine Or.inl ⟨rfl, fun i hi => ?_⟩
    obtain rfl : i = 0 := by omega
    rw [h0]; rfl
  · refine Or.inl ⟨rfl, fun i hi => ?_⟩
    have r1 := hr 1 (by omega); have r2 := hr 2 (by omega); have r3 := hr 3 (by omega)
    have r4 := hr 4 (by omega); have r5 := hr 5 (by omega); have r6 := hr 6 (by omega)
    obtain ⟨e1, e2, e3⟩ := three_bytes r1.1 r1.2 r2.1 r2.2 r3.1 r3.2
    obtain ⟨e4, e5, e6⟩ := three_bytes r4.1 r4.2 r5.1 r5.2 r6.1 r6.2
    have : i = 0 ∨ i = 1 ∨ i = 2 ∨ i = 3 ∨ i = 4 ∨ i = 5 ∨ i = 6 := by omega
    rcases this with rfl | rfl | rfl | rfl | rfl | rfl | rfl
    · exact h0.symm
    · exact e1
    · exact e2
    · exact e3
    · exact e4
    · exact e5
    · exact e6
  · refine Or.inr ⟨by simp [ptLen, hf], fun i hi => ?_⟩
    have r1 := hr 1 (by omega); have r2 := hr 2 (by omega); have r3 := hr 3 (by omega)
    obtain ⟨e1, e2, e3⟩ := three_bytes r1.1 r1.2 r2.1 r2.2 r3.1 r3.2
    have hx' : c.x = f 1 * 65536 + f 2 * 256 + f 3 := hx
    have : i = 0 ∨ i = 1 ∨ i = 2 ∨ i = 3 := by omega
    rcases this with rfl | rfl | rfl | rfl
    · simp [ptByte, hf]; omega
    · simp only [ptByte, hf, hx']; exact e1
    · simp only [ptByte, hf, hx']; exact e2
    · simp only [ptByte, hf, hx']; exact e3

theorem bytes_yes (hc : CvOk P A B N gx gy) {a : Pt} (ha : On P.toNat A B a) (sh : Bool) (w : World) : Calls Tryd.prog 11 #[.agg #[.int .i64 P, .int .i64 A, .int .i64 B, .int .i64 N, .int .i64 gx, .int .i64 gy], .agg #[.int .i64 a.x, .int .i64 a.y, .bool a.far], .bool sh] w fun e w' => GivesBs w (ptLen a sh true) (ptByte a sh) true e w' := by
  refine (implPointBytes_any P A B N gx gy a sh w hc.p63 hc.n63).mono ?_
  rintro e w' ⟨ok, hok, h⟩
  obtain rfl : ok = true := hok.2 ⟨hc, ha⟩
  exact h

theorem read_yes (hc : CvOk P A B N gx gy) {a : Pt} {m : Nat} {F : Nat → Int} (hR : Reads P.toNat A B m F a) (hr : ∀ i, i < m → 0 ≤ F i ∧ F i ≤ 255) (ab : Option Addr) (b off cap : Nat) (w : World) (hT : Tab w) (hs : BSeg w ab b off m F) (hcap : m ≤ cap) :
    Calls Tryd.prog 12 #[.agg #[.int .i64 P, .int .i64 A, .int .i64 B, .int .i64 N, .int .i64 gx, .int .i64 gy], .slice ab m cap] w fun r w' => r = .returned (.tuple #[.agg #[.int .i64 a.x, .int .i64 a.y, .bool a.far], .bool true]) ∧ Below w.heap.size w w' := by
  refine (implPointRead_any P A B N gx gy ab b off m cap F w hc.p63 hc.n63 hT hs hr hcap).mono ?_
  rintro r w' ⟨⟨c, ok, rfl, h⟩, hw⟩
  obtain ⟨rfl, rfl⟩ := OptRd.unique (Or.inl ⟨rfl, hc, hR⟩) h
  exact ⟨rfl, hw⟩

theorem ptLen_pos (a : Pt) (sh : Bool) : 0 < ptLen a sh true := by cases h : a.far <;> cases sh <;> simp [ptLen, h]

theorem ptByte_range' (hc : CvOk P A B N gx gy) {q : Pt} (ha : On P.toNat A B q) (sh : Bool) (i : Nat) : 0 ≤ ptByte q sh i ∧ ptByte q sh i ≤ 255 := by
  obtain ⟨⟨x0, x1⟩, y0, y1⟩ := on_range hc ha
  unfold ptByte xb
  repeat' split
  all_goals omega

end

/-- The first m numbers. -/
def nums (F : Nat → Int) (m : Nat) : List Int := (List.range m).map F

theorem nums_congr {F G : Nat → Int} {m : Nat} (h : ∀ i, i < m → F i = G i) : nums F m = nums G m :=
  List.map_congr_left (fun i hi => h i (List.mem_range.1 hi))

theorem conv_bytes {w : World} {g o m cap : Nat} {F : Nat → Int} (hs : BSeg w (some ⟨g, o, none⟩) g o m F) : (convert 22 9 (.slice (some ⟨g, o, none⟩) m cap)).run Tryd.prog w = .ok (.string (strOfNums (nums F m))) w :=
  run_convert_bytes_arg w 22 5 (by kernel_rfl) (by kernel_rfl) g o m cap (nums F m) (by simp [nums]) (fun i hi => by
    rw [hs.cell i hi]
    simp [nums, hi]) 9 (by kernel_rfl)

open Go.RowKit Go.Sort

set_option maxHeartbeats 3000000 in
set_option maxRecDepth 100000 in
theorem back_law (a : Option Addr) (b off n cap : Nat) (f : Nat → Int) (w : World) (hT : Tab w) (hs : BSeg w a b off n f) (hB : ∀ i, i < n → 0 ≤ f i ∧ f i ≤ 255) (hn : n ≤ 1048576) :
    Calls Tryd.prog 3 #[.slice a n cap] w fun e w' => e = .returned (.bool true) ∧ Below w.heap.size w w' := by
  have hTh := hide hT
  clear hT
  go_enter Tryd.func3, Tryd.ntmps3
  go_wp2_with fail
  refine (big_any a n cap _ hn).mono ?_
  rintro e w' ⟨rfl, hw⟩
  replace hw := hw.symm
  subst hw
  go_wp2_with fail
  refine (drawCurve_any a b off n cap f _ hs hB hn).mono ?_
  rintro e w1 ⟨j, ma, mb, hj, hma, hmb, rfl, hw1⟩
  have hc := hide (crv_ok hj)
  generalize kP j = P at *
  generalize kA j = A at *
  generalize kB j = B at *
  generalize kN j = N at *
  generalize kX j = gx at *
  generalize kY j = gy at *
  clear hj
  simp only [ptV]
  obtain ⟨pa, ha⟩ : ∃ p, mulF P.toNat A ma ⟨gx, gy, false⟩ = p := ⟨_, rfl⟩
  obtain ⟨pb, hb⟩ : ∃ p, mulF P.toNat A mb ⟨gx, gy, false⟩ = p := ⟨_, rfl⟩
  rw [ha, hb]
  have oa : Hid (On P.toNat A B pa) := by rw [← ha]; exact hc.out.mul_on hc.out.g (by omega)
  clear ha hb hma hmb
  have R1 := reads_back hc.out oa.out false
  have R2 := reads_back hc.out oa.out true
  have r1 := ptByte_range' hc.out oa.out false
  have r2 := ptByte_range' hc.out oa.out true
  have p1 := ptLen_pos pa false
  have p2 := ptLen_pos pa true
  have HC1 := bytes_yes hc.out oa.out false
  have HC2 := bytes_yes hc.out oa.out true
  generalize ptLen pa false true = m1 at *
  generalize ptByte pa false = F1 at *
  generalize ptLen pa true true = m2 at *
  generalize ptByte pa true = F2 at *
  replace HC1 := hide HC1
  replace HC2 := hide HC2
  have HC3 := hide (fun ab b off cap w => read_yes hc.out R1 (fun i _ => r1 i) ab b off cap w)
  have HC4 := hide (fun ab b off cap w => read_yes hc.out R2 (fun i _ => r2 i) ab b off cap w)
  have HB : Hid (Ext w w1) := hw1
  have sw : w.heap.size ≤ w1.heap.size := Below.size hw1
  clear R1 R2 r1 r2 hw1
  go_wp2_with fail
  replace HB := hide (HB.out.trans (Ext.alloc w1 (.cells #[.int .i64 P, .int .i64 A, .int .i64 B, .int .i64 N, .int .i64 gx, .int .i64 gy] 25)))
  have H_k : Hid (CvF (w1.alloc (.cells #[.int .i64 P, .int .i64 A, .int .i64 B, .int .i64 N, .int .i64 gx, .int .i64 gy] 25)) w1.heap.size P A B N gx gy) := CvF.alloc w1 P A B N gx gy 25
  replace H_k := hide (H_k.out.ext (Ext.alloc (w1.alloc (.cells #[.int .i64 P, .int .i64 A, .int .i64 B, .int .i64 N, .int .i64 gx, .int .i64 gy] 25)) (.cells #[.int .i64 pa.x, .int .i64 pa.y, .bool pa.far] 27)))
  replace HB := hide (HB.out.trans (Ext.alloc (w1.alloc (.cells #[.int .i64 P, .int .i64 A, .int .i64 B, .int .i64 N, .int .i64 gx, .int .i64 gy] 25)) (.cells #[.int .i64 pa.x, .int .i64 pa.y, .bool pa.far] 27)))
  have H_a : Hid (PtAt ((w1.alloc (.cells #[.int .i64 P, .int .i64 A, .int .i64 B, .int .i64 N, .int .i64 gx, .int .i64 gy] 25)).alloc (.cells #[.int .i64 pa.x, .int .i64 pa.y, .bool pa.far] 27)) (w1.alloc (.cells #[.int .i64 P, .int .i64 A, .int .i64 B, .int .i64 N, .int .i64 gx, .int .i64 gy] 25)).heap.size ⟨pa.x, pa.y, pa.far⟩) := PtAt.alloc (w1.alloc (.cells #[.int .i64 P, .int .i64 A, .int .i64 B, .int .i64 N, .int .i64 gx, .int .i64 gy] 25)) ⟨pa.x, pa.y, pa.far⟩ 27
  simp only [World.size_alloc] at H_a
  replace H_k := hide (H_k.out.ext (Ext.alloc ((w1.alloc (.cells #[.int .i64 P, .int .i64 A, .int .i64 B, .int .i64 N, .int .i64 gx, .int .i64 gy] 25)).alloc (.cells #[.int .i64 pa.x, .int .i64 pa.y, .bool pa.far] 27)) (.cells #[.int .i64 pb.x, .int .i64 pb.y, .bool pb.far] 27)))
  replace H_a := hide (H_a.out.ext (Ext.alloc ((w1.alloc (.cells #[.int .i64 P, .int .i64 A, .int .i64 B, .int .i64 N, .int .i64 gx, .int .i64 gy] 25)).alloc (.cells #[.int .i64 pa.x, .int .i64 pa.y, .bool pa.far] 27)) (.cells #[.int .i64 pb.x, .int .i64 pb.y, .bool pb.far] 27)))
  replace HB := hide (HB.out.trans (Ext.alloc ((w1.alloc (.cells #[.int .i64 P, .int .i64 A, .int .i64 B, .int .i64 N, .int .i64 gx, .int .i64 gy] 25)).alloc (.cells #[.int .i64 pa.x, .int .i64 pa.y, .bool pa.far] 27)) (.cells #[.int .i64 pb.x, .int .i64 pb.y, .bool pb.far] 27)))
  have H_b : Hid (PtAt (((w1.alloc (.cells #[.int .i64 P, .int .i64 A, .int .i64 B, .int .i64 N, .int .i64 gx, .int .i64 gy] 25)).alloc (.cells #[.int .i64 pa.x, .int .i64 pa.y, .bool pa.far] 27)).alloc (.cells #[.int .i64 pb.x, .int .i64 pb.y, .bool pb.far] 27)) ((w1.alloc (.cells #[.int .i64 P, .int .i64 A, .int .i64 B, .int .i64 N, .int .i64 gx, .int .i64 gy] 25)).alloc (.cells #[.int .i64 pa.x, .int .i64 pa.y, .bool pa.far] 27)).heap.size ⟨pb.x, pb.y, pb.far⟩) := PtAt.alloc ((w1.alloc (.cells #[.int .i64 P, .int .i64 A, .int .i64 B, .int .i64 N, .int .i64 gx, .int .i64 gy] 25)).alloc (.cells #[.int .i64 pa.x, .int .i64 pa.y, .bool pa.far] 27)) ⟨pb.x, pb.y, pb.far⟩ 27
  simp only [World.size_alloc] at H_b
  generalize (((w1.alloc (.cells #[.int .i64 P, .int .i64 A, .int .i64 B, .int .i64 N, .int .i64 gx, .int .i64 gy] 25)).alloc (.cells #[.int .i64 pa.x, .int .i64 pa.y, .bool pa.far] 27)).alloc (.cells #[.int .i64 pb.x, .int .i64 pb.y, .bool pb.far] 27)) = W2 at *
  generalize w1.heap.size = S2 at *
  clear w1
  refine (HC1.out _).mono ?_
  rintro r w3 ⟨a1, g1, c1, rfl, -, hO1, hw3, hc1, -⟩
  replace H_k := hide (H_k.out.ext (hw3))
  replace H_a := hide (H_a.out.ext (hw3))
  replace H_b := hide (H_b.out.ext (hw3))
  replace HB := hide (HB.out.trans (hw3))
  clear hw3 W2
  obtain rfl := hO1.at' p1
  have B1 := hide hO1.toBSeg
  clear hO1
  obtain ⟨⟨k0, k1, k2, k3, k4, k5⟩, fk⟩ := H_k.out
  have l_k := H_k.out.lt
  obtain ⟨a_0, a_1, a_2, -, -, -⟩ := H_a.out
  try dsimp only at a_0 a_1 a_2
  have l_a := H_a.out.lt
  go_wp2_with fail
  clear k0 k1 k2 k3 k4 k5 fk l_k a_0 a_1 a_2 l_a
  refine (HC2.out _).mono ?_
  rintro r w4 ⟨a2, g2, c2, rfl, -, hO2, hw4, hc2, -⟩
  replace H_k := hide (H_k.out.ext (hw4))
  replace H_a := hide (H_a.out.ext (hw4))
  replace H_b := hide (H_b.out.ext (hw4))
  replace HB := hide (HB.out.trans (hw4))
  replace B1 := hide (B1.out.of_all (hw4))
  clear hw4 w3
  obtain rfl := hO2.at' p2
  have B2 := hide hO2.toBSeg
  clear hO2
  obtain ⟨⟨k0, k1, k2, k3, k4, k5⟩, fk⟩ := H_k.out
  have l_k := H_k.out.lt
  go_wp2_with fail
  clear k0 k1 k2 k3 k4 k5 fk l_k
  refine (HC3.out _ _ _ _ _ (hTh.out.all HB.out) B1.out hc1).mono ?_
  rintro r w5 ⟨rfl, hw5⟩
  replace H_k := hide (H_k.out.ext (hw5))
  replace H_a := hide (H_a.out.ext (hw5))
  replace H_b := hide (H_b.out.ext (hw5))
  replace HB := hide (HB.out.trans (hw5))
  replace B1 := hide (B1.out.of_all (hw5))
  replace B2 := hide (B2.out.of_all (hw5))
  clear hw5 w4
  obtain ⟨⟨k0, k1, k2, k3, k4, k5⟩, fk⟩ := H_k.out
  have l_k := H_k.out.lt
  go_wp2_with fail
  clear k0 k1 k2 k3 k4 k5 fk l_k
  replace H_k := hide (H_k.out.ext (Ext.alloc w5 (.cells #[.int .i64 pa.x, .int .i64 pa.y, .bool pa.far] 27)))
  replace H_a := hide (H_a.out.ext (Ext.alloc w5 (.cells #[.int .i64 pa.x, .int .i64 pa.y, .bool pa.far] 27)))
  replace H_b := hide (H_b.out.ext (Ext.alloc w5 (.cells #[.int .i64 pa.x, .int .i64 pa.y, .bool pa.far] 27)))
  replace HB := hide (HB.out.trans (Ext.alloc w5 (.cells #[.int .i64 pa.x, .int .i64 pa.y, .bool pa.far] 27)))
  replace B1 := hide (B1.out.of_all (Ext.alloc w5 (.cells #[.int .i64 pa.x, .int .i64 pa.y, .bool pa.far] 27)))
  replace B2 := hide (B2.out.of_all (Ext.alloc w5 (.cells #[.int .i64 pa.x, .int .i64 pa.y, .bool pa.far] 27)))
  have H_x : Hid (PtAt (w5.alloc (.cells #[.int .i64 pa.x, .int .i64 pa.y, .bool pa.far] 27)) w5.heap.size ⟨pa.x, pa.y, pa.far⟩) := PtAt.alloc w5 ⟨pa.x, pa.y, pa.far⟩ 27
  generalize (w5.alloc (.cells #[.int .i64 pa.x, .int .i64 pa.y, .bool pa.far] 27)) = W6 at *
  generalize w5.heap.size = S6 at *
  clear w5
  refine (HC4.out _ _ _ _ _ (hTh.out.all HB.out) B2.out hc2).mono ?_
  rintro r w7 ⟨rfl, hw7⟩
  replace H_k := hide (H_k.out.ext (hw7))
  replace H_a := hide (H_a.out.ext (hw7))
  replace H_b := hide (H_b.out.ext (hw7))
  replace H_x := hide (H_x.out.ext (hw7))
  replace HB := hide (HB.out.trans (hw7))
  replace B1 := hide (B1.out.of_all (hw7))
  replace B2 := hide (B2.out.of_all (hw7))
  clear hw7 W6
  clear HC1 HC2 HC3 HC4 B1 B2
  have hNe := run_nePt_same
  obtain ⟨a_0, a_1, a_2, -, -, -⟩ := H_a.out
  try dsimp only at a_0 a_1 a_2
  have l_a := H_a.out.lt
  obtain ⟨x_0, x_1, x_2, -, -, -⟩ := H_x.out
  try dsimp only at x_0 x_1 x_2
  have l_x := H_x.out.lt
  go_wp2_with fail
  clear a_0 a_1 a_2 l_a x_0 x_1 x_2 l_x
  replace H_k := hide (H_k.out.ext (Ext.alloc w7 (.cells #[.int .i64 pa.x, .int .i64 pa.y, .bool pa.far] 27)))
  replace H_a := hide (H_a.out.ext (Ext.alloc w7 (.cells #[.int .i64 pa.x, .int .i64 pa.y, .bool pa.far] 27)))
  replace H_b := hide (H_b.out.ext (Ext.alloc w7 (.cells #[.int .i64 pa.x, .int .i64 pa.y, .bool pa.far] 27)))
  replace H_x := hide (H_x.out.ext (Ext.alloc w7 (.cells #[.int .i64 pa.x, .int .i64 pa.y, .bool pa.far] 27)))
  replace HB := hide (HB.out.trans (Ext.alloc w7 (.cells #[.int .i64 pa.x, .int .i64 pa.y, .bool pa.far] 27)))
  have H_y : Hid (PtAt (w7.alloc (.cells #[.int .i64 pa.x, .int .i64 pa.y, .bool pa.far] 27)) w7.heap.size ⟨pa.x, pa.y, pa.far⟩) := PtAt.alloc w7 ⟨pa.x, pa.y, pa.far⟩ 27
  generalize (w7.alloc (.cells #[.int .i64 pa.x, .int .i64 pa.y, .bool pa.far] 27)) = W8 at *
  generalize w7.heap.size = S8 at *
  clear w7
  clear hNe
  clear H_a
  clear H_b
  clear H_x
  clear H_y
  refine (drawPointRead_any a b off n cap f _ (hs.of_all HB.out) hB hn).mono ?_
  rintro e w9 ⟨P', A', B', N', gx', gy', ad, gd, od, md, cd, Fd, rfl, hk, hBd, hrd, hm8, hcd, hw9, hgd⟩
  have gK : 0 < md → gd ≠ S2 := fun h => by have := hgd h; have := H_k.out.lt; omega
  replace H_k := hide (H_k.out.ext (hw9))
  replace HB := hide (HB.out.trans (hw9))
  clear hw9 W8 hgd
  have H2 : CvF (putCv w9 S2 P' A' B' N' gx' gy') S2 P' A' B' N' gx' gy' := H_k.out.put P' A' B' N' gx' gy'
  have HB2 : Ext w (putCv w9 S2 P' A' B' N' gx' gy') := below_putCv HB.out sw P' A' B' N' gx' gy'
  have B2 := hBd.touch (touch_putCv w9 S2 P' A' B' N' gx' gy') gK
  simp only [putCv] at H2 HB2 B2
  replace H2 := hide H2
  replace HB2 := hide HB2
  replace B2 := hide B2
  clear hBd HB gK
  obtain ⟨⟨k0, k1, k2, k3, k4, k5⟩, fk⟩ := H_k.out
  have l_k := H_k.out.lt
  go_wp2_with fail
  clear k0 k1 k2 k3 k4 k5 fk l_k H_k
  generalize ((((((w9.setCell ⟨S2, 0, none⟩ (.int .i64 P')).setCell ⟨S2, 1, none⟩ (.int .i64 A')).setCell ⟨S2, 2, none⟩ (.int .i64 B')).setCell ⟨S2, 3, none⟩ (.int .i64 N')).setCell ⟨S2, 4, none⟩ (.int .i64 gx')).setCell ⟨S2, 5, none⟩ (.int .i64 gy')) = W20 at *
  clear w9
  have HB := HB2
  clear HB2
  have H_k := H2
  clear H2
  have Bd := B2
  clear B2
  refine (implPointRead_any P' A' B' N' gx' gy' ad gd od md cd Fd _ (by have := hk.p1; omega) (by have := hk.n1; omega) (hTh.out.all HB.out) Bd.out hrd hcd).mono ?_
  rintro r w21 ⟨⟨c, ok, rfl, hopt⟩, hw21⟩
  replace H_k := hide (H_k.out.ext (hw21))
  replace HB := hide (HB.out.trans (hw21))
  replace Bd := hide (Bd.out.of_all (hw21))
  clear hw21 W20
  cases ok
  · obtain rfl : c = zeroP := by
      rcases hopt with ⟨h, _⟩ | ⟨_, _, h⟩
      · cases h
      · exact h
    clear hopt
    have hEq := run_eqPt_same
    simp only [zeroP]
    go_wp2
    go_ret
    exact ⟨rfl, Below.alloc HB.out (Below.size HB.out) _⟩
  obtain ⟨hc', hR⟩ : CvOk P' A' B' N' gx' gy' ∧ Reads P'.toNat A' B' md Fd c := by
    rcases hopt with ⟨_, h, k⟩ | ⟨h, _⟩
    · exact ⟨h, k⟩
    · cases h
  clear hopt
  have hback := hide (wrote_back hR hrd)
  have pd := hR.pos
  have oc := hR.on
  have HC5 := bytes_yes hc' oc false
  have HC6 := bytes_yes hc' oc true
  have p5 := ptLen_pos c false
  have p6 := ptLen_pos c true
  generalize ptLen c false true = m5 at *
  generalize ptByte c false = F5 at *
  generalize ptLen c true true = m6 at *
  generalize ptByte c true = F6 at *
  replace HC5 := hide HC5
  replace HC6 := hide HC6
  clear hR oc hc'
  obtain rfl := Bd.out.at' pd
  obtain ⟨⟨k0, k1, k2, k3, k4, k5⟩, fk⟩ := H_k.out
  have l_k := H_k.out.lt
  go_wp2_with fail
  clear k0 k1 k2 k3 k4 k5 fk l_k
  replace H_k := hide (H_k.out.ext (Ext.alloc w21 (.cells #[.int .i64 c.x, .int .i64 c.y, .bool c.far] 27)))
  replace HB := hide (HB.out.trans (Ext.alloc w21 (.cells #[.int .i64 c.x, .int .i64 c.y, .bool c.far] 27)))
  replace Bd := hide (Bd.out.of_all (Ext.alloc w21 (.cells #[.int .i64 c.x, .int .i64 c.y, .bool c.far] 27)))
  have H_p : Hid (PtAt (w21.alloc (.cells #[.int .i64 c.x, .int .i64 c.y, .bool c.far] 27)) w21.heap.size ⟨c.x, c.y, c.far⟩) := PtAt.alloc w21 ⟨c.x, c.y, c.far⟩ 27
  generalize (w21.alloc (.cells #[.int .i64 c.x, .int .i64 c.y, .bool c.far] 27)) = W40 at *
  generalize w21.heap.size = S40 at *
  clear w21
  refine (HC5.out _).mono ?_
  rintro r w41 ⟨a5, g5, c5, rfl, -, hO5, hw41, hc5, -⟩
  replace H_k := hide (H_k.out.ext (hw41))
  replace H_p := hide (H_p.out.ext (hw41))
  replace HB := hide (HB.out.trans (hw41))
  replace Bd := hide (Bd.out.of_all (hw41))
  clear hw41 W40
  obtain rfl := hO5.at' p5
  have B5 := hide hO5.toBSeg
  clear hO5
  obtain ⟨⟨k0, k1, k2, k3, k4, k5⟩, fk⟩ := H_k.out
  have l_k := H_k.out.lt
  obtain ⟨p_0, p_1, p_2, -, -, -⟩ := H_p.out
  try dsimp only at p_0 p_1 p_2
  have l_p := H_p.out.lt
  go_wp2_with fail
  clear k0 k1 k2 k3 k4 k5 fk l_k p_0 p_1 p_2 l_p
  refine (HC6.out _).mono ?_
  rintro r w42 ⟨a6, g6, c6, rfl, -, hO6, hw42, hc6, -⟩
  replace H_k := hide (H_k.out.ext (hw42))
  replace H_p := hide (H_p.out.ext (hw42))
  replace HB := hide (HB.out.trans (hw42))
  replace Bd := hide (Bd.out.of_all (hw42))
  replace B5 := hide (B5.out.of_all (hw42))
  clear hw42 w41
  obtain rfl := hO6.at' p6
  have B6 := hide hO6.toBSeg
  clear hO6
  clear HC5 HC6
  obtain ⟨D, hD⟩ : ∃ D, strOfNums (nums Fd md) = D := ⟨_, rfl⟩
  have cvD := conv_bytes (cap := cd) Bd.out
  rw [hD] at cvD
  have cv5 := conv_bytes (cap := c5) B5.out
  have cv6 := conv_bytes (cap := c6) B6.out
  rcases hback.out with ⟨hm, hF⟩ | ⟨hm, hF⟩
  · subst hm
    rw [nums_congr hF, hD] at cv5
    clear cv6 hF hD hback
    go_wp2
    go_ret
    exact ⟨rfl, HB.out⟩
  · subst hm
    rw [nums_congr hF, hD] at cv6
    generalize strOfNums (nums F5 m5) = E at *
    clear hF hD hback
    cases hE : (E.toList == D.toList)
    · go_wp2
      go_ret
      exact ⟨rfl, HB.out⟩
    · go_wp2
      go_ret
      exact ⟨rfl, HB.out⟩

end Go.Proofs.YtcfpmillbdkpcaaDoor
