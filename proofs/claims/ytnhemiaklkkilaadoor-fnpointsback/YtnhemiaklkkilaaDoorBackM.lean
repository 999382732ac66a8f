/- What the law of points and bytes needs: a point's bytes tell it, and what is read of bytes is written as these. -/
import Derived.Test.YtnhemiaklkkilaaDoorCurvesM
import Derived.Test.YtnhemiaklkkilaaDoorCurveD3
import Derived.Laws.BytesArg
namespace Go.Proofs.YtnhemiaklkkilaaDoor
set_option linter.unusedVariables false
open Go.RowKit Go.Sort

theorem CvF.ext {w w' : World} {C : Nat} {p A B N x y : Int} (h : CvF w C p A B N x y) (e : Ext w w') : CvF w' C p A B N x y := h.of_block (e.block C h.lt)

theorem three_back {x : Int} (h0 : 0 ≤ x) (h1 : x ≤ 16777215) : xb x 0 * 65536 + xb x 1 * 256 + xb x 2 = x := by
  simp only [xb]
  simp
  omega

theorem three_bytes {a b c : Int} (a0 : 0 ≤ a) (a1 : a ≤ 255) (b0 : 0 ≤ b) (b1 : b ≤ 255) (c0 : 0 ≤ c) (c1 : c ≤ 255) : xb (a * 65536 + b * 256 + c) 0 = a ∧ xb (a * 65536 + b * 256 + c) 1 = b ∧ xb (a * 65536 + b * 256 + c) 2 = c := by
  simp only [xb]
  simp
  omega

section
variable {P A B N gx gy : Int}

theorem reads_back (hc : CvOk P A B N gx gy) {a : Pt} (ha : On P.toNat A B a) (sh : Bool) : Reads P.toNat A B (ptLen a sh true) (ptByte a sh) a := by
  obtain ⟨⟨x0, x1⟩, y0, y1⟩ := on_range hc ha
  cases hf : a.far
  · cases sh
    · refine Or.inr (Or.inl ⟨by simp [ptLen, hf], by simp [ptByte, hf], ?_, ha⟩)
      refine Pt.ext' ?_ ?_ hf
      · have := three_back x0 x1
        simp [rd3, ptByte, hf]
        omega
      · have := three_back y0 y1
        simp [rd3, ptByte, hf]
        omega
    · refine Or.inr (Or.inr ⟨by simp [ptLen, hf], ?_, hf, ?_, ?_, ha⟩)
      · simp [ptByte, hf]; omega
      · have := three_back x0 x1
        simp [rd3, ptByte, hf]
        omega
      · simp [ptByte, hf]; omega
  · exact Or.inl ⟨by simp [ptLen, hf], by simp [ptByte, hf], ha.far_eq hf⟩

theorem Reads.on {n : Nat} {f : Nat → Int} {c : Pt} (h : Reads P.toNat A B n f c) : On P.toNat A B c := by
  rcases h with ⟨_, _, rfl⟩ | ⟨_, _, _, h⟩ | ⟨_, _, _, _, _, h⟩
  · exact on_far _ _ _
  · exact h
  · exact h

theorem Reads.pos {n : Nat} {f : Nat → Int} {c : Pt} (h : Reads P.toNat A B n f c) : 0 < n := by
  rcases h with ⟨h, _⟩ | ⟨h, _⟩ | ⟨h, _⟩ <;> omega

theorem wrote_back {n : Nat} {f : Nat → Int} {c : Pt} (h : Reads P.toNat A B n f c) (hr : ∀ i, i < n → 0 ≤ f i ∧ f i ≤ 255) : (ptLen c false true = n ∧ ∀ i, i < n → ptByte c false i = f i) ∨ (ptLen c true true = n ∧ ∀ i, i < n → ptByte c true i = f i) := by
  rcases h with ⟨rfl, h0, rfl⟩ | ⟨rfl, h0, rfl, _⟩ | ⟨rfl, h0, hf, hx, hy, _⟩
  · refine Or.inl ⟨rfl, fun i hi => ?_⟩
    obtain rfl : i = 0 := by omega
    rw [h0]; rfl
  · refine Or.inl ⟨rfl, fun i hi => ?_⟩
    have r1 := hr 1 (by omega); have r2 := hr 2 (by omega); have r3 := hr 3 (by omega)
    have r4 := hr 4 (by omega); have r5 := hr 5 (by omega); have r6 := hr 6 (by omega)
    obtain ⟨e1, e2, e3⟩ := three_bytes r1.1 r1.2 r2.1 r2.2 r3.1 r3.2
    obtain ⟨e4, e5, e6⟩ := three_bytes r4.1 r4.2 r5.1 r5.2 r6.1 r6.2
    have : i = 0 ∨ i = 1 ∨ i = 2 ∨ i = 3 ∨ i = 4 ∨ i = 5 ∨ i = 6 := by omega
    rcases this with rfl | rfl | rfl | rfl | rfl | rfl | rfl
    · exact h0.symm
    · exact e1
    · exact e2
    · exact e3
    · exact e4
    · exact e5
    · exact e6
  · refine Or.inr ⟨by simp [ptLen, hf], fun i hi => ?_⟩
    have r1 := hr 1 (by omega); have r2 := hr 2 (by omega); have r3 := hr 3 (by omega)
    obtain ⟨e1, e2, e3⟩ := three_bytes r1.1 r1.2 r2.1 r2.2 r3.1 r3.2
    have hx' : c.x = f 1 * 65536 + f 2 * 256 + f 3 := hx
    have : i = 0 ∨ i = 1 ∨ i = 2 ∨ i = 3 := by omega
    rcases this with rfl | rfl | rfl | rfl
    · simp [ptByte, hf]; omega
    · simp only [ptByte, hf, hx']; exact e1
    · simp only [ptByte, hf, hx']; exact e2
    · simp only [ptByte, hf, hx']; exact e3

theorem bytes_yes (hc : CvOk P A B N gx gy) {a : Pt} (ha : On P.toNat A B a) (sh : Bool) (w : World) : Calls Tryd.prog 17 #[.agg #[.int .i64 P, .int .i64 A, .int .i64 B, .int .i64 N, .int .i64 gx, .int .i64 gy], .agg #[.int .i64 a.x, .int .i64 a.y, .bool a.far], .bool sh] w fun e w' => GivesBs w (ptLen a sh true) (ptByte a sh) true e w' := by
  refine (implPointBytes_any P A B N gx gy a sh w hc.p63 hc.n63).mono ?_
  rintro e w' ⟨ok, hok, h⟩
  obtain rfl : ok = true := hok.2 ⟨hc, ha⟩
  exact h

theorem read_yes (hc : CvOk P A B N gx gy) {a : Pt} {m : Nat} {F : Nat → Int} (hR : Reads P.toNat A B m F a) (hr : ∀ i, i < m → 0 ≤ F i ∧ F i ≤ 255) (ab : Option Addr) (b off cap : Nat) (w : World) (hT : Tab w) (hs : BSeg w ab b off m F) (hcap : m ≤ cap) :
    Calls Tryd.prog 18 #[.agg #[.int .i64 P, .int .i64 A, .int .i64 B, .int .i64 N, .int .i64 gx, .int .i64 gy], .slice ab m cap] w fun r w' => r = .returned (.tuple #[.agg #[.int .i64 a.x, .int .i64 a.y, .bool a.far], .bool true]) ∧ Below w.heap.size w w' := by
  refine (implPointRead_any P A B N gx gy ab b off m cap F w hc.p63 hc.n63 hT hs hr hcap).mono ?_
  rintro r w' ⟨⟨c, ok, rfl, h⟩, hw⟩
  obtain ⟨rfl, rfl⟩ := OptRd.unique (Or.inl ⟨rfl, hc, hR⟩) h
  exact ⟨rfl, hw⟩

theorem ptLen_pos (a : Pt) (sh : Bool) : 0 < ptLen a sh true := by cases h : a.far <;> cases sh <;> simp [ptLen, h]

theorem ptByte_range' (hc : CvOk P A B N gx gy) {q : Pt} (ha : On P.toNat A B q) (sh : Bool) (i : Nat) : 0 ≤ ptByte q sh i ∧ ptByte q sh i ≤ 255 := by
  obtain ⟨⟨x0, x1⟩, y0, y1⟩ := on_range hc ha
  unfold ptByte xb
  repeat' split
  all_goals omega

end

/-- The first m numbers. -/
def nums (F : Nat → Int) (m : Nat) : List Int := (List.range m).map F

theorem nums_congr {F G : Nat → Int} {m : Nat} (h : ∀ i, i < m → F i = G i) : nums F m = nums G m :=
  List.map_congr_left (fun i hi => h i (List.mem_range.1 hi))

theorem conv_bytes {w : World} {g o m cap : Nat} {F : Nat → Int} (hs : BSeg w (some ⟨g, o, none⟩) g o m F) : (convert 22 9 (.slice (some ⟨g, o, none⟩) m cap)).run Tryd.prog w = .ok (.string (strOfNums (nums F m))) w :=
  run_convert_bytes_arg w 22 5 (by kernel_rfl) (by kernel_rfl) g o m cap (nums F m) (by simp [nums]) (fun i hi => by
    rw [hs.cell i hi]
    simp [nums, hi]) 9 (by kernel_rfl)

end Go.Proofs.YtnhemiaklkkilaaDoor
