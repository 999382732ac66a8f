/- Walks: curves of the program: groupOf, fold. -/
import Derived.Test.YtnhemiaklkkilaaDoorCurveL2
import Derived.Laws.EntriesVeiled
import Derived.Test.YtnhemiaklkkilaaDoorPowInt
namespace Go.Proofs.YtnhemiaklkkilaaDoor
set_option linter.unusedVariables false
open Go.RowKit

/-- A curve as the program has it. -/
def cvV (P A B N gx gy : Int) : Value := .agg #[.int .i64 P, .int .i64 A, .int .i64 B, .int .i64 N, .int .i64 gx, .int .i64 gy]

/-- A group of one curve's operations. -/
def grpV (P A B N gx gy : Int) : Value := .agg #[.func (.func 54) #[cvV P A B N gx gy] #[], .func (.func 55) #[cvV P A B N gx gy] #[], .func (.func 56) #[cvV P A B N gx gy] #[], .func (.func 57) #[cvV P A B N gx gy] #[]]

set_option maxHeartbeats 400000 in
theorem groupOf_any (P A B N gx gy : Int) (w : World) : Calls Tryd.prog 32 #[.agg #[.int .i64 P, .int .i64 A, .int .i64 B, .int .i64 N, .int .i64 gx, .int .i64 gy]] w fun r w' => r = .returned (grpV P A B N gx gy) ∧ Below w.heap.size w w' := by
  have hmf : ∀ (fn : Fn) (first cap : Array Value) (w : World), (Instr.makeFunc fn first cap).run Tryd.prog w = .ok (.func fn first cap) w := fun _ _ _ _ => rfl
  go_enter Tryd.func32, Tryd.ntmps32
  go_wp2
  refine bodyPost_ret (v := grpV P A B N gx gy) (by simp [results, Tryd.results32, go_sem, grpV, cvV]) rfl ⟨rfl, ?_⟩
  repeat (first | exact Below.refl _ _ | refine Below.setCell ?_ (by simp <;> omega) _ | refine Below.alloc ?_ (by simp <;> omega) _)

/-- The group in a block of its own. -/
structure GrpAt (w : World) (C : Nat) (P A B N gx gy : Int) : Prop where
  c0 : w.cell? ⟨C, 0, none⟩ = some (.func (.func 54) #[.agg #[.int .i64 P, .int .i64 A, .int .i64 B, .int .i64 N, .int .i64 gx, .int .i64 gy]] #[])
  c1 : w.cell? ⟨C, 1, none⟩ = some (.func (.func 55) #[.agg #[.int .i64 P, .int .i64 A, .int .i64 B, .int .i64 N, .int .i64 gx, .int .i64 gy]] #[])
  c2 : w.cell? ⟨C, 2, none⟩ = some (.func (.func 56) #[.agg #[.int .i64 P, .int .i64 A, .int .i64 B, .int .i64 N, .int .i64 gx, .int .i64 gy]] #[])
  c3 : w.cell? ⟨C, 3, none⟩ = some (.func (.func 57) #[.agg #[.int .i64 P, .int .i64 A, .int .i64 B, .int .i64 N, .int .i64 gx, .int .i64 gy]] #[])

theorem GrpAt.below {w w' : World} {C : Nat} {P A B N gx gy : Int} (h : GrpAt w C P A B N gx gy) {S : Nat} (hb : Below S w w') (hC : C < S) : GrpAt w' C P A B N gx gy :=
  ⟨(hb.cell (p := ⟨C, 0, none⟩) hC).trans h.c0, (hb.cell (p := ⟨C, 1, none⟩) hC).trans h.c1, (hb.cell (p := ⟨C, 2, none⟩) hC).trans h.c2, (hb.cell (p := ⟨C, 3, none⟩) hC).trans h.c3⟩

theorem GrpAt.put_other {w : World} {C D : Nat} {P A B N gx gy : Int} (h : GrpAt w D P A B N gx gy) (b : Pt) (hne : D ≠ C) : GrpAt (putPt w C b) D P A B N gx gy :=
  ⟨(cell_put hne).trans h.c0, (cell_put hne).trans h.c1, (cell_put hne).trans h.c2, (cell_put hne).trans h.c3⟩

theorem GrpAt.alloc (w : World) (P A B N gx gy : Int) (t : TypeId) : GrpAt (w.alloc (.cells #[.func (.func 54) #[.agg #[.int .i64 P, .int .i64 A, .int .i64 B, .int .i64 N, .int .i64 gx, .int .i64 gy]] #[], .func (.func 55) #[.agg #[.int .i64 P, .int .i64 A, .int .i64 B, .int .i64 N, .int .i64 gx, .int .i64 gy]] #[], .func (.func 56) #[.agg #[.int .i64 P, .int .i64 A, .int .i64 B, .int .i64 N, .int .i64 gx, .int .i64 gy]] #[], .func (.func 57) #[.agg #[.int .i64 P, .int .i64 A, .int .i64 B, .int .i64 N, .int .i64 gx, .int .i64 gy]] #[]] t)) w.heap.size P A B N gx gy :=
  ⟨by simp [go_sem], by simp [go_sem], by simp [go_sem], by simp [go_sem]⟩

/-- What fold's loop keeps: the group, the point, the answer's block and the sum so far, in block S. -/
structure FoldAt (w wr : World) (S : Nat) (P A B N gx gy : Int) (b o : Pt) : Prop where
  gr : GrpAt wr w.heap.size P A B N gx gy
  pt : PtAt wr (w.heap.size + 1) b
  rs : ∃ z, PtAt wr (w.heap.size + 1 + 1) z
  ot : PtAt wr S o
  lo : w.heap.size + 3 ≤ S
  below : Below w.heap.size w wr
  big : S + 1 ≤ wr.heap.size

theorem FoldAt.call {w wr w1 : World} {S : Nat} {P A B N gx gy : Int} {b o : Pt} (h : FoldAt w wr S P A B N gx gy b o) (hb : Below wr.heap.size wr w1) : FoldAt w w1 S P A B N gx gy b o :=
  ⟨h.gr.below hb (by have := h.big; have := h.lo; omega), h.pt.below hb (by have := h.big; have := h.lo; omega), h.rs.imp fun z hz => hz.below hb (by have := h.big; have := h.lo; omega), h.ot.below hb (by have := h.big; omega), h.lo, h.below.trans (hb.mono (by have := h.big; have := h.lo; omega)), Nat.le_trans h.big hb.size⟩

theorem FoldAt.putO {w wr : World} {S : Nat} {P A B N gx gy : Int} {b o : Pt} (h : FoldAt w wr S P A B N gx gy b o) (c : Pt) : FoldAt w (putPt wr S c) S P A B N gx gy b c :=
  ⟨h.gr.put_other _ (by have := h.lo; omega), h.pt.put_other _ (by have := h.lo; omega), h.rs.imp fun z hz => hz.put_other _ (by have := h.lo; omega), h.ot.put _, h.lo, below_put h.below (by have := h.lo; omega) _, by rw [size_put]; exact h.big⟩

theorem FoldAt.putB {w wr : World} {S : Nat} {P A B N gx gy : Int} {b o : Pt} (h : FoldAt w wr S P A B N gx gy b o) (c : Pt) : FoldAt w (putPt wr (w.heap.size + 1) c) S P A B N gx gy c o :=
  ⟨h.gr.put_other _ (by omega), h.pt.put _, h.rs.imp fun z hz => hz.put_other _ (by omega), h.ot.put_other _ (by have := h.lo; omega), h.lo, below_put h.below (by omega) _, by rw [size_put]; exact h.big⟩

/-- The three boxes of fold. -/
theorem FoldAt.box (w : World) (P A B N gx gy : Int) (a : Pt) (t1 t2 t3 : TypeId) {w1 : World}
    (hb : Below (((w.alloc (.cells #[.func (.func 54) #[.agg #[.int .i64 P, .int .i64 A, .int .i64 B, .int .i64 N, .int .i64 gx, .int .i64 gy]] #[], .func (.func 55) #[.agg #[.int .i64 P, .int .i64 A, .int .i64 B, .int .i64 N, .int .i64 gx, .int .i64 gy]] #[], .func (.func 56) #[.agg #[.int .i64 P, .int .i64 A, .int .i64 B, .int .i64 N, .int .i64 gx, .int .i64 gy]] #[], .func (.func 57) #[.agg #[.int .i64 P, .int .i64 A, .int .i64 B, .int .i64 N, .int .i64 gx, .int .i64 gy]] #[]] t1)).alloc (.cells #[.int .i64 a.x, .int .i64 a.y, .bool a.far] t2)).alloc (.cells #[.int .i64 0, .int .i64 0, .bool false] t3)).heap.size (((w.alloc (.cells #[.func (.func 54) #[.agg #[.int .i64 P, .int .i64 A, .int .i64 B, .int .i64 N, .int .i64 gx, .int .i64 gy]] #[], .func (.func 55) #[.agg #[.int .i64 P, .int .i64 A, .int .i64 B, .int .i64 N, .int .i64 gx, .int .i64 gy]] #[], .func (.func 56) #[.agg #[.int .i64 P, .int .i64 A, .int .i64 B, .int .i64 N, .int .i64 gx, .int .i64 gy]] #[], .func (.func 57) #[.agg #[.int .i64 P, .int .i64 A, .int .i64 B, .int .i64 N, .int .i64 gx, .int .i64 gy]] #[]] t1)).alloc (.cells #[.int .i64 a.x, .int .i64 a.y, .bool a.far] t2)).alloc (.cells #[.int .i64 0, .int .i64 0, .bool false] t3)) w1) (t4 : TypeId) :
    FoldAt w (w1.alloc (.cells #[.int .i64 0, .int .i64 0, .bool true] t4)) w1.heap.size P A B N gx gy a farP := by
  have hs : w.heap.size + 3 ≤ w1.heap.size := by have := hb.size; simp at this; omega
  have hn : Below w1.heap.size w1 (w1.alloc (.cells #[.int .i64 0, .int .i64 0, .bool true] t4)) := (Below.refl _ _).alloc (Nat.le_refl _) _
  refine ⟨GrpAt.below (GrpAt.below (S := w.heap.size + 3) ?_ (hb.mono (by simp <;> omega)) (by omega)) hn (by omega), PtAt.below (PtAt.below (S := w.heap.size + 3) ?_ (hb.mono (by simp <;> omega)) (by omega)) hn (by omega), ⟨zeroP, PtAt.below (PtAt.below (S := w.heap.size + 3) ?_ (hb.mono (by simp <;> omega)) (by omega)) hn (by omega)⟩, PtAt.alloc w1 farP t4, hs, ?_, by simp⟩
  · exact ⟨by simp [go_sem], by simp [go_sem], by simp [go_sem], by simp [go_sem]⟩
  · exact ⟨by simp [go_sem], by simp [go_sem], by simp [go_sem], by simp [go_sem], by simp [go_sem], by simp [go_sem]⟩
  · exact ⟨by simp [go_sem, zeroP], by simp [go_sem, zeroP], by simp [go_sem, zeroP], by simp [go_sem], by simp [go_sem], by simp [go_sem]⟩
  · refine Below.trans (Below.trans ?_ (hb.mono (by simp <;> omega))) (hn.mono (by omega))
    repeat (first | exact Below.refl _ _ | refine Below.alloc ?_ (by simp <;> omega) _)

set_option maxHeartbeats 1600000 in
theorem fold_any (p : Nat) (A B N gx gy : Int) (n : Nat) (a : Pt) (w : World) (hc : Cv p A B) (pM : p ≤ 1048576) (A0 : 0 ≤ A) (A1 : A < p) (ha : On p A B a) (hn : n ≤ 9223372036854775807) :
    Calls Tryd.prog 34 #[.agg #[.func (.func 54) #[.agg #[.int .i64 p, .int .i64 A, .int .i64 B, .int .i64 N, .int .i64 gx, .int .i64 gy]] #[], .func (.func 55) #[.agg #[.int .i64 p, .int .i64 A, .int .i64 B, .int .i64 N, .int .i64 gx, .int .i64 gy]] #[], .func (.func 56) #[.agg #[.int .i64 p, .int .i64 A, .int .i64 B, .int .i64 N, .int .i64 gx, .int .i64 gy]] #[], .func (.func 57) #[.agg #[.int .i64 p, .int .i64 A, .int .i64 B, .int .i64 N, .int .i64 gx, .int .i64 gy]] #[]], .int .i64 n, .agg #[.int .i64 a.x, .int .i64 a.y, .bool a.far]] w fun r w' => r = .returned (ptV (mulF p A n a)) ∧ Below w.heap.size w w' := by
  have Hadd : Hid (∀ (a b : Pt) (w : World), On p A B a → On p A B b → Calls Tryd.prog 55 #[.agg #[.int .i64 p, .int .i64 A, .int .i64 B, .int .i64 N, .int .i64 gx, .int .i64 gy], .agg #[.int .i64 a.x, .int .i64 a.y, .bool a.far], .agg #[.int .i64 b.x, .int .i64 b.y, .bool b.far]] w fun r w' => r = .returned (ptV (addF p A a b)) ∧ Below w.heap.size w w') := fun a b w ha hb => add_any p A B N gx gy a b w hc pM A0 A1 ha hb
  have Hin : Hid (∀ a b : Pt, On p A B a → On p A B b → On p A B (addF p A a b)) := fun a b ha hb => addF_on hc ha hb
  have Hs : Hid (mulAcc p A 64 n farP a = mulF p A n a) := rfl
  have Ha : Hid (On p A B a) := ha
  have Hf : Hid (On p A B farP) := on_far _ _ _
  have hlen := Lib.bitLen_le n 64 (by omega) (by omega)
  have Hlt := hide (bitLen_lt n (by omega))
  generalize mulF p A n a = R at *
  clear hc pM A0 A1 ha
  go_enter Tryd.func34, Tryd.ntmps34
  go_wp2_with fail
  refine (farPoint_any _).mono ?_
  rintro r w1 ⟨rfl, hw1⟩
  have F1 := FoldAt.box w p A B N gx gy a 62 27 27 hw1 27
  have HF1 := hide F1
  clear F1 hw1
  simp only [ptV, farP]
  go_wp2_with fail
  refine (len_all (n : Int) _ (by omega) (by omega)).mono ?_
  rintro r w' ⟨rfl, hw⟩
  subst hw
  rw [Int.toNat_natCast]
  generalize w1.alloc (.cells #[.int .i64 0, .int .i64 0, .bool true] 27) = w2 at *
  generalize w1.heap.size = S at *
  generalize Lib.bitLen n = L at *
  go_wp2
  go_loopw [13] (fun i wr => ∃ (K : Nat) (o b : Pt), i = .int .i64 K ∧ K ≤ L ∧ On p A B o ∧ On p A B b ∧ mulAcc p A (64 - K) (n / 2 ^ K) o b = R ∧ FoldAt w wr S p A B N gx gy b o) (fun i _ => L - (intOf i).toNat)
  case atStart => exact ⟨0, farP, a, rfl, by omega, Hf.out, Ha.out, by simpa using Hs.out, HF1.out⟩
  case round =>
    obtain ⟨K, o, b, rfl, hK, ho, hb, hacc, hM⟩ := hrel
    have HM := hide hM
    have Hacc := hide hacc
    clear Hs Ha Hf hacc HF1
    obtain ⟨⟨k0, k1, k2, k3⟩, ⟨b0, b1, b2, bf0, bf1, bf2⟩, ⟨z, ⟨z0, z1, z2, zf0, zf1, zf2⟩⟩, ⟨o0, o1, o2, of0, of1, of2⟩, hlo, hbel, hbig⟩ := hM
    have ne1 : ¬ S = w.heap.size + 1 := by omega
    have ne2 : ¬ S = w.heap.size + 1 + 1 := by omega
    have ne3 : ¬ w.heap.size + 1 = S := by omega
    have ne4 : ¬ w.heap.size + 1 + 1 = S := by omega
    have ne5 : ¬ S = w.heap.size := by omega
    have ne6 : ¬ w.heap.size = S := by omega
    by_cases hend : K = L
    · subst hend
      have e : o = R := by rw [← Hacc.out, Nat.div_eq_of_lt Hlt.out, mulAcc_zero]
      subst e
      go_wp2
      refine bodyPost_ret (v := .agg #[.int .i64 o.x, .int .i64 o.y, .bool o.far]) (by simp [results, Tryd.results34, go_sem, z0, z1, z2]) rfl ⟨rfl, ?_⟩
      exact below_put hbel (C := w.heap.size + 1 + 1) (by omega) o
    · have hlt : (K : Int) < (L : Int) := by omega
      obtain ⟨f', hf'⟩ : ∃ f', 64 - K = f' + 1 := ⟨63 - K, by omega⟩
      have Hac : Hid (mulAcc p A (64 - (K + 1)) (n / 2 ^ (K + 1)) (if n / 2 ^ K % 2 = 1 then addF p A o b else o) (addF p A b b) = R) := by
        have := Hacc.out
        rw [hf', mulAcc] at this
        rw [show 64 - (K + 1) = f' by omega, Nat.pow_succ, ← Nat.div_div_eq_div_mul]
        exact this
      have Hbb := hide (Hin.out b b hb hb)
      clear Hacc hf'
      by_cases hodd : n / 2 ^ K % 2 = 1
      · have hbt : (bits .and .i64 ((n : Int) / 2 ^ K) 1 == 1) = true := by rw [bit_test]; simpa using hodd
        have Hob := hide (Hin.out o b ho hb)
        have Ha2 : Hid (mulAcc p A (64 - (K + 1)) (n / 2 ^ (K + 1)) (addF p A o b) (addF p A b b) = R) := by have := Hac.out; rwa [if_pos hodd] at this
        clear Hac hodd
        go_wp2_with fail
        refine (Hadd.out o b _ ho hb).mono ?_
        rintro e w3 ⟨rfl, hw3⟩
        generalize addF p A o b = c at *
        have M1 := HM.out.call hw3
        have HM1 := hide M1
        clear hw3 HM k0 k1 k2 k3 b0 b1 b2 bf0 bf1 bf2 z0 z1 z2 zf0 zf1 zf2 o0 o1 o2 of0 of1 of2 hbel hbig hlo
        obtain ⟨⟨k0, k1, k2, k3⟩, ⟨b0, b1, b2, bf0, bf1, bf2⟩, -, ⟨o0, o1, o2, of0, of1, of2⟩, -, -, -⟩ := M1
        simp only [ptV]
        go_wp2_with fail
        refine (Hadd.out b b _ hb hb).mono ?_
        rintro e w4 ⟨rfl, hw4⟩
        generalize addF p A b b = d at *
        have M2 := (HM1.out.putO c).call hw4
        have HM2 := hide M2
        clear hw4 HM1 k0 k1 k2 k3 b0 b1 b2 bf0 bf1 bf2 o0 o1 o2 of0 of1 of2
        obtain ⟨⟨k0, k1, k2, k3⟩, ⟨b0, b1, b2, bf0, bf1, bf2⟩, -, ⟨o0, o1, o2, of0, of1, of2⟩, -, -, -⟩ := M2
        simp only [ptV]
        go_wp2
        go_roundw
        case rel => exact ⟨K + 1, c, d, by go_num, by omega, Hob.out, Hbb.out, Ha2.out, HM2.out.putB d⟩
        case measure => simp [intOf]; omega
      · have hbt : (bits .and .i64 ((n : Int) / 2 ^ K) 1 == 1) = false := by rw [bit_test]; simpa using hodd
        have Ha2 : Hid (mulAcc p A (64 - (K + 1)) (n / 2 ^ (K + 1)) o (addF p A b b) = R) := by have := Hac.out; rwa [if_neg hodd] at this
        clear Hac hodd
        go_wp2_with fail
        refine (Hadd.out b b _ hb hb).mono ?_
        rintro e w4 ⟨rfl, hw4⟩
        generalize addF p A b b = d at *
        have M2 := HM.out.call hw4
        have HM2 := hide M2
        clear hw4 HM k0 k1 k2 k3 b0 b1 b2 bf0 bf1 bf2 z0 z1 z2 zf0 zf1 zf2 o0 o1 o2 of0 of1 of2 hbel hbig hlo
        obtain ⟨⟨k0, k1, k2, k3⟩, ⟨b0, b1, b2, bf0, bf1, bf2⟩, -, ⟨o0, o1, o2, of0, of1, of2⟩, -, -, -⟩ := M2
        simp only [ptV]
        go_wp2
        go_roundw
        case rel => exact ⟨K + 1, o, d, by go_num, by omega, ho, Hbb.out, Ha2.out, HM2.out.putB d⟩
        case measure => simp [intOf]; omega

end Go.Proofs.YtnhemiaklkkilaaDoor
