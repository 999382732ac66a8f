/- Walks: a point read of bytes by the program: root, known, at. Walks: PointRead of the program. Walks: PointRead of the program. -/
import Derived.Test.YtnhemiaklkkilaaDoorCurveRT
import Derived.Test.YtnhemiaklkkilaaDoorCurveU
import Derived.Test.YtnhemiaklkkilaaDoorRoot2
import Derived.Test.YtnhemiaklkkilaaDoorCurveB2
namespace Go.Proofs.YtnhemiaklkkilaaDoor
set_option linter.unusedVariables false

set_option linter.unusedSimpArgs false
open Go.RowKit Go.Sort

theorem Tab.one {w : World} (h : Tab w) : 1 < w.heap.size := World.block_lt_of_cell? _ _ (h 0 (by omega))
theorem Tab.below {w w' : World} (h : Tab w) {S : Nat} (hb : Below S w w') (hS : 1 < S) : Tab w' := fun j hj => (hb.cell (p := ⟨1, j, none⟩) hS).trans (h j hj)
theorem Tab.all {w w' : World} (h : Tab w) (hb : Below w.heap.size w w') : Tab w' := h.below hb h.one

theorem rootAns_some (a p : Int) (hp : RootOk a p) : ∃ v ok, RootAns a p v ok := by
  by_cases h : ∃ n : Nat, (n : Int) * n % p = a
  · have hex : ∃ n : Nat, ((n : Int) * n % p = a ∧ ∀ m : Nat, m < n → ¬ (m : Int) * m % p = a) := by
      obtain ⟨n, hn⟩ := h
      induction n using Nat.strongRecOn with
      | ind n ih =>
        by_cases k : ∃ m : Nat, m < n ∧ (m : Int) * m % p = a
        · obtain ⟨m, hm, hm'⟩ := k
          exact ih m hm hm'
        · exact ⟨n, hn, fun m hm hm' => k ⟨m, hm, hm'⟩⟩
    obtain ⟨n, hn, hl⟩ := hex
    refine ⟨n, true, fun _ => ⟨hp, by omega, hn, ?_⟩, fun h => by simp at h⟩
    intro x h0 h1
    obtain ⟨y, rfl⟩ := Int.eq_ofNat_of_zero_le h0
    exact hl y (by omega)
  · refine ⟨0, false, fun h => by simp at h, fun _ => ⟨rfl, ?_⟩⟩
    rintro ⟨_, x, h0, hx⟩
    obtain ⟨y, rfl⟩ := Int.eq_ofNat_of_zero_le h0
    exact h ⟨y, hx⟩

theorem implRootInt_at {a p v : Int} {ok : Bool} (hA : RootAns a p v ok) (h0 : 0 ≤ p) (h1 : p ≤ 9223372036854775807) (w : World) (hT : Tab w) : Calls Tryd.prog 66 #[.int .i64 a, .int .i64 p] w fun r w' => r = .returned (.tuple #[.int .i64 v, .bool ok]) ∧ Below w.heap.size w w' := by
  refine (implRootInt_any a p w hT (by omega) h1).mono ?_
  rintro r w' ⟨⟨v', ok', rfl, hA'⟩, rfl⟩
  obtain ⟨rfl, rfl⟩ := hA.unique hA'
  exact ⟨rfl, Below.refl _ _⟩

/-- What root answers: a number beside x, if there is one. -/
def OptRt (P A B x v : Int) (ok : Bool) : Prop := (ok = true ∧ Aff P.toNat A B x v) ∨ (ok = false ∧ ∀ z, ¬ Aff P.toNat A B x z)

theorem optRt_of_root {P A B N x v : Int} {ok : Bool} (h : CvNum P A B N) (x0 : 0 ≤ x) (x1 : x < P) (hA : RootAns (sqV P A B x) P v ok) : OptRt P A B x v ok := by
  have h5 := h.p5
  cases ok
  · right
    refine ⟨rfl, fun z hz => (hA.2 rfl).2 ⟨⟨by omega, h.pM, h.pp, Int.emod_nonneg _ (by omega), Int.emod_lt_of_pos _ (by omega)⟩, z, hz.y0, hz.sq (by omega)⟩⟩
  · left
    obtain ⟨_, v0, hv, hl⟩ := hA.1 rfl
    have v1 : v < P := by
      by_cases k : v < P
      · exact k
      · refine absurd ?_ (hl (v - P) (by omega) (by omega))
        rw [← hv]
        refine mod_eq ⟨P - 2 * v, by grind⟩
    exact ⟨rfl, Aff.of_sq (by omega) x0 x1 v0 v1 hv⟩

def GivesRt (P A B x : Int) (r : Ending) : Prop := ∃ v ok, r = .returned (.tuple #[.int .i64 v, .bool ok]) ∧ OptRt P A B x v ok

set_option maxHeartbeats 800000 in
set_option maxRecDepth 100000 in
theorem root_any (P A B N gx gy x : Int) (w : World) (hT : Tab w) (h : CvNum P A B N) : Calls Tryd.prog 57 #[.agg #[.int .i64 P, .int .i64 A, .int .i64 B, .int .i64 N, .int .i64 gx, .int .i64 gy], .int .i64 x] w fun r w' => GivesRt P A B x r ∧ Below w.heap.size w w' := by
  have K0 := CvAt.alloc w P A B N gx gy 25
  have HK := hide K0
  have HB : Hid (Below w.heap.size w (w.alloc (.cells #[.int .i64 P, .int .i64 A, .int .i64 B, .int .i64 N, .int .i64 gx, .int .i64 gy] 25))) := (Below.refl _ _).alloc (Nat.le_refl _) _
  obtain ⟨k0, k1, k2, k3, k4, k5⟩ := K0
  go_enter Tryd.func57, Tryd.ntmps57
  go_wp2_with fail
  refine (inField_any P A B N gx gy x _).mono ?_
  rintro r w1 ⟨rfl, hw1⟩
  have K1 := HK.out.below hw1 (by simp)
  have B1 : Hid (Below w.heap.size w w1) := HB.out.trans (hw1.mono (by simp))
  clear k0 k1 k2 k3 k4 k5 HK HB hw1
  obtain ⟨k0, k1, k2, k3, k4, k5⟩ := K1
  by_cases hx : 0 ≤ x ∧ x < P
  rotate_left
  · rw [show (decide (0 ≤ x) && decide (x < P)) = false by simp; omega]
    have HG : Hid (GivesRt P A B x (.returned (.tuple #[.int .i64 0, .bool false]))) := ⟨0, false, rfl, Or.inr ⟨rfl, fun z hz => hx ⟨hz.x0, by have := hz.x1; have := h.p5; omega⟩⟩⟩
    clear hx
    go_wp2
    go_ret2
    exact ⟨HG.out, B1.out⟩
  rw [show (decide (0 ≤ x) && decide (x < P)) = true by simp; omega]
  obtain ⟨x0, x1⟩ := hx
  have h5 := h.p5
  obtain ⟨v, ok, hA⟩ := rootAns_some (sqV P A B x) P ⟨by omega, h.pM, h.pp, Int.emod_nonneg _ (by omega), Int.emod_lt_of_pos _ (by omega)⟩
  have HG : Hid (GivesRt P A B x (.returned (.tuple #[.int .i64 v, .bool ok]))) := ⟨v, ok, rfl, optRt_of_root h x0 x1 hA⟩
  obtain ⟨S, hS⟩ : ∃ S, sqV P A B x = S := ⟨_, rfl⟩
  rw [hS] at hA
  have HQ : Hid (∀ W, Calls Tryd.prog 63 #[.agg #[.int .i64 P, .int .i64 A, .int .i64 B, .int .i64 N, .int .i64 gx, .int .i64 gy], .int .i64 x] W fun r w' => r = .returned (.int .i64 S) ∧ Below W.heap.size W w') := fun W => by
    have := square_any P A B N gx gy x W h.p5 h.pM h.a0 h.a1 h.b0 h.b1 x0 x1
    rwa [hS] at this
  have HR : Hid (∀ W, Tab W → Calls Tryd.prog 66 #[.int .i64 S, .int .i64 P] W fun r w' => r = .returned (.tuple #[.int .i64 v, .bool ok]) ∧ Below W.heap.size W w') := fun W hW => implRootInt_at hA (by omega) (by have := h.pM; omega) W hW
  have HT1 := hide (hT.all B1.out)
  clear hA hS
  have e0 := cell_regrown k0
  have e1 := cell_regrown k1
  have e2 := cell_regrown k2
  have e3 := cell_regrown k3
  have e4 := cell_regrown k4
  have e5 := cell_regrown k5
  clear k0 k1 k2 k3 k4 k5
  go_wp2
  refine anyW_begin 10 rfl (by kernel_rfl) ?_
  refine anyW_take 0 10 0 rfl (by decide) (by kernel_rfl) (fun _ _ d _ _ h => by cases d <;> exact h) ?_
  repeat (refine headS_step (fun K hK => ?_); go_simp; first | (refine hK _ ?_; clear hK K) | (apply Exists.intro; refine ⟨fun _ => ?_, hK _ ?_⟩; (first | (go_at_call_of 63 (x); exact calls_head (HQ.out _)) | (go_at_call_of 66 (S); exact calls_head (HR.out _ (HT1.out.all (below_regrown _ _ _))))); clear hK K))
  refine headS_nil ?_
  refine anyW_done (by kernel_rfl) ?_ 0
  intro w2 hw2
  clear e0 e1 e2 e3 e4 e5
  go_wp2
  go_ret2
  exact ⟨HG.out, B1.out.trans (Below.mono hw2 B1.out.size)⟩

/-- A group's box and the answer's block. -/
structure Gr1 (w wr : World) (P A B N gx gy : Int) (z : Pt) : Prop where
  gr : GrpAt wr w.heap.size P A B N gx gy
  rs : PtAt wr (w.heap.size + 1) z
  below : Below w.heap.size w wr
  big : w.heap.size + 2 ≤ wr.heap.size

theorem Gr1.box (w : World) (P A B N gx gy : Int) (z : Pt) (t1 t2 : TypeId) : Gr1 w ((w.alloc (.cells #[.func (.func 54) #[.agg #[.int .i64 P, .int .i64 A, .int .i64 B, .int .i64 N, .int .i64 gx, .int .i64 gy]] #[], .func (.func 55) #[.agg #[.int .i64 P, .int .i64 A, .int .i64 B, .int .i64 N, .int .i64 gx, .int .i64 gy]] #[], .func (.func 56) #[.agg #[.int .i64 P, .int .i64 A, .int .i64 B, .int .i64 N, .int .i64 gx, .int .i64 gy]] #[], .func (.func 57) #[.agg #[.int .i64 P, .int .i64 A, .int .i64 B, .int .i64 N, .int .i64 gx, .int .i64 gy]] #[]] t1)).alloc (.cells #[.int .i64 z.x, .int .i64 z.y, .bool z.far] t2)) P A B N gx gy z := by
  refine ⟨⟨?_, ?_, ?_, ?_⟩, ⟨?_, ?_, ?_, ?_, ?_, ?_⟩, ?_, ?_⟩
  all_goals first | (simp [go_sem]; done) | skip
  repeat (first | exact Below.refl _ _ | refine Below.alloc ?_ (by simp <;> omega) _)

theorem Gr1.call {w wr w1 : World} {P A B N gx gy : Int} {z : Pt} (h : Gr1 w wr P A B N gx gy z) (hb : Below wr.heap.size wr w1) : Gr1 w w1 P A B N gx gy z :=
  ⟨h.gr.below hb (by have := h.big; omega), h.rs.below hb (by have := h.big; omega), h.below.trans (hb.mono (by have := h.big; omega)), Nat.le_trans h.big hb.size⟩

/-- What at answers: the point at x whose y leaves t. -/
def OptAt (P A B x t : Int) (c : Pt) (ok : Bool) : Prop := (ok = true ∧ c.far = false ∧ c.x = x ∧ c.y % 2 = t ∧ On P.toNat A B c) ∨ (ok = false ∧ c = zeroP ∧ ∀ z, z % 2 = t → ¬ Aff P.toNat A B x z)

def GivesGAt (P A B x t : Int) (r : Ending) : Prop := ∃ c ok, r = .returned (.tuple #[.agg #[.int .i64 c.x, .int .i64 c.y, .bool c.far], .bool ok]) ∧ OptAt P A B x t c ok

theorem other_y {P A B x v : Int} (hP : 5 ≤ P) (h : Aff P.toNat A B x v) : Aff P.toNat A B x ((-v) % P) := by
  have h0 := h.x0; have h1 := h.x1
  refine Aff.of_sq (by omega) h.x0 (by omega) (Int.emod_nonneg _ (by omega)) (Int.emod_lt_of_pos _ (by omega)) ?_
  rw [← Int.mul_emod, Int.neg_mul_neg]
  exact h.sq (by omega)

theorem neg_emod {P v : Int} (hP : 0 < P) (v0 : 0 ≤ v) (v1 : v < P) : (-v) % P = if v = 0 then 0 else P - v := by
  by_cases h : v = 0
  · subst h; simp
  · rw [if_neg h]
    have : (-v) % P = (P - v) % P := mod_eq ⟨-1, by omega⟩
    rw [this]
    exact Int.emod_eq_of_lt (by omega) (by omega)

set_option maxHeartbeats 1600000 in
set_option maxRecDepth 100000 in
theorem gat_any (P A B N gx gy x t : Int) (w : World) (hT : Tab w) (h : CvNum P A B N) (ht : t = 0 ∨ t = 1) : Calls Tryd.prog 38 #[.agg #[.func (.func 54) #[.agg #[.int .i64 P, .int .i64 A, .int .i64 B, .int .i64 N, .int .i64 gx, .int .i64 gy]] #[], .func (.func 55) #[.agg #[.int .i64 P, .int .i64 A, .int .i64 B, .int .i64 N, .int .i64 gx, .int .i64 gy]] #[], .func (.func 56) #[.agg #[.int .i64 P, .int .i64 A, .int .i64 B, .int .i64 N, .int .i64 gx, .int .i64 gy]] #[], .func (.func 57) #[.agg #[.int .i64 P, .int .i64 A, .int .i64 B, .int .i64 N, .int .i64 gx, .int .i64 gy]] #[]], .int .i64 x, .int .i64 t] w fun r w' => GivesGAt P A B x t r ∧ Below w.heap.size w w' := by
  have F0 : Gr1 w ((w.alloc (.cells #[.func (.func 54) #[.agg #[.int .i64 P, .int .i64 A, .int .i64 B, .int .i64 N, .int .i64 gx, .int .i64 gy]] #[], .func (.func 55) #[.agg #[.int .i64 P, .int .i64 A, .int .i64 B, .int .i64 N, .int .i64 gx, .int .i64 gy]] #[], .func (.func 56) #[.agg #[.int .i64 P, .int .i64 A, .int .i64 B, .int .i64 N, .int .i64 gx, .int .i64 gy]] #[], .func (.func 57) #[.agg #[.int .i64 P, .int .i64 A, .int .i64 B, .int .i64 N, .int .i64 gx, .int .i64 gy]] #[]] 62)).alloc (.cells #[.int .i64 0, .int .i64 0, .bool false] 27)) P A B N gx gy zeroP := Gr1.box w P A B N gx gy zeroP 62 27
  have HF := hide F0
  have HT := hide (hT.all F0.below)
  obtain ⟨⟨g0, g1, g2, g3⟩, ⟨a0, a1, a2, b0, b1, b2⟩, -, -⟩ := F0
  simp only [zeroP] at a0 a1 a2
  go_enter Tryd.func38, Tryd.ntmps38
  go_wp2_with fail
  refine (root_any P A B N gx gy x _ HT.out h).mono ?_
  rintro r w1 ⟨⟨v, ok, rfl, h1⟩, hw1⟩
  have F1 := HF.out.call hw1
  have HF1 := hide F1
  clear g0 g1 g2 g3 a0 a1 a2 b0 b1 b2 HF HT hw1
  obtain ⟨⟨g0, g1, g2, g3⟩, ⟨a0, a1, a2, b0, b1, b2⟩, -, -⟩ := F1
  simp only [zeroP] at a0 a1 a2
  rcases h1 with ⟨rfl, hv⟩ | ⟨rfl, hv⟩
  rotate_left
  · have HG : Hid (GivesGAt P A B x t (.returned (.tuple #[.agg #[.int .i64 0, .int .i64 0, .bool false], .bool false]))) := ⟨zeroP, false, rfl, Or.inr ⟨rfl, rfl, fun z _ => hv z⟩⟩
    clear hv
    go_wp2
    refine bodyPost_ret (v := .tuple #[.agg #[.int .i64 0, .int .i64 0, .bool false], .bool false]) (by simp [results, Tryd.results38, go_sem, a0, a1, a2]) rfl ⟨HG.out, ?_⟩
    first | exact below_put HF1.out.below (C := w.heap.size + 1) (by omega) zeroP | exact HF1.out.below
  have h5 := h.p5
  have hM := h.pM
  have h4 := h.p4
  have v0 := hv.y0
  have v1 : v < P := by have := hv.y1; omega
  have HU : Hid (∀ z, z % 2 = t → Aff P.toNat A B x z → z = v ∨ z + v = P ∨ (z = 0 ∧ v = 0)) := fun z hz k => by
    have := two_roots_int h.pp (by omega) k.y0 (by have := k.y1; omega) v0 v1 ((k.sq (by omega)).trans (hv.sq (by omega)).symm)
    exact this
  have G2 := HF1.out.call ((Below.refl _ _).alloc (Nat.le_refl _) (.cells #[.int .i64 x, .int .i64 v, .bool false] 27))
  have T2 := PtAt.alloc w1 ⟨x, v, false⟩ 27
  have HG2 := hide G2
  have HT2 := hide T2
  have HZ : Hid (w.heap.size + 2 ≤ w1.heap.size) := HF1.out.big
  obtain ⟨⟨l0, l1, l2, l3⟩, ⟨m0, m1, m2, n0, n1, n2⟩, -, -⟩ := G2
  obtain ⟨t0, t1, t2, u0, u1, u2⟩ := T2
  simp only [zeroP] at m0 m1 m2 t0 t1 t2
  by_cases c : v % 2 = t
  · have HG : Hid (GivesGAt P A B x t (.returned (.tuple #[.agg #[.int .i64 x, .int .i64 v, .bool false], .bool true]))) := ⟨⟨x, v, false⟩, true, rfl, Or.inl ⟨rfl, rfl, rfl, c, Or.inr ⟨rfl, hv⟩⟩⟩
    clear hv h4
    subst c
    go_wp2
    refine bodyPost_ret (v := .tuple #[.agg #[.int .i64 x, .int .i64 v, .bool false], .bool true]) (by simp [results, Tryd.results38, go_sem, a0, a1, a2, m0, m1, m2]) rfl ⟨HG.out, ?_⟩
    exact below_put HG2.out.below (C := w.heap.size + 1) (by omega) ⟨x, v, false⟩
  obtain ⟨y, hy⟩ : ∃ y, (-v) % P = y := ⟨_, rfl⟩
  have ho := other_y h5 hv
  rw [hy] at ho
  have hyv := neg_emod (show 0 < P by omega) v0 v1
  rw [hy] at hyv
  have HO : Hid (∀ W, Calls Tryd.prog 56 #[.agg #[.int .i64 P, .int .i64 A, .int .i64 B, .int .i64 N, .int .i64 gx, .int .i64 gy], .agg #[.int .i64 x, .int .i64 v, .bool false]] W fun r w' => r = .returned (.agg #[.int .i64 x, .int .i64 y, .bool false]) ∧ Below W.heap.size W w') := fun W => by
    have := opposite_any P.toNat A B N gx gy ⟨x, v, false⟩ W (by omega) (by omega) v0 (by simp only; omega)
    rw [show ((P.toNat : Nat) : Int) = P by omega, show ptV ⟨x, (-v) % P, false⟩ = .agg #[.int .i64 x, .int .i64 y, .bool false] by rw [hy]; rfl] at this
    exact this
  have cb : (v % 2 != t) = true := by simpa using c
  have y0 := ho.y0
  go_wp2_with fail
  refine (HO.out _).mono ?_
  rintro r w3 ⟨rfl, hw3⟩
  have F3 := HG2.out.call hw3
  have T3 := HT2.out.below hw3 (by simp)
  have HF3 := hide F3
  have hz3 : w1.heap.size + 1 ≤ w3.heap.size := by have := hw3.size; simpa using this
  clear g0 g1 g2 g3 a0 a1 a2 b0 b1 b2 l0 l1 l2 l3 m0 m1 m2 n0 n1 n2 t0 t1 t2 u0 u1 u2 HF1 HT2 hw3 HO
  have sz := HZ.out
  generalize w1.heap.size = S at *
  have ne1 : ¬ S = w.heap.size + 1 := by omega
  have ne2 : ¬ w.heap.size + 1 = S := by omega
  clear sz
  obtain ⟨-, ⟨a0, a1, a2, b0, b1, b2⟩, -, -⟩ := F3
  obtain ⟨t0, t1, t2, u0, u1, u2⟩ := T3
  simp only [zeroP] at a0 a1 a2 t0 t1 t2
  by_cases d : y % 2 = t
  · have HG : Hid (GivesGAt P A B x t (.returned (.tuple #[.agg #[.int .i64 x, .int .i64 y, .bool false], .bool true]))) := ⟨⟨x, y, false⟩, true, rfl, Or.inl ⟨rfl, rfl, rfl, d, Or.inr ⟨rfl, ho⟩⟩⟩
    clear ho hv hy hyv h4
    subst d
    go_wp2
    refine bodyPost_ret (v := .tuple #[.agg #[.int .i64 x, .int .i64 y, .bool false], .bool true]) (by simp [results, Tryd.results38, go_sem, a0, a1, a2, ne1, ne2]) rfl ⟨HG.out, ?_⟩
    exact below_put (below_put HF3.out.below (C := S) (by have := HZ.out; omega) ⟨x, y, false⟩) (C := w.heap.size + 1) (by omega) ⟨x, y, false⟩
  · have HG : Hid (GivesGAt P A B x t (.returned (.tuple #[.agg #[.int .i64 0, .int .i64 0, .bool false], .bool false]))) := ⟨zeroP, false, rfl, Or.inr ⟨rfl, rfl, fun z hz hk => by
      have := HU.out z hz hk
      have hky := hk.y1
      by_cases e : v = 0
      · rw [if_pos e] at hyv; omega
      · rw [if_neg e] at hyv; omega⟩⟩
    have db : (y % 2 != t) = true := by simpa using d
    clear ho hv hy hyv h4 d
    go_wp2
    refine bodyPost_ret (v := .tuple #[.agg #[.int .i64 0, .int .i64 0, .bool false], .bool false]) (by simp [results, Tryd.results38, go_sem, a0, a1, a2, ne1, ne2]) rfl ⟨HG.out, ?_⟩
    exact below_put (below_put HF3.out.below (C := S) (by have := HZ.out; omega) ⟨x, y, false⟩) (C := w.heap.size + 1) (by omega) zeroP

set_option linter.unusedSimpArgs false
open Go.RowKit Go.Sort

/-- What known answers. -/
def OptKn (P A B : Int) (a c : Pt) (ok : Bool) : Prop := (ok = true ∧ On P.toNat A B a ∧ c = a) ∨ (ok = false ∧ ¬ On P.toNat A B a ∧ c = zeroP)

theorem optKn_some (P A B : Int) (a : Pt) : ∃ c ok, OptKn P A B a c ok := by
  by_cases h : On P.toNat A B a
  · exact ⟨a, true, Or.inl ⟨rfl, h, rfl⟩⟩
  · exact ⟨zeroP, false, Or.inr ⟨rfl, h, rfl⟩⟩

theorem Gr2.box (w : World) (P A B N gx gy : Int) (a z : Pt) (t1 t2 t3 : TypeId) : GrpAt (((w.alloc (.cells #[.func (.func 54) #[.agg #[.int .i64 P, .int .i64 A, .int .i64 B, .int .i64 N, .int .i64 gx, .int .i64 gy]] #[], .func (.func 55) #[.agg #[.int .i64 P, .int .i64 A, .int .i64 B, .int .i64 N, .int .i64 gx, .int .i64 gy]] #[], .func (.func 56) #[.agg #[.int .i64 P, .int .i64 A, .int .i64 B, .int .i64 N, .int .i64 gx, .int .i64 gy]] #[], .func (.func 57) #[.agg #[.int .i64 P, .int .i64 A, .int .i64 B, .int .i64 N, .int .i64 gx, .int .i64 gy]] #[]] t1)).alloc (.cells #[.int .i64 a.x, .int .i64 a.y, .bool a.far] t2)).alloc (.cells #[.int .i64 z.x, .int .i64 z.y, .bool z.far] t3)) w.heap.size P A B N gx gy ∧ PtAt (((w.alloc (.cells #[.func (.func 54) #[.agg #[.int .i64 P, .int .i64 A, .int .i64 B, .int .i64 N, .int .i64 gx, .int .i64 gy]] #[], .func (.func 55) #[.agg #[.int .i64 P, .int .i64 A, .int .i64 B, .int .i64 N, .int .i64 gx, .int .i64 gy]] #[], .func (.func 56) #[.agg #[.int .i64 P, .int .i64 A, .int .i64 B, .int .i64 N, .int .i64 gx, .int .i64 gy]] #[], .func (.func 57) #[.agg #[.int .i64 P, .int .i64 A, .int .i64 B, .int .i64 N, .int .i64 gx, .int .i64 gy]] #[]] t1)).alloc (.cells #[.int .i64 a.x, .int .i64 a.y, .bool a.far] t2)).alloc (.cells #[.int .i64 z.x, .int .i64 z.y, .bool z.far] t3)) (w.heap.size + 1) a ∧ PtAt (((w.alloc (.cells #[.func (.func 54) #[.agg #[.int .i64 P, .int .i64 A, .int .i64 B, .int .i64 N, .int .i64 gx, .int .i64 gy]] #[], .func (.func 55) #[.agg #[.int .i64 P, .int .i64 A, .int .i64 B, .int .i64 N, .int .i64 gx, .int .i64 gy]] #[], .func (.func 56) #[.agg #[.int .i64 P, .int .i64 A, .int .i64 B, .int .i64 N, .int .i64 gx, .int .i64 gy]] #[], .func (.func 57) #[.agg #[.int .i64 P, .int .i64 A, .int .i64 B, .int .i64 N, .int .i64 gx, .int .i64 gy]] #[]] t1)).alloc (.cells #[.int .i64 a.x, .int .i64 a.y, .bool a.far] t2)).alloc (.cells #[.int .i64 z.x, .int .i64 z.y, .bool z.far] t3)) (w.heap.size + 1 + 1) z ∧ Below w.heap.size w (((w.alloc (.cells #[.func (.func 54) #[.agg #[.int .i64 P, .int .i64 A, .int .i64 B, .int .i64 N, .int .i64 gx, .int .i64 gy]] #[], .func (.func 55) #[.agg #[.int .i64 P, .int .i64 A, .int .i64 B, .int .i64 N, .int .i64 gx, .int .i64 gy]] #[], .func (.func 56) #[.agg #[.int .i64 P, .int .i64 A, .int .i64 B, .int .i64 N, .int .i64 gx, .int .i64 gy]] #[], .func (.func 57) #[.agg #[.int .i64 P, .int .i64 A, .int .i64 B, .int .i64 N, .int .i64 gx, .int .i64 gy]] #[]] t1)).alloc (.cells #[.int .i64 a.x, .int .i64 a.y, .bool a.far] t2)).alloc (.cells #[.int .i64 z.x, .int .i64 z.y, .bool z.far] t3)) := by
  refine ⟨⟨?_, ?_, ?_, ?_⟩, ⟨?_, ?_, ?_, ?_, ?_, ?_⟩, ⟨?_, ?_, ?_, ?_, ?_, ?_⟩, ?_⟩
  all_goals first | (simp [go_sem]; done) | skip
  repeat (first | exact Below.refl _ _ | refine Below.alloc ?_ (by simp <;> omega) _)

set_option maxHeartbeats 800000 in
set_option maxRecDepth 100000 in
theorem known_any (P A B N gx gy : Int) (a c : Pt) (ok : Bool) (w : World) (h : CvNum P A B N) (hk : OptKn P A B a c ok) : Calls Tryd.prog 40 #[.agg #[.func (.func 54) #[.agg #[.int .i64 P, .int .i64 A, .int .i64 B, .int .i64 N, .int .i64 gx, .int .i64 gy]] #[], .func (.func 55) #[.agg #[.int .i64 P, .int .i64 A, .int .i64 B, .int .i64 N, .int .i64 gx, .int .i64 gy]] #[], .func (.func 56) #[.agg #[.int .i64 P, .int .i64 A, .int .i64 B, .int .i64 N, .int .i64 gx, .int .i64 gy]] #[], .func (.func 57) #[.agg #[.int .i64 P, .int .i64 A, .int .i64 B, .int .i64 N, .int .i64 gx, .int .i64 gy]] #[]], .agg #[.int .i64 a.x, .int .i64 a.y, .bool a.far]] w fun r w' => r = .returned (.tuple #[.agg #[.int .i64 c.x, .int .i64 c.y, .bool c.far], .bool ok]) ∧ Below w.heap.size w w' := by
  have F0 := Gr2.box w P A B N gx gy a zeroP 62 27 27
  have HF := hide F0
  obtain ⟨⟨g0, g1, g2, g3⟩, ⟨p0, p1, p2, -, -, -⟩, -, -⟩ := F0
  go_enter Tryd.func40, Tryd.ntmps40
  go_wp2_with fail
  refine (has_at P A B N gx gy a h ok (by rcases hk with ⟨rfl, k, _⟩ | ⟨rfl, k, _⟩ <;> simp [k]) _).mono ?_
  rintro r w1 ⟨rfl, hw1⟩
  have P1 := HF.out.2.1.below hw1 (by simp <;> omega)
  have R1 := HF.out.2.2.1.below hw1 (by simp)
  have B1 : Hid (Below w.heap.size w w1) := HF.out.2.2.2.trans (hw1.mono (by simp <;> omega))
  clear g0 g1 g2 g3 p0 p1 p2 HF hw1
  obtain ⟨p0, p1, p2, -, -, -⟩ := P1
  obtain ⟨a0, a1, a2, b0, b1, b2⟩ := R1
  simp only [zeroP] at a0 a1 a2
  rcases hk with ⟨rfl, k, rfl⟩ | ⟨rfl, k, rfl⟩
  · go_wp2
    refine bodyPost_ret (v := .tuple #[.agg #[.int .i64 c.x, .int .i64 c.y, .bool c.far], .bool true]) (by simp [results, Tryd.results40, go_sem, a0, a1, a2]) rfl ⟨rfl, ?_⟩
    exact below_put B1.out (C := w.heap.size + 1 + 1) (by omega) c
  · go_wp2
    refine bodyPost_ret (v := .tuple #[.agg #[.int .i64 0, .int .i64 0, .bool false], .bool false]) (by simp [results, Tryd.results40, go_sem, a0, a1, a2]) rfl ⟨rfl, ?_⟩
    exact below_put B1.out (C := w.heap.size + 1 + 1) (by omega) zeroP

theorem optAt_some (P A B x t : Int) : ∃ c ok, OptAt P A B x t c ok := by
  by_cases h : ∃ z, z % 2 = t ∧ Aff P.toNat A B x z
  · obtain ⟨z, hz, k⟩ := h
    exact ⟨⟨x, z, false⟩, true, Or.inl ⟨rfl, rfl, rfl, hz, Or.inr ⟨rfl, k⟩⟩⟩
  · exact ⟨zeroP, false, Or.inr ⟨rfl, rfl, fun z hz k => h ⟨z, hz, k⟩⟩⟩

theorem at_at (P A B N gx gy x t : Int) (c : Pt) (ok : Bool) (hA : OptAt P A B x t c ok) (w : World) (hT : Tab w) (h : CvNum P A B N) (ht : t = 0 ∨ t = 1) : Calls Tryd.prog 38 #[.agg #[.func (.func 54) #[.agg #[.int .i64 P, .int .i64 A, .int .i64 B, .int .i64 N, .int .i64 gx, .int .i64 gy]] #[], .func (.func 55) #[.agg #[.int .i64 P, .int .i64 A, .int .i64 B, .int .i64 N, .int .i64 gx, .int .i64 gy]] #[], .func (.func 56) #[.agg #[.int .i64 P, .int .i64 A, .int .i64 B, .int .i64 N, .int .i64 gx, .int .i64 gy]] #[], .func (.func 57) #[.agg #[.int .i64 P, .int .i64 A, .int .i64 B, .int .i64 N, .int .i64 gx, .int .i64 gy]] #[]], .int .i64 x, .int .i64 t] w fun r w' => r = .returned (.tuple #[.agg #[.int .i64 c.x, .int .i64 c.y, .bool c.far], .bool ok]) ∧ Below w.heap.size w w' := by
  refine (gat_any P A B N gx gy x t w hT h ht).mono ?_
  rintro r w' ⟨⟨d, ok', rfl, hA'⟩, hw⟩
  refine ⟨?_, hw⟩
  rcases hA with ⟨rfl, a1, a2, a3, a4⟩ | ⟨rfl, rfl, a2⟩ <;> rcases hA' with ⟨rfl, b1, b2, b3, b4⟩ | ⟨rfl, rfl, b2⟩
  · have k1 := a4.aff a1
    have k2 := b4.aff b1
    rw [a2] at k1
    rw [b2] at k2
    obtain rfl : d = c := Pt.ext' (b2.trans a2.symm) (same_y h.pp h.p4 h.p5 k2 k1 (b3.trans a3.symm)) (b1.trans a1.symm)
    rfl
  · have k1 := a4.aff a1
    rw [a2] at k1
    exact absurd k1 (b2 _ a3)
  · have k1 := b4.aff b1
    rw [b2] at k1
    exact absurd k1 (a2 _ b3)
  · rfl

set_option linter.unusedSimpArgs false
open Go.RowKit Go.Sort

theorem groupOf_lit (P A B N gx gy : Int) (w : World) : Calls Tryd.prog 32 #[.agg #[.int .i64 P, .int .i64 A, .int .i64 B, .int .i64 N, .int .i64 gx, .int .i64 gy]] w fun r w' => r = .returned (.agg #[.func (.func 54) #[.agg #[.int .i64 P, .int .i64 A, .int .i64 B, .int .i64 N, .int .i64 gx, .int .i64 gy]] #[], .func (.func 55) #[.agg #[.int .i64 P, .int .i64 A, .int .i64 B, .int .i64 N, .int .i64 gx, .int .i64 gy]] #[], .func (.func 56) #[.agg #[.int .i64 P, .int .i64 A, .int .i64 B, .int .i64 N, .int .i64 gx, .int .i64 gy]] #[], .func (.func 57) #[.agg #[.int .i64 P, .int .i64 A, .int .i64 B, .int .i64 N, .int .i64 gx, .int .i64 gy]] #[]]) ∧ Below w.heap.size w w' := groupOf_any P A B N gx gy w

theorem Fr1.put {w wr : World} {P A B N gx gy : Int} {z : Pt} (h : Fr1 w wr P A B N gx gy z) (c : Pt) : Below w.heap.size w (putPt wr (w.heap.size + 1) c) := below_put h.below (by omega) c

set_option maxHeartbeats 6400000 in
set_option maxRecDepth 100000 in
theorem implPointRead_any (P A B N gx gy : Int) (a : Option Addr) (b off n cap : Nat) (f : Nat → Int) (w : World) (hP1 : P ≤ 9223372036854775807) (hN1 : N ≤ 9223372036854775807) (hT : Tab w) (hs : BSeg w a b off n f) (hr : ∀ i, i < n → 0 ≤ f i ∧ f i ≤ 255) (hcap : n ≤ cap) :
    Calls Tryd.prog 18 #[.agg #[.int .i64 P, .int .i64 A, .int .i64 B, .int .i64 N, .int .i64 gx, .int .i64 gy], .slice a n cap] w fun r w' => GivesRd P A B N gx gy n f r ∧ Below w.heap.size w w' := by
  have F0 : Fr1 w ((w.alloc (.cells #[.int .i64 P, .int .i64 A, .int .i64 B, .int .i64 N, .int .i64 gx, .int .i64 gy] 25)).alloc (.cells #[.int .i64 0, .int .i64 0, .bool false] 27)) P A B N gx gy zeroP := Fr1.box w P A B N gx gy zeroP 25 27
  have HF := hide F0
  obtain ⟨⟨k0, k1, k2, k3, k4, k5⟩, -, -, -⟩ := F0
  go_enter Tryd.func18, Tryd.ntmps18
  go_wp2_with fail
  refine (implCurveOk_any P A B N gx gy _ hP1 hN1).mono ?_
  rintro r w1 ⟨⟨ok, rfl, h1⟩, hw1⟩
  have F1 := HF.out.call hw1
  have HF1 := hide F1
  clear k0 k1 k2 k3 k4 k5 HF hw1
  obtain ⟨⟨k0, k1, k2, k3, k4, k5⟩, ⟨a0, a1, a2, b0, b1, b2⟩, -, -⟩ := F1
  simp only [zeroP] at a0 a1 a2
  cases ok
  · have Hn : Hid (GivesRd P A B N gx gy n f (.returned (.tuple #[.agg #[.int .i64 0, .int .i64 0, .bool false], .bool false]))) := givesRd_no (fun c v h => by simpa using h1.2 v)
    clear h1
    go_wp2
    refine bodyPost_ret (v := .tuple #[.agg #[.int .i64 0, .int .i64 0, .bool false], .bool false]) (by simp [results, Tryd.results18, go_sem, a0, a1, a2]) rfl ⟨Hn.out, ?_⟩
    exact HF1.out.put zeroP
  have Hc := hide (h1.1 rfl)
  clear h1
  by_cases hn : n = 0
  · have Hn : Hid (GivesRd P A B N gx gy n f (.returned (.tuple #[.agg #[.int .i64 0, .int .i64 0, .bool false], .bool false]))) := givesRd_no (fun c v h => by
      rcases h with ⟨e, _⟩ | ⟨e, _⟩ | ⟨e, _⟩ <;> omega)
    subst hn
    go_wp2
    refine bodyPost_ret (v := .tuple #[.agg #[.int .i64 0, .int .i64 0, .bool false], .bool false]) (by simp [results, Tryd.results18, go_sem, a0, a1, a2]) rfl ⟨Hn.out, ?_⟩
    exact HF1.out.put zeroP
  have hn0 : ((n : Int) == 0) = false := by simp; omega
  have hnpos : (0 : Int) < (n : Int) := by omega
  go_wp2_with fail
  refine (groupOf_lit P A B N gx gy _).mono ?_
  rintro r w2 ⟨rfl, hw2⟩
  have hn : Below w2.heap.size w2 (w2.alloc (.cells #[.func (.func 54) #[.agg #[.int .i64 P, .int .i64 A, .int .i64 B, .int .i64 N, .int .i64 gx, .int .i64 gy]] #[], .func (.func 55) #[.agg #[.int .i64 P, .int .i64 A, .int .i64 B, .int .i64 N, .int .i64 gx, .int .i64 gy]] #[], .func (.func 56) #[.agg #[.int .i64 P, .int .i64 A, .int .i64 B, .int .i64 N, .int .i64 gx, .int .i64 gy]] #[], .func (.func 57) #[.agg #[.int .i64 P, .int .i64 A, .int .i64 B, .int .i64 N, .int .i64 gx, .int .i64 gy]] #[]] 62)) := (Below.refl _ _).alloc (Nat.le_refl _) _
  have F3 := (HF1.out.call hw2).call hn
  have G3 := GrpAt.alloc w2 P A B N gx gy 62
  have HF3 := hide F3
  have HS3 := hide (hs.of_all F3.below)
  have HT3 := hide (hT.all F3.below)
  clear k0 k1 k2 k3 k4 k5 a0 a1 a2 b0 b1 b2 HF1 hw2 hn hn0
  obtain ⟨-, ⟨a0, a1, a2, b0, b1, b2⟩, -, -⟩ := F3
  obtain ⟨k0, k1, k2, k3⟩ := G3
  simp only [zeroP] at a0 a1 a2
  have hb := HS3.out.lt (by omega)
  by_cases c1 : n = 1 ∧ f 0 = 0
  · obtain ⟨rfl, h0⟩ := c1
    have HG : Hid (GivesRd P A B N gx gy 1 f (.returned (.tuple #[.agg #[.int .i64 0, .int .i64 0, .bool true], .bool true]))) := givesRd_yes (c := farP) Hc.out (Or.inl ⟨rfl, h0, rfl⟩)
    have hcl := HS3.out.cell 0 (by omega)
    obtain rfl := hs.at' (by omega)
    rw [Nat.add_zero, h0] at hcl
    clear hs hr h0
    go_wp2_with fail
    refine (farPoint_lit _).mono ?_
    rintro r w5 ⟨rfl, hw5⟩
    have F5 := HF3.out.call hw5
    have HF5 := hide F5
    clear k0 k1 k2 k3 a0 a1 a2 b0 b1 b2 HF3 hw5 hcl
    obtain ⟨-, ⟨a0, a1, a2, b0, b1, b2⟩, -, -⟩ := F5
    simp only [zeroP] at a0 a1 a2
    go_wp2
    refine bodyPost_ret (v := .tuple #[.agg #[.int .i64 0, .int .i64 0, .bool true], .bool true]) (by simp [results, Tryd.results18, go_sem, a0, a1, a2]) rfl ⟨HG.out, ?_⟩
    exact HF5.out.put farP
  by_cases c4 : n = 4 ∧ f 0 = 2
  · obtain ⟨rfl, h0⟩ := c4
    obtain ⟨x, hx⟩ : ∃ x, rd3 f 1 = x := ⟨_, rfl⟩
    obtain ⟨c, ok, hA⟩ := optAt_some P A B x 0
    have HG : Hid (GivesRd P A B N gx gy 4 f (.returned (.tuple #[.agg #[.int .i64 c.x, .int .i64 c.y, .bool c.far], .bool ok]))) := by
      refine ⟨c, ok, rfl, ?_⟩
      rcases hA with ⟨rfl, k1, k2, k3, k4⟩ | ⟨rfl, rfl, k⟩
      · exact Or.inl ⟨rfl, Hc.out, Or.inr (Or.inr ⟨rfl, by omega, k1, k2.trans hx.symm, by rw [k3, h0]; rfl, k4⟩)⟩
      · refine Or.inr ⟨rfl, fun d v hd => ?_, rfl⟩
        rcases hd with ⟨e, _⟩ | ⟨e, _⟩ | ⟨_, _, k1, k2, k3, k4⟩
        · omega
        · omega
        · have := k4.aff k1
          rw [k2, hx] at this
          exact k d.y (by omega) this
    have HAt : Hid (∀ W, Tab W → Calls Tryd.prog 38 #[.agg #[.func (.func 54) #[.agg #[.int .i64 P, .int .i64 A, .int .i64 B, .int .i64 N, .int .i64 gx, .int .i64 gy]] #[], .func (.func 55) #[.agg #[.int .i64 P, .int .i64 A, .int .i64 B, .int .i64 N, .int .i64 gx, .int .i64 gy]] #[], .func (.func 56) #[.agg #[.int .i64 P, .int .i64 A, .int .i64 B, .int .i64 N, .int .i64 gx, .int .i64 gy]] #[], .func (.func 57) #[.agg #[.int .i64 P, .int .i64 A, .int .i64 B, .int .i64 N, .int .i64 gx, .int .i64 gy]] #[]], .int .i64 x, .int .i64 0] W fun r w' => r = .returned (.tuple #[.agg #[.int .i64 c.x, .int .i64 c.y, .bool c.far], .bool ok]) ∧ Below W.heap.size W w') := fun W hW => at_at P A B N gx gy x 0 c ok hA W hW Hc.out.num (by omega)
    have HX : Hid (∀ W, BSeg W (some ⟨b, off, none⟩) b off 4 f → Calls Tryd.prog 39 #[.slice (some ⟨b, off + 1, none⟩) 3 (cap - 1)] W fun r w' => r = .returned (.int .i64 x) ∧ Below W.heap.size W w') := fun W h => by
      have := readHigh_any b (off + 1) (cap - 1) (fun i => f (1 + i)) W (h.drop 1 3 (by omega)) (fun i hi => hr _ (by omega))
      rwa [show rd3 (fun i => f (1 + i)) 0 = x from hx] at this
    have hcl := HS3.out.cell 0 (by omega)
    obtain rfl := hs.at' (by omega)
    rw [Nat.add_zero, h0] at hcl
    obtain ⟨o1, eo1⟩ : ∃ o, off + 1 = o := ⟨_, rfl⟩
    obtain ⟨p1, ep1⟩ : ∃ o, cap - 1 = o := ⟨_, rfl⟩
    rw [eo1, ep1] at HX
    have h4c : (4 : Int) ≤ (cap : Int) := by omega
    have hc1 : ¬ cap = 1 := by omega
    have e0 := cell_regrown k0
    have e1 := cell_regrown k1
    have e2 := cell_regrown k2
    have e3 := cell_regrown k3
    clear hA hx h0 hs hr
    go_wp2
    refine region_heads_tail 7 (by kernel_rfl) (by kernel_rfl) (fun _ _ d _ _ h => by cases d <;> exact h) ?_
    repeat (refine headS_step (fun K hK => ?_); go_simp; first | (refine hK _ ?_; clear hK K) | (apply Exists.intro; refine ⟨fun _ => ?_, hK _ ?_⟩; (first | (go_at_call_of 39 (p1); exact calls_head (HX.out _ (HS3.out.of_all (below_regrown _ _ _)))) | (go_at_call_of 38 (x); exact calls_head (HAt.out _ (HT3.out.all (below_regrown _ _ _))))); clear hK K))
    refine headS_nil ?_
    intro w5 hw5
    simp only [List.drop_succ_cons, List.drop_zero]
    clear eo1 ep1 h4c hc1 HX HAt
    clear e0 e1 e2 e3
    have F5 := HF3.out.call hw5
    have HF5 := hide F5
    clear k0 k1 k2 k3 a0 a1 a2 b0 b1 b2 HF3 hw5 hcl
    obtain ⟨-, ⟨a0, a1, a2, b0, b1, b2⟩, -, -⟩ := F5
    simp only [zeroP] at a0 a1 a2
    go_wp2
    refine bodyPost_ret (v := .tuple #[.agg #[.int .i64 c.x, .int .i64 c.y, .bool c.far], .bool ok]) (by simp [results, Tryd.results18, go_sem, a0, a1, a2]) rfl ⟨HG.out, ?_⟩
    exact HF5.out.put c
  by_cases c5 : n = 4 ∧ f 0 = 3
  · obtain ⟨rfl, h0⟩ := c5
    obtain ⟨x, hx⟩ : ∃ x, rd3 f 1 = x := ⟨_, rfl⟩
    obtain ⟨c, ok, hA⟩ := optAt_some P A B x 1
    have HG : Hid (GivesRd P A B N gx gy 4 f (.returned (.tuple #[.agg #[.int .i64 c.x, .int .i64 c.y, .bool c.far], .bool ok]))) := by
      refine ⟨c, ok, rfl, ?_⟩
      rcases hA with ⟨rfl, k1, k2, k3, k4⟩ | ⟨rfl, rfl, k⟩
      · exact Or.inl ⟨rfl, Hc.out, Or.inr (Or.inr ⟨rfl, by omega, k1, k2.trans hx.symm, by rw [k3, h0]; rfl, k4⟩)⟩
      · refine Or.inr ⟨rfl, fun d v hd => ?_, rfl⟩
        rcases hd with ⟨e, _⟩ | ⟨e, _⟩ | ⟨_, _, k1, k2, k3, k4⟩
        · omega
        · omega
        · have := k4.aff k1
          rw [k2, hx] at this
          exact k d.y (by omega) this
    have HAt : Hid (∀ W, Tab W → Calls Tryd.prog 38 #[.agg #[.func (.func 54) #[.agg #[.int .i64 P, .int .i64 A, .int .i64 B, .int .i64 N, .int .i64 gx, .int .i64 gy]] #[], .func (.func 55) #[.agg #[.int .i64 P, .int .i64 A, .int .i64 B, .int .i64 N, .int .i64 gx, .int .i64 gy]] #[], .func (.func 56) #[.agg #[.int .i64 P, .int .i64 A, .int .i64 B, .int .i64 N, .int .i64 gx, .int .i64 gy]] #[], .func (.func 57) #[.agg #[.int .i64 P, .int .i64 A, .int .i64 B, .int .i64 N, .int .i64 gx, .int .i64 gy]] #[]], .int .i64 x, .int .i64 1] W fun r w' => r = .returned (.tuple #[.agg #[.int .i64 c.x, .int .i64 c.y, .bool c.far], .bool ok]) ∧ Below W.heap.size W w') := fun W hW => at_at P A B N gx gy x 1 c ok hA W hW Hc.out.num (by omega)
    have HX : Hid (∀ W, BSeg W (some ⟨b, off, none⟩) b off 4 f → Calls Tryd.prog 39 #[.slice (some ⟨b, off + 1, none⟩) 3 (cap - 1)] W fun r w' => r = .returned (.int .i64 x) ∧ Below W.heap.size W w') := fun W h => by
      have := readHigh_any b (off + 1) (cap - 1) (fun i => f (1 + i)) W (h.drop 1 3 (by omega)) (fun i hi => hr _ (by omega))
      rwa [show rd3 (fun i => f (1 + i)) 0 = x from hx] at this
    have hcl := HS3.out.cell 0 (by omega)
    obtain rfl := hs.at' (by omega)
    rw [Nat.add_zero, h0] at hcl
    obtain ⟨o1, eo1⟩ : ∃ o, off + 1 = o := ⟨_, rfl⟩
    obtain ⟨p1, ep1⟩ : ∃ o, cap - 1 = o := ⟨_, rfl⟩
    rw [eo1, ep1] at HX
    have h4c : (4 : Int) ≤ (cap : Int) := by omega
    have hc1 : ¬ cap = 1 := by omega
    have e0 := cell_regrown k0
    have e1 := cell_regrown k1
    have e2 := cell_regrown k2
    have e3 := cell_regrown k3
    clear hA hx h0 hs hr
    go_wp2
    refine region_heads_tail 7 (by kernel_rfl) (by kernel_rfl) (fun _ _ d _ _ h => by cases d <;> exact h) ?_
    repeat (refine headS_step (fun K hK => ?_); go_simp; first | (refine hK _ ?_; clear hK K) | (apply Exists.intro; refine ⟨fun _ => ?_, hK _ ?_⟩; (first | (go_at_call_of 39 (p1); exact calls_head (HX.out _ (HS3.out.of_all (below_regrown _ _ _)))) | (go_at_call_of 38 (x); exact calls_head (HAt.out _ (HT3.out.all (below_regrown _ _ _))))); clear hK K))
    refine headS_nil ?_
    intro w5 hw5
    simp only [List.drop_succ_cons, List.drop_zero]
    clear eo1 ep1 h4c hc1 HX HAt
    clear e0 e1 e2 e3
    have F5 := HF3.out.call hw5
    have HF5 := hide F5
    clear k0 k1 k2 k3 a0 a1 a2 b0 b1 b2 HF3 hw5 hcl
    obtain ⟨-, ⟨a0, a1, a2, b0, b1, b2⟩, -, -⟩ := F5
    simp only [zeroP] at a0 a1 a2
    go_wp2
    refine bodyPost_ret (v := .tuple #[.agg #[.int .i64 c.x, .int .i64 c.y, .bool c.far], .bool ok]) (by simp [results, Tryd.results18, go_sem, a0, a1, a2]) rfl ⟨HG.out, ?_⟩
    exact HF5.out.put c
  by_cases c7 : n = 7 ∧ f 0 = 4
  · obtain ⟨rfl, h0⟩ := c7
    obtain ⟨x, hx⟩ : ∃ x, rd3 f 1 = x := ⟨_, rfl⟩
    obtain ⟨y, hy⟩ : ∃ y, rd3 f 4 = y := ⟨_, rfl⟩
    obtain ⟨c, ok, hA⟩ := optKn_some P A B ⟨x, y, false⟩
    have HG : Hid (GivesRd P A B N gx gy 7 f (.returned (.tuple #[.agg #[.int .i64 c.x, .int .i64 c.y, .bool c.far], .bool ok]))) := by
      refine ⟨c, ok, rfl, ?_⟩
      rcases hA with ⟨rfl, k, rfl⟩ | ⟨rfl, k, rfl⟩
      · exact Or.inl ⟨rfl, Hc.out, Or.inr (Or.inl ⟨rfl, h0, by rw [hx, hy], k⟩)⟩
      · refine Or.inr ⟨rfl, fun d v hd => ?_, rfl⟩
        rcases hd with ⟨e, _⟩ | ⟨_, _, rfl, hd⟩ | ⟨e, _⟩
        · omega
        · rw [hx, hy] at hd
          exact k hd
        · omega
    have HK : Hid (∀ W, Calls Tryd.prog 40 #[.agg #[.func (.func 54) #[.agg #[.int .i64 P, .int .i64 A, .int .i64 B, .int .i64 N, .int .i64 gx, .int .i64 gy]] #[], .func (.func 55) #[.agg #[.int .i64 P, .int .i64 A, .int .i64 B, .int .i64 N, .int .i64 gx, .int .i64 gy]] #[], .func (.func 56) #[.agg #[.int .i64 P, .int .i64 A, .int .i64 B, .int .i64 N, .int .i64 gx, .int .i64 gy]] #[], .func (.func 57) #[.agg #[.int .i64 P, .int .i64 A, .int .i64 B, .int .i64 N, .int .i64 gx, .int .i64 gy]] #[]], .agg #[.int .i64 x, .int .i64 y, .bool false]] W fun r w' => r = .returned (.tuple #[.agg #[.int .i64 c.x, .int .i64 c.y, .bool c.far], .bool ok]) ∧ Below W.heap.size W w') := fun W => known_any P A B N gx gy ⟨x, y, false⟩ c ok W Hc.out.num hA
    have HX : Hid (∀ W, BSeg W (some ⟨b, off, none⟩) b off 7 f → Calls Tryd.prog 39 #[.slice (some ⟨b, off + 1, none⟩) 3 (cap - 1)] W fun r w' => r = .returned (.int .i64 x) ∧ Below W.heap.size W w') := fun W h => by
      have := readHigh_any b (off + 1) (cap - 1) (fun i => f (1 + i)) W (h.drop 1 3 (by omega)) (fun i hi => hr _ (by omega))
      rwa [show rd3 (fun i => f (1 + i)) 0 = x from hx] at this
    have HY : Hid (∀ W, BSeg W (some ⟨b, off, none⟩) b off 7 f → Calls Tryd.prog 39 #[.slice (some ⟨b, off + 4, none⟩) 3 (cap - 4)] W fun r w' => r = .returned (.int .i64 y) ∧ Below W.heap.size W w') := fun W h => by
      have := readHigh_any b (off + 4) (cap - 4) (fun i => f (4 + i)) W (h.drop 4 3 (by omega)) (fun i hi => hr _ (by omega))
      rwa [show rd3 (fun i => f (4 + i)) 0 = y from hy] at this
    have hcl := HS3.out.cell 0 (by omega)
    obtain rfl := hs.at' (by omega)
    rw [Nat.add_zero, h0] at hcl
    obtain ⟨o1, eo1⟩ : ∃ o, off + 1 = o := ⟨_, rfl⟩
    obtain ⟨p1, ep1⟩ : ∃ o, cap - 1 = o := ⟨_, rfl⟩
    obtain ⟨o4, eo4⟩ : ∃ o, off + 4 = o := ⟨_, rfl⟩
    obtain ⟨p4, ep4⟩ : ∃ o, cap - 4 = o := ⟨_, rfl⟩
    rw [eo1, ep1] at HX
    rw [eo4, ep4] at HY
    have h4c : (4 : Int) ≤ (cap : Int) := by omega
    have h7c : (7 : Int) ≤ (cap : Int) := by omega
    have hc1 : ¬ cap = 1 := by omega
    have hc4 : ¬ cap = 4 := by omega
    have e0 := cell_regrown k0
    have e1 := cell_regrown k1
    have e2 := cell_regrown k2
    have e3 := cell_regrown k3
    clear hA hx hy h0 hs hr
    go_wp2
    refine region_heads_tail 11 (by kernel_rfl) (by kernel_rfl) (fun _ _ d _ _ h => by cases d <;> exact h) ?_
    repeat (refine headS_step (fun K hK => ?_); go_simp; first | (refine hK _ ?_; clear hK K) | (apply Exists.intro; refine ⟨fun _ => ?_, hK _ ?_⟩; (first | (go_at_call_of 39 (p1); exact calls_head (HX.out _ (HS3.out.of_all (below_regrown _ _ _)))) | (go_at_call_of 39 (p4); exact calls_head (HY.out _ (HS3.out.of_all (below_regrown _ _ _)))) | (go_at_call_of 40 (x); exact calls_head (HK.out _))); clear hK K))
    refine headS_nil ?_
    intro w5 hw5
    simp only [List.drop_succ_cons, List.drop_zero]
    clear eo1 ep1 eo4 ep4 h4c h7c hc1 hc4 HX HY HK
    clear e0 e1 e2 e3
    have F5 := HF3.out.call hw5
    have HF5 := hide F5
    clear k0 k1 k2 k3 a0 a1 a2 b0 b1 b2 HF3 hw5 hcl
    obtain ⟨-, ⟨a0, a1, a2, b0, b1, b2⟩, -, -⟩ := F5
    simp only [zeroP] at a0 a1 a2
    go_wp2
    refine bodyPost_ret (v := .tuple #[.agg #[.int .i64 c.x, .int .i64 c.y, .bool c.far], .bool ok]) (by simp [results, Tryd.results18, go_sem, a0, a1, a2]) rfl ⟨HG.out, ?_⟩
    exact HF5.out.put c
  have Hn : Hid (GivesRd P A B N gx gy n f (.returned (.tuple #[.agg #[.int .i64 0, .int .i64 0, .bool false], .bool false]))) := givesRd_no (fun c v h => by
    rcases h with ⟨e, e', _⟩ | ⟨e, e', _⟩ | ⟨e, e', _⟩
    · exact c1 ⟨e, e'⟩
    · exact c7 ⟨e, e'⟩
    · rcases e' with e' | e'
      · exact c4 ⟨e, e'⟩
      · exact c5 ⟨e, e'⟩)
  have hcl := HS3.out.cell 0 (by omega)
  obtain rfl := hs.at' (by omega)
  rw [Nat.add_zero] at hcl
  by_cases d0 : f 0 = 0
  · rw [d0] at hcl
    have n1 : ((n : Int) == 1) = false := by simp; exact fun e => c1 ⟨by omega, d0⟩
    clear c1 c4 c5 c7 d0 hs hr
    skip
    go_wp2
    refine bodyPost_ret (v := .tuple #[.agg #[.int .i64 0, .int .i64 0, .bool false], .bool false]) (by simp [results, Tryd.results18, go_sem, a0, a1, a2]) rfl ⟨Hn.out, ?_⟩
    exact HF3.out.put zeroP
  by_cases d2 : f 0 = 2
  · rw [d2] at hcl
    have n1 : ((n : Int) == 4) = false := by simp; exact fun e => c4 ⟨by omega, d2⟩
    clear c1 c4 c5 c7 d0 d2 hs hr
    skip
    go_wp2
    refine bodyPost_ret (v := .tuple #[.agg #[.int .i64 0, .int .i64 0, .bool false], .bool false]) (by simp [results, Tryd.results18, go_sem, a0, a1, a2]) rfl ⟨Hn.out, ?_⟩
    exact HF3.out.put zeroP
  by_cases d3 : f 0 = 3
  · rw [d3] at hcl
    have n1 : ((n : Int) == 4) = false := by simp; exact fun e => c5 ⟨by omega, d3⟩
    clear c1 c4 c5 c7 d0 d2 d3 hs hr
    skip
    go_wp2
    refine bodyPost_ret (v := .tuple #[.agg #[.int .i64 0, .int .i64 0, .bool false], .bool false]) (by simp [results, Tryd.results18, go_sem, a0, a1, a2]) rfl ⟨Hn.out, ?_⟩
    exact HF3.out.put zeroP
  by_cases d4 : f 0 = 4
  · rw [d4] at hcl
    have n1 : ((n : Int) == 7) = false := by simp; exact fun e => c7 ⟨by omega, d4⟩
    clear c1 c4 c5 c7 d0 d2 d3 d4 hs hr
    skip
    go_wp2
    refine bodyPost_ret (v := .tuple #[.agg #[.int .i64 0, .int .i64 0, .bool false], .bool false]) (by simp [results, Tryd.results18, go_sem, a0, a1, a2]) rfl ⟨Hn.out, ?_⟩
    exact HF3.out.put zeroP
  · have q0 : (f 0 == 0) = false := by simpa using d0
    have q2 : (f 0 == 2) = false := by simpa using d2
    have q3 : (f 0 == 3) = false := by simpa using d3
    have q4 : (f 0 == 4) = false := by simpa using d4
    generalize f 0 = x at hcl q0 q2 q3 q4
    clear c1 c4 c5 c7 d0 d2 d3 d4 hs hr
    skip
    go_wp2
    refine bodyPost_ret (v := .tuple #[.agg #[.int .i64 0, .int .i64 0, .bool false], .bool false]) (by simp [results, Tryd.results18, go_sem, a0, a1, a2]) rfl ⟨Hn.out, ?_⟩
    exact HF3.out.put zeroP

end Go.Proofs.YtnhemiaklkkilaaDoor
