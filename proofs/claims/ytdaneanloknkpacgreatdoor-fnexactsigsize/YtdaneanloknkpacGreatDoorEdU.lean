/- Walks: multiples of pairs in the model: l4Mul. -/
import Derived.Test.YtdaneanloknkpacGreatDoorEdT
namespace Go.Proofs.YtdaneanloknkpacGreatDoor
set_option linter.unusedVariables false
open Go.RowKit

theorem accE_zero (p : Nat) (D : Int) : ∀ (f : Nat) (o a : Pr), accE p D f 0 o a = o := by
  intro f
  induction f with
  | zero => intro o a; rfl
  | succ f ih => intro o a; rw [accE]; simp [ih]

/-- What l4Mul's loop keeps: the curve, the pair, the answer's block, the sum so far. -/
structure MulE (w wr : World) (p D L bx b' : Int) (b o : Pr) : Prop where
  cv : Blk wr w.heap.size [.int .i64 p, .int .i64 D, .int .i64 L, .int .i64 bx, .int .i64 b']
  pt : Blk wr (w.heap.size + 1) [.int .i64 b.x, .int .i64 b.y]
  rs : Blk wr (w.heap.size + 1 + 1) [.int .i64 0, .int .i64 0]
  ot : Blk wr (w.heap.size + 1 + 1 + 1) [.int .i64 o.x, .int .i64 o.y]
  ext : Ext w wr
  big : w.heap.size + 4 ≤ wr.heap.size

theorem MulE.call {w wr w1 : World} {p D L bx b' : Int} {b o : Pr} (h : MulE w wr p D L bx b' b o) (hb : Ext wr w1) : MulE w w1 p D L bx b' b o :=
  ⟨h.cv.ext hb (by have := h.big; omega), h.pt.ext hb (by have := h.big; omega), h.rs.ext hb (by have := h.big; omega), h.ot.ext hb (by have := h.big; omega), h.ext.trans hb, Nat.le_trans h.big (Below.size hb)⟩

theorem MulE.putO {w wr : World} {p D L bx b' : Int} {b o : Pr} (h : MulE w wr p D L bx b' b o) (c : Pr) : MulE w (putL (w.heap.size + 1 + 1 + 1) 0 [.int .i64 c.x, .int .i64 c.y] wr) p D L bx b' b c :=
  ⟨h.cv.put_other _ (by omega), h.pt.put_other _ (by omega), h.rs.put_other _ (by omega), h.ot.put _ rfl, h.ext.putL (by omega) _, by rw [size_putL]; exact h.big⟩

theorem MulE.putB {w wr : World} {p D L bx b' : Int} {b o : Pr} (h : MulE w wr p D L bx b' b o) (c : Pr) : MulE w (putL (w.heap.size + 1) 0 [.int .i64 c.x, .int .i64 c.y] wr) p D L bx b' c o :=
  ⟨h.cv.put_other _ (by omega), h.pt.put _ rfl, h.rs.put_other _ (by omega), h.ot.put_other _ (by omega), h.ext.putL (by omega) _, by rw [size_putL]; exact h.big⟩

set_option maxHeartbeats 3200000 in
set_option maxRecDepth 100000 in
theorem l4Mul_any (p : Nat) (D L bx b' : Int) (n : Nat) (a : Pr) (w : World) (hpr : Prime p) (h3 : 3 ≤ p) (hp : p ≤ 1048576) (hD0 : 0 ≤ D) (hD : D ≤ 1048576) (ha : InE p a) (hn : n ≤ 9223372036854775807) :
    Calls Tryz.prog 100 #[.agg #[.int .i64 p, .int .i64 D, .int .i64 L, .int .i64 bx, .int .i64 b'], .int .i64 n, .agg #[.int .i64 a.x, .int .i64 a.y]] w fun r w' => r = .returned (prV (mulE p D n a)) ∧ Ext w w' := by
  have Hadd : Hid (∀ (a b : Pr) (w : World), InE p a → InE p b → Calls Tryz.prog 101 #[.agg #[.int .i64 p, .int .i64 D, .int .i64 L, .int .i64 bx, .int .i64 b'], .agg #[.int .i64 a.x, .int .i64 a.y], .agg #[.int .i64 b.x, .int .i64 b.y]] w fun r w' => r = .returned (.agg #[.int .i64 (addE p D a b).x, .int .i64 (addE p D a b).y]) ∧ Ext w w') := fun a b w ha hb => l4Add_any p D L bx b' a b w hpr h3 hp hD0 hD ha hb
  have Hin : Hid (∀ a b : Pr, InE p a → InE p b → InE p (addE p D a b)) := fun a b _ _ => addE_inE (by omega) D a b
  have Hs : Hid (accE p D 64 n oneE a = mulE p D n a) := rfl
  have Ha : Hid (InE p a) := ha
  have Hf : Hid (InE p oneE) := ⟨Int.le_refl _, by show (0 : Int) < p; omega, by show (0 : Int) ≤ 1; omega, by show (1 : Int) < p; omega⟩
  generalize mulE p D n a = G at *
  clear hpr h3 hp hD0 hD ha
  go_enter Tryz.func100, Tryz.ntmps100
  obtain ⟨B1, B2, B3, B4, hE, hz⟩ := box4 w [.int .i64 p, .int .i64 D, .int .i64 L, .int .i64 bx, .int .i64 b'] [.int .i64 a.x, .int .i64 a.y] [.int .i64 0, .int .i64 0] [.int .i64 0, .int .i64 1] 37 38 38 38 (Ext.refl _)
  have HF : Hid (MulE w _ p D L bx b' a oneE) := ⟨B1, B2, B3, B4, hE, hz⟩
  clear B1 B2 B3 B4 hE hz
  go_wp2
  go_loopw [1] (fun m wr => ∃ (f X : Nat) (o b : Pr), m = .int .i64 X ∧ X < 2 ^ f ∧ X ≤ 9223372036854775807 ∧ InE p o ∧ InE p b ∧ accE p D f X o b = G ∧ MulE w wr p D L bx b' b o) (fun m _ => (intOf m).toNat)
  case atStart => exact ⟨64, n, oneE, a, rfl, by omega, hn, Hf.out, Ha.out, Hs.out, HF.out⟩
  case round =>
    obtain ⟨f, X, o, b, rfl, hX, hXm, ho, hb, hacc, hM⟩ := hrel
    have HM := hide hM
    have Hacc := hide hacc
    clear Hs Ha Hf hacc HF
    have KC := hM.cv
    have KO := hM.ot
    have KB := hM.pt
    have k0 := (KC 0 _ rfl).1
    have k1 := (KC 1 _ rfl).1
    have k2 := (KC 2 _ rfl).1
    have k3 := (KC 3 _ rfl).1
    have k4 := (KC 4 _ rfl).1
    have o0 := (KO 0 _ rfl).1
    have o1 := (KO 1 _ rfl).1
    have y0 := (KO 0 _ rfl).2
    have y1 := (KO 1 _ rfl).2
    have b0 := (KB 0 _ rfl).1
    have b1 := (KB 1 _ rfl).1
    have x0 := (KB 0 _ rfl).2
    have x1 := (KB 1 _ rfl).2
    clear KC KO KB
    clear hM
    by_cases h0 : X = 0
    · subst h0
      have e : o = G := by rw [← Hacc.out, accE_zero]
      subst e
      have B3 := HM.out.rs
      have hE := HM.out.ext
      have d0 := (B3 0 _ rfl).1
      have d1 := (B3 1 _ rfl).1
      have z0 := (B3 0 _ rfl).2
      have z1 := (B3 1 _ rfl).2
      go_wp2
      obtain ⟨W, hW⟩ : ∃ W, putL (w.heap.size + 1 + 1) 0 [.int .i64 o.x, .int .i64 o.y] wr = W := ⟨_, rfl⟩
      have BW := Blk.put B3 [.int .i64 o.x, .int .i64 o.y] rfl
      rw [hW] at BW
      have hF : Ext w W := hW ▸ hE.putL (by omega) _
      simp only [putL, Nat.zero_add] at hW
      simp only [hW]
      have q0 := (BW 0 _ rfl).1
      have q1 := (BW 1 _ rfl).1
      refine bodyPost_ret (v := .agg #[.int .i64 o.x, .int .i64 o.y]) (by simp [results, Tryz.results100, go_sem, q0, q1]) rfl ⟨rfl, hF⟩
    · obtain ⟨f', rfl⟩ : ∃ f', f = f' + 1 := by
        rcases f with _ | f'
        · simp at hX; omega
        · exact ⟨f', rfl⟩
      have hX2 : X / 2 < 2 ^ f' := by rw [Nat.pow_succ] at hX; omega
      have hpos : 0 < (X : Int) := by omega
      have Hac : Hid (accE p D f' (X / 2) (if X % 2 = 1 then addE p D o b else o) (addE p D b b) = G) := Hacc.out
      have Hbb := hide (Hin.out b b hb hb)
      clear Hacc hX
      by_cases hodd : X % 2 = 1
      · have hb1 : (X : Int) % 2 = 1 := by omega
        have Hob := hide (Hin.out o b ho hb)
        have Ha2 : Hid (accE p D f' (X / 2) (addE p D o b) (addE p D b b) = G) := by have := Hac.out; rwa [if_pos hodd] at this
        clear Hac
        go_wp2_with fail
        refine (Hadd.out o b _ ho hb).mono ?_
        rintro e w1 ⟨rfl, hw1⟩
        generalize addE p D o b = c at *
        have M1 := HM.out.call hw1
        have HM1 := hide M1
        clear hw1 HM k0 k1 k2 k3 k4 o0 o1 y0 y1 b0 b1 x0 x1
        have KC := M1.cv
        have KO := M1.ot
        have KB := M1.pt
        have k0 := (KC 0 _ rfl).1
        have k1 := (KC 1 _ rfl).1
        have k2 := (KC 2 _ rfl).1
        have k3 := (KC 3 _ rfl).1
        have k4 := (KC 4 _ rfl).1
        have o0 := (KO 0 _ rfl).1
        have o1 := (KO 1 _ rfl).1
        have y0 := (KO 0 _ rfl).2
        have y1 := (KO 1 _ rfl).2
        have b0 := (KB 0 _ rfl).1
        have b1 := (KB 1 _ rfl).1
        have x0 := (KB 0 _ rfl).2
        have x1 := (KB 1 _ rfl).2
        clear KC KO KB
        clear M1
        go_wp2_with fail
        refine (Hadd.out b b _ hb hb).mono ?_
        rintro e w2 ⟨rfl, hw2⟩
        generalize addE p D b b = d at *
        have M2 := (HM1.out.putO c).call hw2
        have HM2 := hide M2
        clear hw2 HM1 k0 k1 k2 k3 k4 o0 o1 y0 y1 b0 b1 x0 x1
        have KC := M2.cv
        have KO := M2.ot
        have KB := M2.pt
        have k0 := (KC 0 _ rfl).1
        have k1 := (KC 1 _ rfl).1
        have k2 := (KC 2 _ rfl).1
        have k3 := (KC 3 _ rfl).1
        have k4 := (KC 4 _ rfl).1
        have o0 := (KO 0 _ rfl).1
        have o1 := (KO 1 _ rfl).1
        have y0 := (KO 0 _ rfl).2
        have y1 := (KO 1 _ rfl).2
        have b0 := (KB 0 _ rfl).1
        have b1 := (KB 1 _ rfl).1
        have x0 := (KB 0 _ rfl).2
        have x1 := (KB 1 _ rfl).2
        clear KC KO KB
        clear M2
        go_wp2
        go_roundw
        case rel => exact ⟨f', X / 2, c, d, by go_num, hX2, by omega, Hob.out, Hbb.out, Ha2.out, HM2.out.putB d⟩
        case measure => simp [intOf]; omega
      · have hb1 : (X : Int) % 2 = 0 := by omega
        have Ha2 : Hid (accE p D f' (X / 2) o (addE p D b b) = G) := by have := Hac.out; rwa [if_neg hodd] at this
        clear Hac
        go_wp2_with fail
        refine (Hadd.out b b _ hb hb).mono ?_
        rintro e w2 ⟨rfl, hw2⟩
        generalize addE p D b b = d at *
        have M2 := HM.out.call hw2
        have HM2 := hide M2
        clear hw2 HM k0 k1 k2 k3 k4 o0 o1 y0 y1 b0 b1 x0 x1
        have KC := M2.cv
        have KO := M2.ot
        have KB := M2.pt
        have k0 := (KC 0 _ rfl).1
        have k1 := (KC 1 _ rfl).1
        have k2 := (KC 2 _ rfl).1
        have k3 := (KC 3 _ rfl).1
        have k4 := (KC 4 _ rfl).1
        have o0 := (KO 0 _ rfl).1
        have o1 := (KO 1 _ rfl).1
        have y0 := (KO 0 _ rfl).2
        have y1 := (KO 1 _ rfl).2
        have b0 := (KB 0 _ rfl).1
        have b1 := (KB 1 _ rfl).1
        have x0 := (KB 0 _ rfl).2
        have x1 := (KB 1 _ rfl).2
        clear KC KO KB
        clear M2
        go_wp2
        go_roundw
        case rel => exact ⟨f', X / 2, o, d, by go_num, hX2, by omega, ho, Hbb.out, Ha2.out, HM2.out.putB d⟩
        case measure => simp [intOf]; omega

end Go.Proofs.YtdaneanloknkpacGreatDoor
