/- Walks: CurveOk and PointOk of the model. -/
import Derived.Test.YtejlgcnhfomadacDoorCurveN
namespace Go.Proofs.YtejlgcnhfomadacDoor
set_option linter.unusedVariables false
open Go.RowKit

/-- The curve is as the document wants it. -/
structure CvOk (P A B N gx gy : Int) : Prop where
  p5 : 5 ≤ P
  pM : P ≤ 1048576
  p4 : P % 4 = 3
  pp : Prime P.toNat
  a0 : 0 ≤ A
  a1 : A < P
  b0 : 0 ≤ B
  b1 : B < P
  n5 : 5 ≤ N
  nM : N ≤ 2097152
  np : Prime N.toNat
  disc : ¬ P ∣ 4 * (A * A * A) + 27 * (B * B)
  g : On P.toNat A B ⟨gx, gy, false⟩
  far : (mulF P.toNat A N.toNat ⟨gx, gy, false⟩).far = true

/-- A call's answer is whether the curve is so. -/
def GivesCv (P A B N gx gy : Int) (r : Ending) : Prop := ∃ ok : Bool, r = .returned (.bool ok) ∧ (ok = true ↔ CvOk P A B N gx gy)

theorem bcell {W w1 : World} (hb : Below W.heap.size W w1) : (∀ b o, b < W.heap.size → w1.cell? ⟨b, o, none⟩ = W.cell? ⟨b, o, none⟩) ∧ (∀ b o, b < W.heap.size → w1.frozen? ⟨b, o, none⟩ = W.frozen? ⟨b, o, none⟩) :=
  ⟨fun b o h => hb.cell (p := ⟨b, o, none⟩) h, fun b o h => hb.frozen (p := ⟨b, o, none⟩) h⟩

theorem givesCv_no {P A B N gx gy : Int} (h : ¬ CvOk P A B N gx gy) : GivesCv P A B N gx gy (.returned (.bool false)) := ⟨false, rfl, ⟨fun k => by simp at k, fun k => absurd k h⟩⟩

theorem CvOk.cv {P A B N gx gy : Int} (h : CvOk P A B N gx gy) : Cv P.toNat A B :=
  ⟨h.pp, by have := h.p5; omega, by rw [show ((P.toNat : Nat) : Int) = P by have := h.p5; omega]; exact h.disc⟩

theorem on_inR {p : Nat} {A B : Int} (hp : 0 < p) {a : Pt} (h : On p A B a) : InR p a := by
  rcases h with ⟨_, hx, hy⟩ | ⟨_, k⟩
  · exact ⟨by omega, by omega, by omega, by omega⟩
  · exact ⟨k.x0, k.x1, k.y0, k.y1⟩

theorem disc_model {p A B : Int} : (4 * (A * A % p) * A + 27 * (B * B % p)) % p = 0 ↔ p ∣ 4 * (A * A * A) + 27 * (B * B) := by
  have h1 := mod_dvd p (A * A)
  have h2 := mod_dvd p (B * B)
  generalize A * A % p = u at *
  generalize B * B % p = v at *
  constructor
  · intro h
    exact comb3 (Int.dvd_of_emod_eq_zero h) h1 h2 1 (-4 * A) (-27) (by grind)
  · intro h
    exact Int.emod_eq_zero_of_dvd (comb3 h h1 h2 1 (4 * A) 27 (by grind))

theorem CvAt.alloc (w : World) (p A B N gx gy : Int) (t : TypeId) : CvAt (w.alloc (.cells #[.int .i64 p, .int .i64 A, .int .i64 B, .int .i64 N, .int .i64 gx, .int .i64 gy] t)) w.heap.size p A B N gx gy :=
  ⟨by simp [go_sem], by simp [go_sem], by simp [go_sem], by simp [go_sem], by simp [go_sem], by simp [go_sem]⟩

theorem PtAt.alloc (w : World) (a : Pt) (t : TypeId) : PtAt (w.alloc (.cells #[.int .i64 a.x, .int .i64 a.y, .bool a.far] t)) w.heap.size a :=
  ⟨by simp [go_sem], by simp [go_sem], by simp [go_sem], by simp [go_sem], by simp [go_sem], by simp [go_sem]⟩

/-- A call's answer is whether the curve is so and the point is of it. -/
def GivesOk (P A B N gx gy : Int) (a : Pt) (r : Ending) : Prop := ∃ ok : Bool, r = .returned (.bool ok) ∧ (ok = true ↔ CvOk P A B N gx gy ∧ On P.toNat A B a)

def zeroP : Pt := ⟨0, 0, false⟩

/-- An answer that may be refused. -/
def OptPt (Q : Prop) (v c : Pt) (ok : Bool) : Prop := (ok = true ∧ Q ∧ c = v) ∨ (ok = false ∧ ¬ Q ∧ c = zeroP)

theorem OptPt.unique {Q : Prop} {v c c' : Pt} {ok ok' : Bool} (h : OptPt Q v c ok) (h' : OptPt Q v c' ok') : c = c' ∧ ok = ok' := by
  rcases h with ⟨h1, h2, h3⟩ | ⟨h1, h2, h3⟩ <;> rcases h' with ⟨k1, k2, k3⟩ | ⟨k1, k2, k3⟩
  · exact ⟨h3.trans k3.symm, h1.trans k1.symm⟩
  · exact absurd h2 k2
  · exact absurd k2 h2
  · exact ⟨h3.trans k3.symm, h1.trans k1.symm⟩

def GivesPt (Q : Prop) (v : Pt) (r : Ending) : Prop := ∃ c ok, r = .returned (.tuple #[ptV c, .bool ok]) ∧ OptPt Q v c ok

theorem givesPt_no {Q : Prop} {v : Pt} (h : ¬ Q) : GivesPt Q v (.returned (.tuple #[ptV zeroP, .bool false])) := ⟨zeroP, false, rfl, Or.inr ⟨rfl, h, rfl⟩⟩
theorem givesPt_yes {Q : Prop} {v : Pt} (h : Q) : GivesPt Q v (.returned (.tuple #[ptV v, .bool true])) := ⟨v, true, rfl, Or.inl ⟨rfl, h, rfl⟩⟩

end Go.Proofs.YtejlgcnhfomadacDoor
