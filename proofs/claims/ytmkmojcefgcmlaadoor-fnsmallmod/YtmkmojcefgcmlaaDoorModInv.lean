/- Walks: ModInv of the model: the number whose product with another leaves 1. -/
import Derived.Test.YtmkmojcefgcmlaaDoorModPow
import Derived.Test.YtmkmojcefgcmlaaDoorTheory
namespace Go.Proofs.YtmkmojcefgcmlaaDoor
set_option linter.unusedVariables false
open Go.RowKit

theorem nval_div {f h k : Nat → Int} {n p q : Nat} (hf : Digs f n) (hh : Digs h p) (hk : Digs k q) (e : val k q = val f n / val h p) : nval k q = nval f n / nval h p := by
  rw [nval_eq hf, nval_eq hh, nval_eq hk, ← Int.natCast_ediv] at e
  omega

theorem nval_mul {f g k : Nat → Int} {n m q : Nat} (hf : Digs f n) (hg : Digs g m) (hk : Digs k q) (e : val k q = val f n * val g m) : nval k q = nval f n * nval g m := by
  rw [nval_eq hf, nval_eq hg, nval_eq hk, ← Int.natCast_mul] at e
  omega

theorem nval_add {f g k : Nat → Int} {n m q : Nat} (hf : Digs f n) (hg : Digs g m) (hk : Digs k q) (e : val k q = val f n + val g m) : nval k q = nval f n + nval g m := by
  rw [nval_eq hf, nval_eq hg, nval_eq hk] at e
  omega

theorem nval_sub {f g k : Nat → Int} {n m q : Nat} (hf : Digs f n) (hg : Digs g m) (hk : Digs k q) (e : val k q = val f n - val g m) : nval k q = nval f n - nval g m := by
  rw [nval_eq hf, nval_eq hg, nval_eq hk] at e
  omega

theorem nval_le {f g : Nat → Int} {n m : Nat} (hf : Digs f n) (hg : Digs g m) (h : nval f n ≤ nval g m) : val f n ≤ val g m := by
  rw [nval_eq hf, nval_eq hg]
  omega

theorem sum_len {f g h : Nat → Int} {n m k N : Nat} (hf : Digs f n) (hg : Digs g m) (hh : Canon k h) (e : val h k = val f n + val g m) (hn : n ≤ N) (hm : m ≤ N) : k ≤ N + 1 := by
  refine (canon_len hh (N + 1)).2 ?_
  have b1 := (val_bd hf).2
  have b2 := (val_bd hg).2
  have p1 := pw_le hn
  have p2 := pw_le hm
  have : pw (N + 1) = pw N * 65536 := rfl
  have := pw_pos N
  omega

/-- The number that a slice in memory tells. -/
def sliceVal (v : Value) (w : World) : Nat :=
  match v with
  | .slice (some ⟨b, off, _⟩) n _ => nval (fun i => match w.cell? ⟨b, off + i, none⟩ with | some (.int _ z) => z | _ => 0) n
  | _ => 0

theorem sliceVal_seg {w : World} {a : Option Addr} {b off n cap : Nat} {f : Nat → Int} (h : Seg w a b off n f) : sliceVal (.slice a n cap) w = nval f n := by
  by_cases hn : n = 0
  · subst hn
    cases a with
    | none => rfl
    | some x => rfl
  · obtain rfl := h.at' (by omega)
    show nval _ n = nval f n
    unfold nval
    rw [val_congr (fun i hi => by rw [h.cell i hi])]

theorem nval_zero {f : Nat → Int} {n : Nat} (hc : Canon n f) : nval f n = 0 ↔ n = 0 := by
  constructor
  · intro h
    by_cases e : n = 0
    · exact e
    · have := nval_pos hc (by omega); omega
  · rintro rfl; rfl

/-- Two naturals, the second not 0. -/
def twoB (n : Nat) (f : Nat → Int) (n3 : Nat) (h : Nat → Int) : Bool := natOk n f && natOk n3 h && !(n3 == 0)

theorem threeB_ok {n : Nat} {f : Nat → Int} {n2 : Nat} {g : Nat → Int} {n3 : Nat} {h : Nat → Int} (k : natOk n2 g = true) : threeB n f n2 g n3 h = twoB n f n3 h := by
  simp [threeB, twoB, k]

theorem natOk_one : natOk 1 (fun _ => 1) = true := by decide

theorem natOk_nil (g : Nat → Int) : natOk 0 g = true := by simp [natOk, digs]

/-- ModInv's answer. -/
def modInvQ (n : Nat) (f : Nat → Int) (n3 : Nat) (h : Nat → Int) : Option Int := if twoB n f n3 h && !(nval h n3 == 1) then invQ (nval h n3) (nval f n % nval h n3) else none

theorem nval_one : nval (fun _ => 1) 1 = 1 := by simp [nval, canon_one.2]

theorem own_one (w : World) : Own (w.alloc (.cells #[.int .i64 1] 3)) (some ⟨w.heap.size, 0, none⟩) w.heap.size 0 1 (fun _ => 1) := by
  obtain ⟨a, g, cap, hv, hg, hO⟩ := own_of_owns (f := fun _ => 1) (n := 1) (owns_one w 1)
  have e := hO.at' (by omega)
  subst e
  injection hv with h1 h2 h3
  injection h1 with h4
  injection h4 with h5
  subst h5
  exact hO

/-- In mid-search of the model: S, R, X, Y lie in memory. -/
structure InvAt (w wr : World) (M A n3 : Nat) (aS : Option Addr) (gS nS : Nat) (fS : Nat → Int) (aR : Option Addr) (gR nR : Nat) (fR : Nat → Int) (aX : Option Addr) (gX nX : Nat) (fX : Nat → Int) (aY : Option Addr) (gY nY : Nat) (fY : Nat → Int) : Prop where
  cS : Canon nS fS
  cR : Canon nR fR
  cX : Canon nX fX
  cY : Canon nY fY
  lS : nS ≤ n3
  lR : nR ≤ n3
  lX : nX ≤ n3
  lY : nY ≤ n3
  left : Left M A (nval fR nR) (nval fS nS) (nval fX nX) (nval fY nY)
  sS : Seg wr aS gS 0 nS fS
  sR : Seg wr aR gR 0 nR fR
  oX : Own wr aX gX 0 nX fX
  oY : Own wr aY gY 0 nY fY
  geX : w.heap.size ≤ gX
  geY : w.heap.size ≤ gY
  below : Below w.heap.size w wr

end Go.Proofs.YtmkmojcefgcmlaaDoor
