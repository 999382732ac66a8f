/- Walks: products: the model's l1Mul and the program's digitsProduct. -/
import Derived.Test.YtmkmojcefgcmlaaDoorAdds2
import Derived.Test.YtmkmojcefgcmlaaDoorArith
import Derived.Deep.QuietTactic
import Derived.BigQuiet
namespace Go.Proofs.YtmkmojcefgcmlaaDoor
set_option linter.unusedVariables false
open Go.RowKit

theorem Own.set0 {w : World} {a : Option Addr} {g n : Nat} {f : Nat → Int} (h : Own w a g 0 n f) {k : Nat} (hk : k < n) (x : Int) :
    Own (w.setCell ⟨g, k, none⟩ (.int .i64 x)) a g 0 n (upd f k x) := by
  have := h.set hk x
  rw [Nat.zero_add] at this
  exact this

theorem Own.cell0 {w : World} {a : Option Addr} {g n : Nat} {f : Nat → Int} (h : Own w a g 0 n f) {k : Nat} (hk : k < n) : w.cell? ⟨g, k, none⟩ = some (.int .i64 (f k)) ∧ w.frozen? ⟨g, k, none⟩ = false := by
  have h1 := h.cell k hk
  have h2 := h.free k hk
  rw [Nat.zero_add] at h1 h2
  exact ⟨h1, h2⟩

/-- Between two rounds of the outer loop: i digits of f are multiplied. -/
structure Outer (w wr : World) (f g : Nat → Int) (n n2 i : Nat) (h : Nat → Int) : Prop where
  own : Own wr (some ⟨w.heap.size, 0, none⟩) w.heap.size 0 (n + n2) h
  digs : Digs h (n + n2)
  val : val h (n + n2) = val f i * val g n2
  below : Below w.heap.size w wr

/-- Within the inner loop: k digits of g are multiplied by the i-th of f. -/
structure Inner (w wr : World) (f g : Nat → Int) (n n2 i k : Nat) (c : Int) (h : Nat → Int) : Prop where
  own : Own wr (some ⟨w.heap.size, 0, none⟩) w.heap.size 0 (n + n2) h
  digs : Digs h (n + n2)
  val : val h (n + n2) + c * pw (i + k) = val f i * val g n2 + f i * val (ext n2 g) k * pw i
  high : ∀ j, i + n2 ≤ j → j < n + n2 → i + k ≤ j → h j = 0
  c0 : 0 ≤ c
  c1 : c ≤ 65535
  last : k = n2 + 1 → c = 0
  small : k ≤ n2 + 1
  below : Below w.heap.size w wr

theorem inner_start {w wr : World} {f g : Nat → Int} {n n2 i : Nat} {h : Nat → Int} (hO : Outer w wr f g n n2 i h) (hi : i < n) (hf : Digs f n) (hg : Digs g n2) : Inner w wr f g n n2 i 0 0 h := by
  refine ⟨hO.own, hO.digs, by simp [Proofs.YtmkmojcefgcmlaaDoor.val, hO.val], fun j h1 h2 _ => ?_, by omega, by omega, by omega, by omega, hO.below⟩
  exact val_high hO.digs (m := i + n2) (by rw [hO.val]; exact (val_mul_lt (hf.mono (by omega)) hg).2) j h1 h2

theorem inner_step {w wr : World} {f g : Nat → Int} {n n2 i k : Nat} {c x : Int} {h : Nat → Int} (hI : Inner w wr f g n n2 i k c h) (hi : i < n) (hk : k ≤ n2) (hx : x = h (i + k) + f i * ext n2 g k + c)
    (hx1 : x / 65536 ≤ 65535) (hx0 : 0 ≤ x) : Inner w (wr.setCell ⟨w.heap.size, i + k, none⟩ (.int .i64 (x % 65536))) f g n n2 i (k + 1) (x / 65536) (upd h (i + k) (x % 65536)) := by
  have hkN : i + k < n + n2 := by omega
  refine ⟨hI.own.set0 hkN _, upd_digs hI.digs (by omega) (by omega), mul_step hkN hx hI.val, fun j h1 h2 h3 => ?_, by omega, hx1, fun e => ?_, by omega, hI.below.setCell (Nat.le_refl _) _⟩
  · rw [upd_other (by omega)]
    exact hI.high j h1 h2 (by omega)
  · have e1 : ext n2 g k = 0 := ext_out (by omega)
    have e2 : h (i + k) = 0 := hI.high _ (by omega) hkN (by omega)
    have := hI.c1
    rw [e1, e2, Int.mul_zero] at hx
    omega

theorem inner_drew {w wr : World} {f g : Nat → Int} {n n2 i k : Nat} {c : Int} {h : Nat → Int} (hI : Inner w wr f g n n2 i k c h) (q : Nat) : Inner w (wr.drewN q) f g n n2 i k c h :=
  ⟨hI.own.of_all (below_drewN (Below.refl _ _) q), hI.digs, hI.val, hI.high, hI.c0, hI.c1, hI.last, hI.small, below_drewN hI.below q⟩

theorem inner_done {w wr : World} {f g : Nat → Int} {n n2 i k : Nat} {h : Nat → Int} (hI : Inner w wr f g n n2 i k 0 h) (hk : n2 ≤ k) : Outer w wr f g n n2 (i + 1) h := by
  refine ⟨hI.own, hI.digs, ?_, hI.below⟩
  have := hI.val
  rw [val_ext hk] at this
  simp only [Proofs.YtmkmojcefgcmlaaDoor.val]
  grind

theorem outer_start {w : World} {f g : Nat → Int} {n n2 : Nat} : Outer w (w.alloc (.cells (madeCells #[.int .i64 0] (n + n2)) 3)) f g n n2 0 (fun _ => 0) := by
  refine ⟨Own.of_row (World.rowIs_made w _ (n + n2) 3) (Nat.le_refl _), fun i _ => by omega, ?_, (Below.refl _ _).alloc (Nat.le_refl _) _⟩
  have : ∀ m, Proofs.YtmkmojcefgcmlaaDoor.val (fun _ => 0) m = 0 := fun m => by induction m with
    | zero => rfl
    | succ m ih => simp [Proofs.YtmkmojcefgcmlaaDoor.val, ih]
  rw [this]
  simp [Proofs.YtmkmojcefgcmlaaDoor.val]

theorem carry_bd {hd d y c : Int} (h0 : 0 ≤ hd) (h1 : hd ≤ 65535) (d0 : 0 ≤ d) (d1 : d ≤ 65535) (y0 : 0 ≤ y) (y1 : y ≤ 65535) (c0 : 0 ≤ c) (c1 : c ≤ 65535) : 0 ≤ hd + d * y + c ∧ (hd + d * y + c) / 65536 ≤ 65535 := by
  have := prod_bd d0 d1 y0 y1
  omega

end Go.Proofs.YtmkmojcefgcmlaaDoor
