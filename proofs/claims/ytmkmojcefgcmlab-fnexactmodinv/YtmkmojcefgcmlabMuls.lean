/- Walks: products: the model's l1Mul and the program's digitsProduct. -/
import Derived.Test.YtmkmojcefgcmlabAdds2
import Derived.Test.YtmkmojcefgcmlabMulM
import Derived.Deep.QuietTactic
import Derived.BigQuiet
namespace Go.Proofs.Ytmkmojcefgcmlab
set_option linter.unusedVariables false
open Go.RowKit

theorem Own.set0 {w : World} {a : Option Addr} {g n : Nat} {f : Nat → Int} (h : Own w a g 0 n f) {k : Nat} (hk : k < n) (x : Int) :
    Own (w.setCell ⟨g, k, none⟩ (.int .i64 x)) a g 0 n (upd f k x) := by
  have := h.set hk x
  rw [Nat.zero_add] at this
  exact this

theorem Own.cell0 {w : World} {a : Option Addr} {g n : Nat} {f : Nat → Int} (h : Own w a g 0 n f) {k : Nat} (hk : k < n) : w.cell? ⟨g, k, none⟩ = some (.int .i64 (f k)) ∧ w.frozen? ⟨g, k, none⟩ = false := by
  have h1 := h.cell k hk
  have h2 := h.free k hk
  rw [Nat.zero_add] at h1 h2
  exact ⟨h1, h2⟩

/-- Between two rounds of the outer loop: i digits of f are multiplied. -/
structure Outer (w wr : World) (f g : Nat → Int) (n n2 i : Nat) (h : Nat → Int) : Prop where
  own : Own wr (some ⟨w.heap.size, 0, none⟩) w.heap.size 0 (n + n2) h
  digs : Digs h (n + n2)
  val : val h (n + n2) = val f i * val g n2
  below : Below w.heap.size w wr

/-- Within the inner loop: k digits of g are multiplied by the i-th of f. -/
structure Inner (w wr : World) (f g : Nat → Int) (n n2 i k : Nat) (c : Int) (h : Nat → Int) : Prop where
  own : Own wr (some ⟨w.heap.size, 0, none⟩) w.heap.size 0 (n + n2) h
  digs : Digs h (n + n2)
  val : val h (n + n2) + c * pw (i + k) = val f i * val g n2 + f i * val (ext n2 g) k * pw i
  high : ∀ j, i + n2 ≤ j → j < n + n2 → i + k ≤ j → h j = 0
  c0 : 0 ≤ c
  c1 : c ≤ 65535
  last : k = n2 + 1 → c = 0
  small : k ≤ n2 + 1
  below : Below w.heap.size w wr

theorem inner_start {w wr : World} {f g : Nat → Int} {n n2 i : Nat} {h : Nat → Int} (hO : Outer w wr f g n n2 i h) (hi : i < n) (hf : Digs f n) (hg : Digs g n2) : Inner w wr f g n n2 i 0 0 h := by
  refine ⟨hO.own, hO.digs, by simp [Proofs.Ytmkmojcefgcmlab.val, hO.val], fun j h1 h2 _ => ?_, by omega, by omega, by omega, by omega, hO.below⟩
  exact val_high hO.digs (m := i + n2) (by rw [hO.val]; exact (val_mul_lt (hf.mono (by omega)) hg).2) j h1 h2

theorem inner_step {w wr : World} {f g : Nat → Int} {n n2 i k : Nat} {c x : Int} {h : Nat → Int} (hI : Inner w wr f g n n2 i k c h) (hi : i < n) (hk : k ≤ n2) (hx : x = h (i + k) + f i * ext n2 g k + c)
    (hx1 : x / 65536 ≤ 65535) (hx0 : 0 ≤ x) : Inner w (wr.setCell ⟨w.heap.size, i + k, none⟩ (.int .i64 (x % 65536))) f g n n2 i (k + 1) (x / 65536) (upd h (i + k) (x % 65536)) := by
  have hkN : i + k < n + n2 := by omega
  refine ⟨hI.own.set0 hkN _, upd_digs hI.digs (by omega) (by omega), mul_step hkN hx hI.val, fun j h1 h2 h3 => ?_, by omega, hx1, fun e => ?_, by omega, hI.below.setCell (Nat.le_refl _) _⟩
  · rw [upd_other (by omega)]
    exact hI.high j h1 h2 (by omega)
  · have e1 : ext n2 g k = 0 := ext_out (by omega)
    have e2 : h (i + k) = 0 := hI.high _ (by omega) hkN (by omega)
    have := hI.c1
    rw [e1, e2, Int.mul_zero] at hx
    omega

theorem inner_drew {w wr : World} {f g : Nat → Int} {n n2 i k : Nat} {c : Int} {h : Nat → Int} (hI : Inner w wr f g n n2 i k c h) (q : Nat) : Inner w (wr.drewN q) f g n n2 i k c h :=
  ⟨hI.own.of_all (below_drewN (Below.refl _ _) q), hI.digs, hI.val, hI.high, hI.c0, hI.c1, hI.last, hI.small, below_drewN hI.below q⟩

theorem inner_done {w wr : World} {f g : Nat → Int} {n n2 i k : Nat} {h : Nat → Int} (hI : Inner w wr f g n n2 i k 0 h) (hk : n2 ≤ k) : Outer w wr f g n n2 (i + 1) h := by
  refine ⟨hI.own, hI.digs, ?_, hI.below⟩
  have := hI.val
  rw [val_ext hk] at this
  simp only [Proofs.Ytmkmojcefgcmlab.val]
  grind

theorem outer_start {w : World} {f g : Nat → Int} {n n2 : Nat} : Outer w (w.alloc (.cells (madeCells #[.int .i64 0] (n + n2)) 3)) f g n n2 0 (fun _ => 0) := by
  refine ⟨Own.of_row (World.rowIs_made w _ (n + n2) 3) (Nat.le_refl _), fun i _ => by omega, ?_, (Below.refl _ _).alloc (Nat.le_refl _) _⟩
  have : ∀ m, Proofs.Ytmkmojcefgcmlab.val (fun _ => 0) m = 0 := fun m => by induction m with
    | zero => rfl
    | succ m ih => simp [Proofs.Ytmkmojcefgcmlab.val, ih]
  rw [this]
  simp [Proofs.Ytmkmojcefgcmlab.val]

theorem carry_bd {hd d y c : Int} (h0 : 0 ≤ hd) (h1 : hd ≤ 65535) (d0 : 0 ≤ d) (d1 : d ≤ 65535) (y0 : 0 ≤ y) (y1 : y ≤ 65535) (c0 : 0 ≤ c) (c1 : c ≤ 65535) : 0 ≤ hd + d * y + c ∧ (hd + d * y + c) / 65536 ≤ 65535 := by
  have := prod_bd d0 d1 y0 y1
  omega

set_option maxHeartbeats 1600000 in
theorem l1Mul_any (a : Option Addr) (b off n cap : Nat) (f : Nat → Int) (a2 : Option Addr) (b2 off2 n2 cap2 : Nat) (g : Nat → Int) (w : World) (hs : Seg w a b off n f) (hs2 : Seg w a2 b2 off2 n2 g)
    (hn : n ≤ 4096) (hn2 : n2 ≤ 4096) (hf : Digs f n) (hg : Digs g n2) :
    Calls Try.prog 40 #[.slice a n cap, .slice a2 n2 cap2] w fun e w' => GivesVal w (val f n * val g n2) e w' := by
  have hmk := run_make_row' (P := Try.prog) 22 3 (.int .i64 0) 8 Try.underlying22 Try.info3 rfl .i64 .i64 (n + n2) (by omega) (by omega)
  have ec : ((n + n2 : Nat) : Int) = (n : Int) + (n2 : Int) := by omega
  rw [ec] at hmk
  go_enter Try.func40, Try.ntmps40
  go_wp2
  clear hmk ec
  go_loopw [6] (fun s wr => ∃ (i : Nat) (h : Nat → Int), i ≤ n ∧ s = .int .i64 i ∧ Outer w wr f g n n2 i h) (fun s _ => n - (intOf s).toNat)
  case atStart => exact ⟨0, _, by omega, rfl, outer_start⟩
  case round =>
    obtain ⟨i, h, hin, rfl, hO⟩ := hrel
    by_cases hlt : i < n
    · obtain rfl := hs.at' (by omega)
      have hI := inner_start hO hlt hf hg
      have hi' : (i : Int) < (n : Int) := by omega
      clear hO
      go_wp2
      go_loopw [7, 8] (fun sc sk wi => ∃ (k : Nat) (c : Int) (h : Nat → Int), sk = .int .i64 k ∧ sc = .int .i64 c ∧ Inner w wi f g n n2 i k c h) (fun _ sk _ => n2 + 1 - (intOf sk).toNat)
      case atStart => exact ⟨0, 0, h, rfl, rfl, hI⟩
      case round =>
        clear hI
        obtain ⟨k, c, h, rfl, rfl, hI⟩ := hrel
        have hkk := hI.small
        by_cases hgo : k < n2 ∨ 0 < c
        · have hk2 : k ≤ n2 := by
            by_cases e : k = n2 + 1
            · have := hI.last e; omega
            · omega
          have hkN : i + k < n + n2 := by omega
          have hkN' : (i : Int) + (k : Int) < (n : Int) + (n2 : Int) := by omega
          obtain ⟨hc1, hz1⟩ := hI.own.cell0 hkN
          have hc2 := (hs.of_all hI.below).cell i hlt
          obtain ⟨d0, d1⟩ := hf i hlt
          obtain ⟨y0, y1⟩ := ext_bd hg k
          obtain ⟨e0, e1⟩ := hI.digs _ hkN
          have c0 := hI.c0
          have c1 := hI.c1
          have hcb := carry_bd e0 e1 d0 d1 y0 y1 c0 c1
          have hpb := prod_bd d0 d1 y0 y1
          have sB := hs2.of_all hI.below
          obtain ⟨y, hy⟩ : ∃ y, y = ext n2 g k := ⟨_, rfl⟩
          have Hdig : Hid (∀ q, Calls Try.prog 45 #[.slice a2 n2 cap2, .int .i64 k] (wr.drewN q) fun e w' => e = .returned (.int .i64 y) ∧ w' = wr.drewN q) := fun q => by
            rw [hy]; exact l1Digit_any a2 b2 off2 n2 cap2 g k _ (sB.of_all (below_drewN (Below.refl _ _) q)) (by omega) (by omega)
          rw [← hy] at y0 y1 hcb hpb
          have Hx : Hid (h (i + k) + f i * y + c = h (i + k) + f i * ext n2 g k + c) := by show _ = _; rw [hy]
          clear hy sB
          obtain ⟨p0, p1⟩ := hpb
          obtain ⟨x0, x1⟩ := hcb
          have hw2 : (k < n2) ∨ (¬ k < n2 ∧ 0 < c) := by omega
          clear hgo
          rcases hw2 with h3 | ⟨h3, h4⟩
          all_goals
            go_wp2
            go_quiet ((go_at_call 45; exact Calls.quiet_of_same (Hdig.out _)))
            have hc3 : (wr.drewN nq).cell? ⟨w.heap.size, i + k, none⟩ = some (.int .i64 (h (i + k))) := hc1
            have hz3 : (wr.drewN nq).frozen? ⟨w.heap.size, i + k, none⟩ = false := hz1
            have hN := inner_step (inner_drew hI nq) hlt hk2 Hx.out x1 x0
            clear hI hc1 hz1 Hdig hc2
            generalize wr.drewN nq = w1 at *
            go_wp2
            go_roundw
            case rel => exact ⟨k + 1, _, _, by go_num, rfl, hN⟩
            case measure => simp [intOf]; omega
        · have hz : c = 0 := by have := hI.c0; omega
          subst hz
          have h3 : ¬ k < n2 := by omega
          have hN := inner_done hI (by omega)
          clear hI hgo
          go_wp2
          go_roundw
          case rel => exact ⟨i + 1, h, by omega, by go_num, hN⟩
          case measure => simp [intOf]; omega
    · obtain rfl : i = n := by omega
      have hb := hO.below
      have HV : Hid (val h (i + n2) = val f i * val g n2) := hO.val
      have hd := hO.digs
      have hO2 := hO.own
      clear hO
      go_wp2_with fail
      refine (l1Norm_any w.heap.size 0 (i + n2) _ h _ hO2.toSeg (by omega) (by omega)).mono ?_
      rintro e w' hN
      have hG := hN.val hb hd (by omega)
      rw [HV.out] at hG
      obtain ⟨g3, cap3, m, f3, rfl, hG⟩ := hG
      clear hN
      go_wp2
      go_ret
      exact ⟨g3, cap3, m, f3, rfl, hG⟩

end Go.Proofs.Ytmkmojcefgcmlab
