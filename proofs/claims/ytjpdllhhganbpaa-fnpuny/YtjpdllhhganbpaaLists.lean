/- Walks of the law's own helpers over slices of ints: toIntS makes a copy in new memory; eqIntS tells whether two slices read alike. -/
import Derived.Test.YtjpdllhhganbpaaChecked
import Derived.Test.YtjpdllhhganbpaaBase
import Derived.Deep.QuietTactic
import Derived.BigQuiet
namespace Go.Proofs.Ytjpdllhhganbpaa
set_option linter.unusedVariables false
open Go.RowKit

theorem Try.info3 : (Try.prog.info? 3).map (fun i => (i.zero, i.size, i.bytes)) = some (some (.int .i64 0), 1, 8) := by kernel_rfl

/-- What toIntS has done behind k rounds: a new row, its first k places filled. -/
structure Copying (w wr : World) (n k : Nat) (f : Nat → Int) : Prop where
  below : Below w.heap.size w wr
  size : wr.heap.size = w.heap.size + 1
  row : wr.rowIs w.heap.size 3 n (fun j => .int .i64 (if j < k then f j else 0))

theorem copying_start (w : World) (n : Nat) (f : Nat → Int) : Copying w (w.alloc (.cells (madeCells #[.int .i64 0] n) 3)) n 0 f :=
  ⟨(Below.refl _ _).alloc (Nat.le_refl _) _, by simp, (World.rowIs_made w _ n 3).congr (fun j _ => by simp)⟩

theorem copying_step {w wr : World} {n k : Nat} {f : Nat → Int} (h : Copying w wr n k f) : Copying w (wr.setCell ⟨w.heap.size, k, none⟩ (.int .i64 (f k))) n (k + 1) f := by
  refine ⟨h.below.setCell (Nat.le_refl _) _, by simp [World.setCell, h.size], (h.row.set k _).congr (fun j _ => ?_)⟩
  by_cases e : j = k
  · subst e; simp
  · rw [if_neg e]
    by_cases hlt : j < k
    · rw [if_pos hlt, if_pos (by omega)]
    · rw [if_neg hlt, if_neg (by omega)]

theorem copying_step' {w wr : World} {n k : Nat} {f : Nat → Int} {v : Int} (h : Copying w wr n k f) (hv : v = f k) : Copying w (wr.setCell ⟨w.heap.size, k, none⟩ (.int .i64 v)) n (k + 1) f := by
  rw [hv]; exact copying_step h

/-- Two lists of n ints are alike in the first n places. -/
def alike (f g : Nat → Int) : Nat → Bool
  | 0 => true
  | n + 1 => alike f g n && f n == g n

theorem alike_iff (f g : Nat → Int) (n : Nat) : alike f g n = true ↔ ∀ i, i < n → f i = g i := by
  induction n with
  | zero => simp [alike]
  | succ n ih =>
    simp only [alike, Bool.and_eq_true, ih, beq_iff_eq]
    constructor
    · rintro ⟨h, h0⟩ i hi
      by_cases e : i = n
      · subst e; exact h0
      · exact h i (by omega)
    · intro h
      exact ⟨fun i hi => h i (by omega), h n (by omega)⟩

theorem alike_false {f g : Nat → Int} {n k : Nat} (hk : k < n) (h : f k ≠ g k) : alike f g n = false := by
  cases e : alike f g n with
  | false => rfl
  | true => exact absurd ((alike_iff f g n).1 e k hk) h

set_option maxHeartbeats 400000 in
theorem eqIntS_any (a : Option Addr) (b off n cap : Nat) (f : Nat → Int) (a2 : Option Addr) (b2 off2 n2 cap2 : Nat) (g : Nat → Int) (w : World) (hs : Seg w a b off n f) (hs2 : Seg w a2 b2 off2 n2 g) (hn : n ≤ 1048576) :
    Calls Try.prog 8 #[.slice a n cap, .slice a2 n2 cap2] w fun e w' => e = .returned (.bool (n == n2 && alike f g n)) ∧ ∃ q, w' = w.drewN q := by
  by_cases hne : n = n2
  · subst hne
    go_enter Try.func8, Try.ntmps8
    go_wp2
    go_loopw [5] (fun i wr => ∃ k : Nat, k ≤ n ∧ i = .int .i64 k ∧ (∀ j, j < k → f j = g j) ∧ ∃ q, wr = w.drewN q) (fun i _ => n - (intOf i).toNat)
    case atStart => exact ⟨0, Nat.zero_le _, rfl, fun j hj => absurd hj (Nat.not_lt_zero _), 0, rfl⟩
    case round =>
      obtain ⟨k, hk, rfl, hd, q, rfl⟩ := hrel
      by_cases hlt : k < n
      · obtain rfl := hs.at' (by omega)
        obtain rfl := hs2.at' (by omega)
        have hc := hs.cell k hlt
        have hc2 := hs2.cell k hlt
        have hkn : (k : Int) < (n : Int) := by omega
        by_cases he : f k = g k
        · have hb : (f k != g k) = false := by simp [he]
          go_wp2
          go_quiet (fail)
          go_wp2
          go_roundw
          case rel => exact ⟨k + 1, by omega, by go_num, fun j hj => by
                        by_cases e : j = k
                        · subst e; exact he
                        · exact hd j (by omega), _, rfl⟩
          case measure => simp [intOf]; omega
        · have hb : (f k != g k) = true := by simp [he]
          go_wp2
          go_quiet (fail)
          go_wp2
          go_ret
          exact ⟨ret_bool (by simp [alike_false hlt he]), _, World.drewN_drewN ..⟩
      · obtain rfl : k = n := by omega
        go_wp2
        go_ret
        exact ⟨ret_bool (by simp [(alike_iff f g k).2 hd]), q, rfl⟩
  · have hb : ((n : Int) != (n2 : Int)) = true := by simp; omega
    go_enter Try.func8, Try.ntmps8
    go_wp2
    go_ret
    exact ⟨ret_bool (by simp [hne]), 0, rfl⟩

theorem alike_refl (n : Nat) (f : Nat → Int) : (n == n && alike f f n) = true := by simp [(alike_iff f f n).2 (fun _ _ => rfl)]

end Go.Proofs.Ytjpdllhhganbpaa
