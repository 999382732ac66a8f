/- Walks of the law's own helpers over slices of bytes: toByteS makes a copy in new memory; eqByteS tells whether two slices read alike. -/
import Derived.Test.YtgdjaapjdmancaaLists
import Derived.Test.YtgdjaapjdmancaaBBase
namespace Go.Proofs.Ytgdjaapjdmancaa
set_option linter.unusedVariables false
open Go.RowKit

theorem Try.info5 : (Try.prog.info? 5).map (fun i => (i.zero, i.size, i.bytes)) = some (some (.int .u8 0), 1, 1) := by kernel_rfl

/-- What toByteS has done behind k rounds: a new row, its first k places filled. -/
structure BCopying (w wr : World) (n k : Nat) (f : Nat → Int) : Prop where
  below : Below w.heap.size w wr
  size : wr.heap.size = w.heap.size + 1
  row : wr.rowIs w.heap.size 5 n (fun j => .int .u8 (if j < k then f j else 0))

theorem bcopying_start (w : World) (n : Nat) (f : Nat → Int) : BCopying w (w.alloc (.cells (madeCells #[.int .u8 0] n) 5)) n 0 f :=
  ⟨(Below.refl _ _).alloc (Nat.le_refl _) _, by simp, (World.rowIs_made w _ n 5).congr (fun j _ => by simp)⟩

theorem bcopying_step {w wr : World} {n k : Nat} {f : Nat → Int} (h : BCopying w wr n k f) : BCopying w (wr.setCell ⟨w.heap.size, k, none⟩ (.int .u8 (f k))) n (k + 1) f := by
  refine ⟨h.below.setCell (Nat.le_refl _) _, by simp [World.setCell, h.size], (h.row.set k _).congr (fun j _ => ?_)⟩
  by_cases e : j = k
  · subst e; simp
  · rw [if_neg e]
    by_cases hlt : j < k
    · rw [if_pos hlt, if_pos (by omega)]
    · rw [if_neg hlt, if_neg (by omega)]

theorem bcopying_step' {w wr : World} {n k : Nat} {f : Nat → Int} {v : Int} (h : BCopying w wr n k f) (hv : v = f k) : BCopying w (wr.setCell ⟨w.heap.size, k, none⟩ (.int .u8 v)) n (k + 1) f := by
  rw [hv]; exact bcopying_step h

set_option maxHeartbeats 400000 in
theorem toByteS_any (a : Option Addr) (b off n cap : Nat) (f : Nat → Int) (w : World) (hs : BSeg w a b off n f) (hn : n ≤ 1048576) :
    Calls Try.prog 17 #[.slice a n cap] w fun e w' => e = .returned (.slice (some ⟨w.heap.size, 0, none⟩) n n) ∧ w'.heap.size = w.heap.size + 1 ∧ w'.rowIs w.heap.size 5 n (fun j => .int .u8 (f j)) ∧ Below w.heap.size w w' := by
  have hmk := run_make_row' (P := Try.prog) 24 5 (.int .u8 0) 1 Try.underlying24 Try.info5 rfl .i64 .i64 n (by omega) (by omega)
  go_enter Try.func17, Try.ntmps17
  go_wp2
  clear hmk
  go_loopw [4] (fun i wr => ∃ k : Nat, k ≤ n ∧ i = .int .i64 k ∧ BCopying w wr n k f) (fun i _ => n - (intOf i).toNat)
  case atStart => exact ⟨0, Nat.zero_le _, rfl, bcopying_start w n f⟩
  case round =>
    obtain ⟨k, hk, rfl, hI⟩ := hrel
    by_cases hlt : k < n
    · obtain rfl := hs.at' (by omega)
      have hc : wr.cell? ⟨b, off + k, none⟩ = some (.int .u8 (f k)) := (hI.below.cell (p := ⟨b, off + k, none⟩) (hs.lt (by omega))).trans (hs.cell k hlt)
      have hd : wr.cell? ⟨w.heap.size, k, none⟩ = some (.int .u8 0) := by simpa using hI.row.cell hlt
      have hf : wr.frozen? ⟨w.heap.size, k, none⟩ = false := hI.row.frozen k
      have hkn : (k : Int) < (n : Int) := by omega
      go_wp2
      go_roundw
      case rel => exact ⟨k + 1, by omega, by go_num, bcopying_step hI⟩
      case measure => simp [intOf]; omega
    · obtain rfl : k = n := by omega
      go_wp2
      go_ret
      exact ⟨rfl, hI.size, hI.row.congr (fun j hj => by rw [if_pos hj]), hI.below⟩

set_option maxHeartbeats 400000 in
theorem eqByteS_any (a : Option Addr) (b off n cap : Nat) (f : Nat → Int) (a2 : Option Addr) (b2 off2 n2 cap2 : Nat) (g : Nat → Int) (w : World) (hs : BSeg w a b off n f) (hs2 : BSeg w a2 b2 off2 n2 g) (hn : n ≤ 1048576) :
    Calls Try.prog 26 #[.slice a n cap, .slice a2 n2 cap2] w fun e w' => e = .returned (.bool (n == n2 && alike f g n)) ∧ ∃ q, w' = w.drewN q := by
  by_cases hne : n = n2
  · subst hne
    go_enter Try.func26, Try.ntmps26
    go_wp2
    go_loopw [5] (fun i wr => ∃ k : Nat, k ≤ n ∧ i = .int .i64 k ∧ (∀ j, j < k → f j = g j) ∧ ∃ q, wr = w.drewN q) (fun i _ => n - (intOf i).toNat)
    case atStart => exact ⟨0, Nat.zero_le _, rfl, fun j hj => absurd hj (Nat.not_lt_zero _), 0, rfl⟩
    case round =>
      obtain ⟨k, hk, rfl, hd, q, rfl⟩ := hrel
      by_cases hlt : k < n
      · obtain rfl := hs.at' (by omega)
        obtain rfl := hs2.at' (by omega)
        have hc := hs.cell k hlt
        have hc2 := hs2.cell k hlt
        have hkn : (k : Int) < (n : Int) := by omega
        by_cases he : f k = g k
        · have hb : (f k != g k) = false := by simp [he]
          go_wp2
          go_quiet (fail)
          go_wp2
          go_roundw
          case rel => exact ⟨k + 1, by omega, by go_num, fun j hj => by
                        by_cases e : j = k
                        · subst e; exact he
                        · exact hd j (by omega), _, rfl⟩
          case measure => simp [intOf]; omega
        · have hb : (f k != g k) = true := by simp [he]
          go_wp2
          go_quiet (fail)
          go_wp2
          go_ret
          exact ⟨ret_bool (by simp [alike_false hlt he]), _, World.drewN_drewN ..⟩
      · obtain rfl : k = n := by omega
        go_wp2
        go_ret
        exact ⟨ret_bool (by simp [(alike_iff f g k).2 hd]), q, rfl⟩
  · have hb : ((n : Int) != (n2 : Int)) = true := by simp; omega
    go_enter Try.func26, Try.ntmps26
    go_wp2
    go_ret
    exact ⟨ret_bool (by simp [hne]), 0, rfl⟩

end Go.Proofs.Ytgdjaapjdmancaa
