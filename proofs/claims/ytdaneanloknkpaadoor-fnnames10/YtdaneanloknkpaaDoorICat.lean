/- Walks: lists of ints put behind each other. Made out of BCat. -/
import Derived.Test.YtdaneanloknkpaaDoorBCat
import Derived.Test.YtdaneanloknkpaaDoorLists
namespace Go.Proofs.YtdaneanloknkpaaDoor
set_option linter.unusedVariables false
set_option linter.unusedSimpArgs false
open Go.RowKit

theorem intz_one (f : Nat → Int) (n : Nat) : ∀ u ∈ ints f n, u.oneCell' = true := by
  intro u hu
  obtain ⟨i, -, rfl⟩ := List.mem_map.1 hu
  rfl

theorem intz_congr {f g : Nat → Int} {n : Nat} (h : ∀ i, i < n → f i = g i) : ints f n = ints g n := by
  unfold ints
  refine List.map_congr_left (fun i hi => ?_)
  rw [h i (List.mem_range.1 hi)]

theorem intz_append (f : Nat → Int) (n : Nat) (g : Nat → Int) (m : Nat) : ints f n ++ ints g m = ints (catF f n g) (n + m) := by
  induction m with
  | zero => rw [Nat.add_zero, show ints g 0 = [] from rfl, List.append_nil]; exact intz_congr (fun i hi => by rw [catF, if_pos hi])
  | succ m ih =>
    rw [ints_succ, ← List.append_assoc, ih, ← Nat.add_assoc, ints_succ]
    congr 3
    rw [catF, if_neg (by omega)]
    congr 1
    omega

/-- A new list of n ints, with what lies behind it the call's own. -/
def GivesRI (w : World) (n : Nat) (f : Nat → Int) (e : Ending) (w' : World) : Prop :=
  ∃ v, e = .returned v ∧ w'.ownsRow w.heap.size 3 1 v n (ints f n) ∧ Ext w w'

theorem iowns_congr {w : World} {base : Nat} {v : Value} {n : Nat} {f g : Nat → Int} (h : w.ownsRow base 3 1 v n (ints f n)) (e : ∀ i, i < n → f i = g i) : w.ownsRow base 3 1 v n (ints g n) := by
  rwa [intz_congr e] at h

theorem iowns_mono {w : World} {b b' : Nat} {v : Value} {n : Nat} {xs : List Value} (h : w.ownsRow b 3 1 v n xs) (hb : b' ≤ b) : w.ownsRow b' 3 1 v n xs := by
  refine ⟨h.1, ?_⟩
  rcases h.2 with h | ⟨g, cap, cur, hv, hg, hr⟩
  · exact .inl h
  · exact .inr ⟨g, cap, cur, hv, Nat.le_trans hb hg, hr⟩

theorem iowns_ext' {w w' : World} {b : Nat} {v : Value} {n : Nat} {xs : List Value} (h : w.ownsRow b 3 1 v n xs) (he : Ext w w') : w'.ownsRow b 3 1 v n xs := by
  refine ⟨h.1, ?_⟩
  rcases h.2 with h | ⟨g, cap, cur, hv, hg, hr, hr'⟩
  · exact .inl h
  · refine .inr ⟨g, cap, cur, hv, hg, ?_, hr'⟩
    have hlt : g < w.heap.size := by
      have := (Array.getElem?_eq_some_iff.1 hr).1
      exact this
    rw [Below.block he g hlt]; exact hr

/-- Its value is a slice, read as the ints. -/
theorem iowns_seg {w : World} {base : Nat} {v : Value} {n : Nat} {f : Nat → Int} (h : w.ownsRow base 3 1 v n (ints f n)) : ∃ a g cap, v = .slice a n cap ∧ base ≤ g ∧ n ≤ cap ∧ cap ≤ 9223372036854775807 ∧ Own w a g 0 n f := by
  have h' := h
  rcases h.2 with ⟨rfl, rfl⟩ | ⟨g, cap, cur, rfl, hg, hb, hn, hm, hs, ht⟩
  · exact ⟨none, base, 0, rfl, Nat.le_refl _, Nat.le_refl _, by omega, Own.nil _ _ _ _ _⟩
  · obtain ⟨a, g', cap', hv', hg', hO⟩ := own_of_owns h'
    simp only [Value.slice.injEq] at hv'
    obtain ⟨rfl, -, rfl⟩ := hv'
    refine ⟨_, g', cap, rfl, hg', hn, by unfold maxLen at hm; omega, hO⟩

end Go.Proofs.YtdaneanloknkpaaDoor
