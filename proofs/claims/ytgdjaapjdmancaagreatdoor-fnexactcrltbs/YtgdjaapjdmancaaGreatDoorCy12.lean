/- A row of the call's own that no string shares, made of a string: what an append onto it leaves. Nothing of the program. -/
import Derived.Laws.AppendOwn
import Derived.Laws.CopyRow
import Derived.RowKit
import Derived.Laws.IdiomStrings
namespace Go.Proofs.YtgdjaapjdmancaaGreatDoor

section
set_option linter.unusedVariables false
set_option linter.unusedSimpArgs false

open Go Go.RowKit

/-- A row of one's own, of elements of one cell each; none of its cells is frozen. -/
def ownsX (w : World) (base : Nat) (e : TypeId) (v : Value) (n : Nat) (xs : List Value) : Prop :=
  xs.length = n ∧ ∃ g cap cur fz, v = .slice (some ⟨g, 0, none⟩) n cap ∧ base ≤ g ∧ w.heap[g]? = some (.cells cur e fz) ∧ (fz.2 = 0 ∨ cur.size ≤ fz.1) ∧ n ≤ cap ∧ cap ≤ maxLen ∧ cur.size = cap ∧ cur.toList.take n = xs

theorem ownsX.lt {w : World} {base : Nat} {e : TypeId} {v : Value} {n : Nat} {xs : List Value} (h : ownsX w base e v n xs) : ∀ k, v.ownBlock = some k → base ≤ k ∧ k < w.heap.size := by
  obtain ⟨_, g, cap, cur, fz, rfl, hb, hg, _⟩ := h
  intro k hk
  simp [Value.ownBlock] at hk
  subst hk
  exact ⟨hb, (Array.getElem?_eq_some_iff.1 hg).1⟩

theorem ownsX.keep {w w' : World} {base : Nat} {e : TypeId} {v : Value} {n : Nat} {xs : List Value} (h : ownsX w base e v n xs) (hk : ∀ g, v.ownBlock = some g → w'.heap[g]? = w.heap[g]?) : ownsX w' base e v n xs := by
  obtain ⟨h0, g, cap, cur, fz, rfl, hb, hg, rest⟩ := h
  exact ⟨h0, g, cap, cur, fz, rfl, hb, (hk g rfl).trans hg, rest⟩

theorem ownsX.alloc {w : World} {base : Nat} {e : TypeId} {v : Value} {n : Nat} {xs : List Value} (h : ownsX w base e v n xs) (o : Obj) : ownsX (w.alloc o) base e v n xs :=
  h.keep (fun g hg => heap_alloc_old w o g (h.lt g hg).2)

theorem ownsX.cells {w : World} {base : Nat} {e : TypeId} {v : Value} {n : Nat} {xs : List Value} (h : ownsX w base e v n xs) : ∃ g cap, v = .slice (some ⟨g, 0, none⟩) n cap ∧ base ≤ g ∧ n ≤ cap ∧ cap ≤ maxLen ∧ ∀ j u, xs[j]? = some u → w.cell? ⟨g, j, none⟩ = some u := by
  obtain ⟨_, g, cap, cur, fz, rfl, hb, hg, _, hc, hm, _, ht⟩ := h
  refine ⟨g, cap, rfl, hb, hc, hm, fun j u hu => ?_⟩
  rw [cell_of_row w g j cur e fz hg]
  rw [← ht, List.getElem?_take] at hu
  split at hu
  · simpa using hu
  · cases hu
end

end Go.Proofs.YtgdjaapjdmancaaGreatDoor
