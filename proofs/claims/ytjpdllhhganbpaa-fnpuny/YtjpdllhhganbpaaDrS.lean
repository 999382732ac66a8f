/- Walks of the model's draws of strings: l1Pick, l8DrawHost, l8DrawAny, DrawHostMatch, DrawUnder (written by mkdrs.py). -/
import Derived.Test.YtjpdllhhganbpaaHos
import Derived.Test.YtjpdllhhganbpaaDrawN
import Derived.Test.YtjpdllhhganbpaaGb
namespace Go.Proofs.Ytjpdllhhganbpaa
set_option linter.unusedVariables false
set_option linter.unusedSimpArgs false
open Go.RowKit

theorem row_strs (w : World) (L : List ByteArray) : ∀ i, i < L.length → (w.alloc (.cells (L.map Value.string).toArray 9)).cell? ⟨w.heap.size, i, none⟩ = some (.string (nth L i)) := by
  intro i hi
  have hb : (w.alloc (.cells (L.map Value.string).toArray 9)).heap[w.heap.size]? = some (.cells (L.map Value.string).toArray 9) := heap_alloc_new w _
  simp only [World.cell?, hb]
  simp [nth, hi]

theorem nth_small (L : List ByteArray) (m : Nat) (h : ∀ x ∈ L, x.size ≤ m) : ∀ i, (nth L i).size ≤ m := by
  intro i
  unfold nth
  rw [List.getD_eq_getElem?_getD]
  by_cases hi : i < L.length
  · rw [List.getElem?_eq_getElem hi]; exact h _ (List.getElem_mem hi)
  · rw [List.getElem?_eq_none (by omega)]; exact Nat.zero_le _

/-- One of the texts is drawn. -/
def GivesPk (w : World) (C : Nat) (a : Option Addr) (n cap m : Nat) (g : Nat → ByteArray) (e : Ending) (w' : World) : Prop :=
  ∃ j, j < m ∧ e = .returned (.string (g j)) ∧ Cur w' C a n cap ∧ Touch C w w'

set_option maxHeartbeats 800000 in
theorem l1Pick_any (C : Nat) (a : Option Addr) (b off n cap : Nat) (f : Nat → Int) (b2 m cap2 : Nat) (g : Nat → ByteArray) (w : World) (hC : Cur w C a n cap) (hK : Code w C a b off n f) (hn : n ≤ 1048576) (hs : ∀ i, i < m → w.cell? ⟨b2, i, none⟩ = some (.string (g i))) (hm : 0 < m) (hm1 : m ≤ 100) (hne : b2 ≠ C) :
    Calls Try.prog 38 #[.pointer (some ⟨C, 0, none⟩), .slice (some ⟨b2, 0, none⟩) m cap2] w fun e w' => GivesPk w C a n cap m g e w' := by
  go_enter Try.func38, Try.ntmps38
  go_wp2_with fail
  refine (l1Below_any C a b off n cap f (m : Int) _ hC hK hn (by omega) (by omega)).mono ?_
  rintro e w1 ⟨x, rfl, x0, x1, hC1, T1⟩
  obtain ⟨i, rfl⟩ := Int.eq_ofNat_of_zero_le x0
  have hc := (World.cell?_of_block (a := ⟨b2, i, none⟩) (T1.grown.block b2 (World.block_lt_of_cell? _ _ (hs 0 hm)) (by simp; exact hne))).trans (hs i (by omega))
  have him : (i : Int) < (m : Int) := by omega
  clear hs hK
  go_wp2
  go_ret
  exact ⟨i, by omega, rfl, hC1, T1⟩

/-- A text is drawn. -/
def GivesT (w : World) (C : Nat) (a : Option Addr) (n cap lim : Nat) (e : Ending) (w' : World) : Prop :=
  ∃ x : ByteArray, e = .returned (.string x) ∧ x.size ≤ lim ∧ Cur w' C a n cap ∧ w.grownBy w' (some C)

/-- Two texts are drawn. -/
def GivesTT (w : World) (e : Ending) (w' : World) : Prop :=
  ∃ x y : ByteArray, e = .returned (.tuple #[.string x, .string y]) ∧ x.size ≤ 1000 ∧ y.size ≤ 1000 ∧ Ext w w'

end Go.Proofs.Ytjpdllhhganbpaa
