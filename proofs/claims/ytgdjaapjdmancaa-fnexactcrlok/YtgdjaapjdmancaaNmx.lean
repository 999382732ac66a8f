/- Walks: texts as names are compared, NameSame of both. -/
import Derived.Test.YtgdjaapjdmancaaNmw
import Derived.Test.YtgdjaapjdmancaaRowX
import Derived.Test.YtgdjaapjdmancaaStL
import Derived.Lib.SmallJoins
import Derived.Handy
namespace Go.Proofs.Ytgdjaapjdmancaa
set_option linter.unusedVariables false
set_option linter.unusedSimpArgs false
open Go.RowKit

theorem strOfNums_bys {w : World} {B : Nat} {v : Value} {L : List Int} (h : w.ownsRow B 5 1 v L.length (bys L)) : ∃ a g cap, v = .slice a L.length cap ∧ B ≤ g ∧ L.length ≤ cap ∧ cap ≤ 9223372036854775807 ∧ BOwn w a g 0 L.length (fun i => L.getD i 0) ∧ (convert 24 9 (.slice a L.length cap)).run Try.prog w = .ok (.string (strOfNums L)) w := by
  obtain ⟨a, g, cap, rfl, h1, h2, h3, h4⟩ := owns_seg (f := fun i => L.getD i 0) (by rw [← bys_byts]; exact h)
  refine ⟨a, g, cap, rfl, h1, h2, h3, h4, ?_⟩
  rw [conv_seg (cap := cap) h4.toBSeg, nums_list]

theorem rowE {w w' : World} {B e n : Nat} {v : Value} {xs : List Value} (ho : w.ownsRow B e 1 v n xs) (h : Ext w w') : w'.ownsRow B e 1 v n xs := by
  refine ⟨ho.1, ?_⟩
  rcases ho.2 with h0 | ⟨g, cap, cur, rfl, hb, hg, rest⟩
  · exact .inl h0
  · exact .inr ⟨g, cap, cur, rfl, hb, (Below.block h g (Array.getElem?_eq_some_iff.1 hg).1).trans hg, rest⟩

theorem row_slice {w : World} {B e n : Nat} {v : Value} {xs : List Value} (h : w.ownsRow B e 1 v n xs) : ∃ a cap, v = .slice a n cap := by
  rcases h.2 with ⟨rfl, rfl⟩ | ⟨g, cap, cur, rfl, _⟩
  · exact ⟨none, 0, rfl⟩
  · exact ⟨_, cap, rfl⟩


theorem xrow_seg {w : World} {B : Nat} {v : Value} {L : List Int} (h : ownsX w B 5 v L.length (bys L)) : ∃ g cap, v = .slice (some ⟨g, 0, none⟩) L.length cap ∧ B ≤ g ∧ BSeg w (some ⟨g, 0, none⟩) g 0 L.length (fun i => L.getD i 0) ∧ (convert 24 9 (.slice (some ⟨g, 0, none⟩) L.length cap)).run Try.prog w = .ok (.string (strOfNums L)) w := by
  obtain ⟨g, cap, rfl, hb, -, -, hc⟩ := h.cells
  have hs : BSeg w (some ⟨g, 0, none⟩) g 0 L.length (fun i => L.getD i 0) := ⟨fun _ => rfl, fun i hi => by
    rw [Nat.zero_add]
    refine hc i _ ?_
    simp [bys, hi]⟩
  refine ⟨g, cap, rfl, hb, hs, ?_⟩
  rw [conv_seg (cap := cap) hs, nums_list]

theorem xrow_step {L : List Int} {w wr w1 : World} {v v' : Value} {o : Obj} {x : Int} (hO : ownsX wr w.heap.size 5 v L.length (bys L)) (hE : Ext w wr)
    (hown : ownsX w1 w.heap.size 5 v' (L.length + 1) (bys L ++ [.int .u8 x])) (hg : (wr.alloc o).grownBy w1 v.ownBlock) : ownsX w1 w.heap.size 5 v' (L ++ [x]).length (bys (L ++ [x])) ∧ Ext w w1 := by
  refine ⟨?_, (Below.alloc hE (Below.size hE) o).grown hg (by have := Below.size hE; simp; omega) (fun j hj => (hO.lt j hj).1)⟩
  simpa [bys] using hown

/-- A row that is not the one appended to stays. -/
theorem row_apart {w w1 : World} {K : Nat} {v v' : Value} {o ob : Obj} (hn : v.ownBlock ≠ some K) (hK : w.heap[K]? = some ob) (hg : (w.alloc o).grownBy w1 v.ownBlock) (hat : v'.ownBlock = v.ownBlock ∨ v'.ownBlock = some (w.alloc o).heap.size) : w1.heap[K]? = some ob ∧ v'.ownBlock ≠ some K := by
  have hlt : K < w.heap.size := (Array.getElem?_eq_some_iff.1 hK).1
  refine ⟨?_, ?_⟩
  · rw [hg.block K (by simp; omega) (fun e => hn e.symm), ← hK]
    exact Below.heap_alloc _ _ _ hlt
  · rcases hat with h | h
    · rw [h]; exact hn
    · rw [h]; simp; omega

theorem str_cells {w : World} {K cap i : Nat} {s : ByteArray} {x : Nat × Nat} (h : w.heap[K]? = some (.cells (bytesRow s cap) 5 x)) (hi : i < s.size) : w.cell? ⟨K, i, none⟩ = some (.int .u8 (bt s i)) := by
  simp only [World.cell?, h]
  have : (bytesRow s cap)[i]? = some (.int .u8 (bt s i)) := by
    unfold bytesRow
    rw [Array.getElem?_append_left (by simpa using hi)]
    rw [Array.getElem?_map, Array.getElem?_eq_getElem (by simpa using hi)]
    simp only [Option.map_some]
    rw [← bt_get s i hi]
    rfl
  simpa using this

theorem last_of {L : List Int} {m : Nat} (h : L.length = m + 1) : L.getLast? = some (L.getD m 0) := by
  rw [List.getLast?_eq_getElem?, h, Nat.add_sub_cancel, List.getElem?_eq_getElem (by omega)]
  simp [List.getD_eq_getElem?_getD, List.getElem?_eq_getElem (show m < L.length by omega)]

theorem low_byte (s : ByteArray) : ∀ x ∈ nums (lowF s) s.size, 0 ≤ x ∧ x < 256 := by
  intro x hx
  unfold nums at hx
  obtain ⟨i, -, rfl⟩ := List.mem_map.1 hx
  exact lowB_lt _ (bt_lt s i)

/-- Names are the same. -/
def samN (n : Nat) (f g : Nat → ByteArray) : Bool := decide (∀ i, i < n → plainS (f i) = plainS (g i))
def nameB (n m : Nat) (f g : Nat → ByteArray) : Bool := decide (n = m) && samN n f g


theorem samN_no {n k : Nat} {f g : Nat → ByteArray} (hk : k < n) (h : eqS (plainS (f k)) (plainS (g k)) = false) : samN n f g = false := by
  refine decide_eq_false (fun a => ?_)
  rw [a k hk, eqS_refl] at h
  cases h
theorem samN_yes {n : Nat} {f g : Nat → ByteArray} (h : ∀ i, i < n → eqS (plainS (f i)) (plainS (g i)) = true) : samN n f g = true := decide_eq_true (fun i hi => (eqS_iff _ _).1 (h i hi))

end Go.Proofs.Ytgdjaapjdmancaa
