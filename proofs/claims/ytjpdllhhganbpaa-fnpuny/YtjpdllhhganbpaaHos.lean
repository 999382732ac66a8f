/- Walks: parts of a text, labels, HostOk of both. -/
import Derived.Test.YtjpdllhhganbpaaStr
import Derived.Test.YtjpdllhhganbpaaNatOk
namespace Go.Proofs.Ytjpdllhhganbpaa
set_option linter.unusedVariables false
set_option linter.unusedSimpArgs false
open Go.RowKit

/-- The parts of s between bytes m, from place k on, the part under way beginning at fr. -/
def partsFrom (s : ByteArray) (m : Nat) : Nat → Nat → Nat → List ByteArray
  | 0, k, fr => [s.extract fr s.size]
  | n + 1, k, fr => if bt s k = m then s.extract fr k :: partsFrom s m n (k + 1) (k + 1) else partsFrom s m n (k + 1) fr
def parts (s : ByteArray) (m : Nat) : List ByteArray := partsFrom s m s.size 0 0

theorem partsFrom_ne (s : ByteArray) (m : Nat) : ∀ n k fr, 1 ≤ (partsFrom s m n k fr).length
  | 0, k, fr => by simp [partsFrom]
  | n + 1, k, fr => by
    unfold partsFrom
    split
    · simp
    · exact partsFrom_ne s m n _ _
theorem parts_ne (s : ByteArray) (m : Nat) : 1 ≤ (parts s m).length := partsFrom_ne s m _ _ _
theorem partsFrom_le (s : ByteArray) (m : Nat) : ∀ n k fr, (partsFrom s m n k fr).length ≤ n + 1
  | 0, k, fr => by simp [partsFrom]
  | n + 1, k, fr => by
    unfold partsFrom
    split
    · have := partsFrom_le s m n (k + 1) (k + 1); simp; omega
    · have := partsFrom_le s m n (k + 1) fr; omega
theorem parts_le (s : ByteArray) (m : Nat) : (parts s m).length ≤ s.size + 1 := partsFrom_le s m _ _ _

theorem partsFrom_skip (s : ByteArray) (m : Nat) (fr : Nat) : ∀ q n k, (∀ j, k ≤ j → j < k + q → bt s j ≠ m) → partsFrom s m (n + q) k fr = partsFrom s m n (k + q) fr
  | 0, n, k, _ => rfl
  | q + 1, n, k, h => by
    rw [← Nat.add_assoc, partsFrom, if_neg (h k (Nat.le_refl _) (by omega)), partsFrom_skip s m fr q n (k + 1) (fun j h1 h2 => h j (by omega) (by omega))]
    congr 1
    omega

/-- The list's i-th text. -/
def nth (L : List ByteArray) (i : Nat) : ByteArray := L.getD i ⟨#[]⟩
def strs (L : List ByteArray) : List Value := L.map .string

theorem strs_one (s : ByteArray) : ∀ u ∈ [Value.string s], u.oneCell' = true := by
  intro u hu
  simp at hu
  subst hu
  rfl

/-- A new list of strings, not empty. -/
def GivesL (w : World) (L : List ByteArray) (e : Ending) (w' : World) : Prop :=
  ∃ g cap, e = .returned (.slice (some ⟨g, 0, none⟩) L.length cap) ∧ (∀ i, i < L.length → w'.cell? ⟨g, i, none⟩ = some (.string (nth L i))) ∧ Ext w w'

theorem owns_strs {w : World} {B : Nat} {v : Value} {L : List ByteArray} (h : w.ownsRow B 9 1 v L.length (strs L)) (hL : 1 ≤ L.length) :
    ∃ g cap, v = .slice (some ⟨g, 0, none⟩) L.length cap ∧ ∀ i, i < L.length → w.cell? ⟨g, i, none⟩ = some (.string (nth L i)) := by
  rcases h.2 with ⟨rfl, h0⟩ | ⟨g, cap, cur, rfl, hg, hb, hn, hm, hs, ht⟩
  · omega
  · refine ⟨g, cap, rfl, fun i hi => ?_⟩
    have hx : (cur.toList.take (L.length * 1))[i]? = some (.string (nth L i)) := by rw [ht]; simp [strs, nth, hi]
    rw [List.getElem?_take] at hx
    simp only [Nat.mul_one, hi, if_true] at hx
    simp [World.cell?, hb]
    simpa using hx

theorem strs_step {acc : List ByteArray} {w wr w1 : World} {v v' : Value} {o : Obj} {x : ByteArray} (hO : wr.ownsRow w.heap.size 9 1 v acc.length (strs acc)) (hE : Ext w wr)
    (hown : w1.ownsRow w.heap.size 9 1 v' (acc.length + 1) (strs acc ++ [.string x])) (hg : (wr.alloc o).grownBy w1 v.ownBlock) : w1.ownsRow w.heap.size 9 1 v' (acc ++ [x]).length (strs (acc ++ [x])) ∧ Ext w w1 := by
  refine ⟨?_, (Below.alloc hE (Below.size hE) o).grown hg (by have := Below.size hE; simp; omega) (fun j hj => (hO.lt j hj).1)⟩
  simpa [strs] using hown

end Go.Proofs.Ytjpdllhhganbpaa
