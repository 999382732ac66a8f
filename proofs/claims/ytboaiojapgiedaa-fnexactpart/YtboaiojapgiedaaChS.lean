/- Walks: the model's Children. -/
import Derived.Test.YtboaiojapgiedaaChi
import Derived.Test.YtboaiojapgiedaaNatOk
namespace Go.Proofs.Ytboaiojapgiedaa
set_option linter.unusedVariables false
set_option linter.unusedSimpArgs false
open Go.RowKit

theorem iys_step {L : List Int} {w wr w1 : World} {v v' : Value} {o : Obj} {x : Int} (hO : wr.ownsRow w.heap.size 3 1 v L.length (iys L)) (hE : Ext w wr)
    (hown : w1.ownsRow w.heap.size 3 1 v' (L.length + 1) (iys L ++ [.int .i64 x])) (hg : (wr.alloc o).grownBy w1 v.ownBlock) : w1.ownsRow w.heap.size 3 1 v' (L ++ [x]).length (iys (L ++ [x])) ∧ Ext w w1 := by
  refine ⟨?_, (Below.alloc hE (Below.size hE) o).grown hg (by have := Below.size hE; simp; omega) (fun j hj => (hO.lt j hj).1)⟩
  simpa [iys] using hown

theorem kidsF_first {f : Nat → Int} (hf : ∀ i, -1 ≤ f i) {K s : Nat} (h : 0 ≤ kidsF f (K + 1) s) : ∃ e : Nat, f s = e ∧ 0 ≤ kidsF f K e := by
  rw [kidsF_front _ hf] at h
  by_cases c : 0 ≤ f s
  · obtain ⟨e, he⟩ := nat_of c
    rw [he] at h
    exact ⟨e, he, h⟩
  · have := hf s
    rw [show f s = -1 by omega, kidsF_minus] at h
    omega

theorem kpF_len (f : Nat → Int) : ∀ K s, (kpF f K s).length = K
  | 0, s => rfl
  | K + 1, s => by rw [kpF, List.length_cons, kpF_len f K]

end Go.Proofs.Ytboaiojapgiedaa
