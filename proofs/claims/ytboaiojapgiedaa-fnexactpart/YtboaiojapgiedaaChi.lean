/- Walks: hasItem, Children of both. -/
import Derived.Test.YtboaiojapgiedaaBlwO
import Derived.Test.YtboaiojapgiedaaTrW
import Derived.Test.YtboaiojapgiedaaTrT
import Derived.Test.YtboaiojapgiedaaTrK
namespace Go.Proofs.Ytboaiojapgiedaa
set_option linter.unusedVariables false
set_option linter.unusedSimpArgs false
open Go.RowKit Go.Shelf
attribute [local go_sem] Oper.semAt_some

/-- A tree has an item there. -/
def hasB (x : Nat → It) (n : Nat) (z : Int) : Bool := treeV x n && (decide (0 ≤ z) && decide (z < n))

set_option maxHeartbeats 800000 in
theorem hasItem_any (a : Option Addr) (b off n cap : Nat) (x : Nat → It) (z : Int) (w : World) (hs : ISeg w a b off n x) (hn : n ≤ 1048576) (hk : ∀ i, i < n → (x i).kid ≤ 9223372036854775807) :
    Calls Try.prog 29 #[.slice a n cap, .int .i64 z] w fun e w' => e = .returned (.bool (hasB x n z)) ∧ Ext w w' := by
  have HT := hide (implTree_any a b off n cap x w hs hn hk)
  have HV : Hid (hasB x n z = (treeV x n && (decide (0 ≤ z) && decide (z < n)))) := rfl
  generalize hasB x n z = R at *
  generalize treeV x n = T at *
  cases T
  · go_enter Try.func29, Try.ntmps29
    go_wp2_with (go_at_call 60; refine HT.out.mono ?_; rintro e w1 ⟨rfl, hE⟩; have HE := hide hE; clear hE)
    go_ret
    exact ⟨ret_bool (by rw [HV.out]; rfl), HE.out⟩
  · by_cases z0 : 0 ≤ z
    · by_cases z1 : z < n
      · go_enter Try.func29, Try.ntmps29
        go_wp2_with (go_at_call 60; refine HT.out.mono ?_; rintro e w1 ⟨rfl, hE⟩; have HE := hide hE; clear hE)
        go_ret
        exact ⟨ret_bool (by rw [HV.out]; simp [z0, z1]), HE.out⟩
      · go_enter Try.func29, Try.ntmps29
        go_wp2_with (go_at_call 60; refine HT.out.mono ?_; rintro e w1 ⟨rfl, hE⟩; have HE := hide hE; clear hE)
        go_ret
        exact ⟨ret_bool (by rw [HV.out]; simp [z0, z1]), HE.out⟩
    · go_enter Try.func29, Try.ntmps29
      go_wp2_with (go_at_call 60; refine HT.out.mono ?_; rintro e w1 ⟨rfl, hE⟩; have HE := hide hE; clear hE)
      go_ret
      exact ⟨ret_bool (by rw [HV.out]; simp; omega), HE.out⟩

theorem tree_good {x : Nat → It} {n : Nat} (h : treeV x n = true) : 1 ≤ n ∧ n ≤ 300 ∧ ∀ i, i < n → itGood (x i) := by
  unfold treeV at h
  rw [decide_eq_true_eq] at h
  exact ⟨h.1, h.2.1, h.2.2.1⟩

/-- The item there is one that is made of others. -/
def mdB (x : Nat → It) (n : Nat) (z : Int) : Bool := hasB x n z && decide ((x z.toNat).tag / 32 % 2 = 1)
/-- Its children. -/
def mdL (x : Nat → It) (n : Nat) (z : Int) : List Int := if mdB x n z then (kpF (endF (fun j => (x j).kid) n 13) (x z.toNat).kid.toNat (z.toNat + 1)).map Int.ofNat else []

/-- A new list of numbers, and ok. -/
def GivesC (w : World) (L : List Int) (ok : Bool) (e : Ending) (w' : World) : Prop := ∃ v, e = .returned (.tuple #[v, .bool ok]) ∧ w'.ownsRow w.heap.size 3 1 v L.length (iys L) ∧ Ext w w'

/-- What Children's own memory holds between two rounds. -/
structure ChI (w w1 : World) (X O : Nat → Prop) (L : List Int) (W : World) : Prop where
  it : ∃ v, W.cell? ⟨w1.heap.size + 1, 0, none⟩ = some v ∧ W.ownsRow w1.heap.size 3 1 v L.length (iys L) ∧ (∀ g, v.ownBlock = some g → ¬ O g ∧ ¬ X g ∧ g ≠ w1.heap.size + 1)
  fz : W.frozen? ⟨w1.heap.size + 1, 0, none⟩ = false
  ours : ∀ k, O k → w1.heap.size + 4 ≤ k
  big : w1.heap.size + 4 ≤ W.heap.size
  ext : Ext w W

theorem ChI.ab {w w1 : World} (hw : w.heap.size ≤ w1.heap.size) (X : Nat → Prop) (L : List Int) : AbO (fun O W => ChI w w1 X O L W) := by
  rintro O O' A C ⟨⟨v, h1, h2, h3⟩, h4, h5, h6, h7⟩ hs
  have hb : C.heap[w1.heap.size + 1]? = A.heap[w1.heap.size + 1]? := hs.same _ (by omega) (fun h => by have := h5 _ h; omega)
  refine ⟨⟨v, ?_, ?_, fun g hg => ⟨fun h => ?_, (h3 g hg).2⟩⟩, ?_, fun k hk => ?_, Nat.le_trans h6 hs.size, ⟨hs.os.trans h7.os, hs.tape.trans h7.tape, hs.output.trans h7.output, Nat.le_trans h7.size hs.size, fun k hk => (hs.same k (by omega) (fun h => by have := h5 _ h; omega)).trans (h7.block k hk)⟩⟩
  · rw [World.cell?_of_block (a := ⟨w1.heap.size + 1, 0, none⟩) hb]; exact h1
  · refine ⟨h2.1, ?_⟩
    rcases h2.2 with h0 | ⟨g, cap, cur, rfl, hbg, hg, rest⟩
    · exact .inl h0
    · exact .inr ⟨g, cap, cur, rfl, hbg, (hs.same g (Array.getElem?_eq_some_iff.1 hg).1 (h3 g rfl).1).trans hg, rest⟩
  · rcases (hs.own g).1 h with h | h
    · exact (h3 g hg).1 h
    · have := owns_blk h2 hg; omega
  · rw [World.frozen?_of_block (a := ⟨w1.heap.size + 1, 0, none⟩) hb]; exact h4
  · rcases (hs.own k).1 hk with h | h
    · exact h5 k h
    · omega

theorem owns_keep' {w w' : World} {B n : Nat} {v : Value} {xs : List Value} (ho : w.ownsRow B 3 1 v n xs) (h : Ext w w') : w'.ownsRow B 3 1 v n xs := by
  refine ⟨ho.1, ?_⟩
  rcases ho.2 with h0 | ⟨g, cap, cur, rfl, hb, hg, rest⟩
  · exact .inl h0
  · exact .inr ⟨g, cap, cur, rfl, hb, (Below.block h g (Array.getElem?_eq_some_iff.1 hg).1).trans hg, rest⟩
theorem owns_base {w : World} {B B' n : Nat} {v : Value} {xs : List Value} (ho : w.ownsRow B 3 1 v n xs) (h : B' ≤ B) : w.ownsRow B' 3 1 v n xs := by
  refine ⟨ho.1, ?_⟩
  rcases ho.2 with h0 | ⟨g, cap, cur, rfl, hb, rest⟩
  · exact .inl h0
  · exact .inr ⟨g, cap, cur, rfl, Nat.le_trans h hb, rest⟩

end Go.Proofs.Ytboaiojapgiedaa
