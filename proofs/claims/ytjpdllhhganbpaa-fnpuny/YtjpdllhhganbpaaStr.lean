/- Plain notions for walks over strings: the byte at a place, what a round of a range over a string comes to, lists of strings of the call's own. -/
import Derived.Test.YtjpdllhhganbpaaEqB
import Derived.Test.YtjpdllhhganbpaaBCat
import Derived.Lib.OthersKept
import Derived.Laws.DeepStrings4
import Derived.Laws.IdiomStrings
import Derived.Maps.AppendAt
namespace Go.Proofs.Ytjpdllhhganbpaa
set_option linter.unusedVariables false
set_option linter.unusedSimpArgs false
open Go.RowKit

/-- The byte at a place. -/
def bt (s : ByteArray) (i : Nat) : Nat := (s.get! i).toNat

theorem bt_lt (s : ByteArray) (i : Nat) : bt s i < 256 := UInt8.toNat_lt _

theorem bt_get (s : ByteArray) (i : Nat) (h : i < s.size) : (s[i]'h).toNat = bt s i := by
  unfold bt
  rw [← get_at s i h]
  rfl

/-- What a round of a range over s at place p comes to: the rune r, q bytes wide. -/
structure Rn (s : ByteArray) (p r q : Nat) : Prop where
  dec : Utf8.decode s p = (r, q)
  le : r ≤ 2147483647
  pos : 1 ≤ q
  fits : p + q ≤ s.size
  low : r < 128 → q = 1 ∧ r = bt s p
  high : 128 ≤ r → ∀ j, p ≤ j → j < p + q → 128 ≤ bt s j

theorem cont_high {x : Nat} (h : (x / 64 == 2) = true) : 128 ≤ x := by
  simp at h
  omega

theorem decode_skip (s : ByteArray) (p : Nat) (h : p < s.size) (ha : 128 ≤ bt s p) : p + (Utf8.decode s p).2 ≤ s.size ∧ ∀ j, p ≤ j → j < p + (Utf8.decode s p).2 → 128 ≤ bt s j := by
  have one : p + 1 ≤ s.size ∧ ∀ j, p ≤ j → j < p + 1 → 128 ≤ bt s j := ⟨h, fun j h1 h2 => by
    obtain rfl : j = p := by omega
    exact ha⟩
  have step : ∀ k, (p + k ≤ s.size ∧ ∀ j, p ≤ j → j < p + k → 128 ≤ bt s j) → (decide (p + k < s.size) && (s.get! (p + k)).toNat / 64 == 2) = true → (p + (k + 1) ≤ s.size ∧ ∀ j, p ≤ j → j < p + (k + 1) → 128 ≤ bt s j) := by
    intro k hk hc
    rw [Bool.and_eq_true, decide_eq_true_eq] at hc
    refine ⟨by omega, fun j h1 h2 => ?_⟩
    by_cases e : j = p + k
    · subst e; exact cont_high hc.2
    · exact hk.2 j h1 (by omega)
  have hn : ¬ (s.get! (p + 0)).toNat < 128 := by
    have : bt s p = (s.get! (p + 0)).toNat := rfl
    omega
  simp only [Utf8.decode, hn, if_false]
  split
  · rename_i h1
    simp only [Bool.and_eq_true] at h1
    split
    · exact step 1 one (by simpa using h1.2)
    · exact one
  · split
    · rename_i h1
      simp only [Bool.and_eq_true] at h1
      split
      · exact step 2 (step 1 one (by simpa using h1.1.2)) (by simpa using h1.2)
      · exact one
    · split
      · rename_i h1
        simp only [Bool.and_eq_true] at h1
        split
        · exact step 3 (step 2 (step 1 one (by simpa using h1.1.1.2)) (by simpa using h1.1.2)) (by simpa using h1.2)
        · exact one
      · exact one

theorem rn_at (s : ByteArray) (p : Nat) (h : p < s.size) : ∃ r q, Rn s p r q := by
  by_cases ha : bt s p < 128
  · refine ⟨bt s p, 1, ?_, by omega, Nat.le_refl _, h, fun _ => ⟨rfl, rfl⟩, fun h => by omega⟩
    rw [decode_ascii s p h (by rw [bt_get]; exact ha), bt_get]
  · obtain ⟨h1, h2⟩ := decode_skip s p h (by omega)
    obtain ⟨h3, h4⟩ := decode_high s p h (by rw [bt_get]; omega)
    have h5 := decode_le s p
    exact ⟨(Utf8.decode s p).1, (Utf8.decode s p).2, rfl, h5, h4, h1, fun h => absurd h3 (Nat.not_le_of_lt h), fun _ => h2⟩

theorem Rn.next {P : Program} {s : ByteArray} {p r q : Nat} (h : Rn s p r q) {w : World} {k : Nat} (hk : w.heap[k]? = some (.stringIter s p)) (hp : p < s.size) (ty : TypeId) :
    (Instr.next (.pointer (some ⟨k, 0, none⟩)) true ty).run P w = .ok (.tuple #[.bool true, .int .i64 (p : Int), .int .i32 (r : Int)]) (w.iterAt k s (p + q)) := by
  rw [Lib.run_next_any_at w k s p ty hk hp, h.dec]

/-- A world in which an iterator at block k, of the call's own, stands at place p. -/
structure Itr (w wr : World) (k : Nat) (s : ByteArray) (p : Nat) : Prop where
  blk : wr.heap[k]? = some (.stringIter s p)
  ge : w.heap.size ≤ k
  ext : Ext w wr

theorem Itr.start {w w1 : World} (h : Ext w w1) (s : ByteArray) : Itr w (w1.iter s 0) w1.heap.size s 0 :=
  ⟨World.iter_heap w1 s 0, Below.size h, Ext.trans h (Ext.alloc _ _)⟩

theorem Itr.step {w wr : World} {k : Nat} {s : ByteArray} {p : Nat} (h : Itr w wr k s p) (p' : Nat) : Itr w (wr.iterAt k s p') k s p' :=
  ⟨Lib.iterAt_heap wr k s p p' h.blk, h.ge, Lib.below_iterAt h.ext h.ge s p'⟩

theorem Itr.pos {w wr : World} {k : Nat} {s : ByteArray} {p : Nat} (h : Itr w wr k s p) : wr.iterPos k = p := iterPos_of h.blk

theorem own_iterAt {w : World} {B e size n : Nat} {v : Value} {xs : List Value} {k : Nat} {s : ByteArray} {pos : Nat} (h : w.ownsRow B e size v n xs) (hk : w.heap[k]? = some (.stringIter s pos)) (pos' : Nat) : (w.iterAt k s pos').ownsRow B e size v n xs := by
  refine ⟨h.1, ?_⟩
  rcases h.2 with h0 | ⟨g, cap, cur, hv, hb, hg, rest⟩
  · exact .inl h0
  · refine .inr ⟨g, cap, cur, hv, hb, ?_, rest⟩
    rw [Lib.iterAt_other _ _ _ _ _ (fun e => by subst e; rw [hk] at hg; cases hg)]
    exact hg

/-- What an append to a row of one's own leaves of an iterator. -/
theorem Itr.grown {w wr w1 : World} {k : Nat} {s : ByteArray} {p : Nat} (h : Itr w wr k s p) {B e size n : Nat} {v : Value} {xs : List Value} (ho : wr.ownsRow B e size v n xs) (hB : w.heap.size ≤ B) {o : Obj} (hg : (wr.alloc o).grownBy w1 v.ownBlock) : Itr w w1 k s p := by
  have hlt : k < wr.heap.size := (Array.getElem?_eq_some_iff.1 h.blk).1
  refine ⟨?_, h.ge, ?_⟩
  · rw [hg.block k (by simp; omega) ?_]
    · show (wr.heap.push o)[k]? = _
      rw [Array.getElem?_push_lt hlt, ← h.blk, Array.getElem?_eq_getElem hlt]
    · rcases ho.2 with ⟨rfl, _⟩ | ⟨g, cap, cur, rfl, hb, hg', rest⟩
      · simp [Value.ownBlock]
      · intro e
        simp only [Value.ownBlock, Option.some.injEq] at e
        subst e
        rw [h.blk] at hg'
        cases hg'
  · exact (Below.alloc h.ext (Below.size h.ext) o).grown hg (by have := Below.size h.ext; simp; omega) (fun j hj => by have := (ho.lt j hj).1; omega)

/-- Two strings are one. -/
def eqS (a b : ByteArray) : Bool := a.toList == b.toList
theorem eqS_iff (a b : ByteArray) : eqS a b = true ↔ a = b := by
  unfold eqS
  rw [beq_iff_eq, ByteArray.toList_eq, ByteArray.toList_eq]
  exact ⟨fun h => ByteArray.ext (Array.ext' h), fun h => by rw [h]⟩
theorem eqS_refl (a : ByteArray) : eqS a a = true := (eqS_iff a a).2 rfl
theorem eqS_comm (a b : ByteArray) : eqS a b = eqS b a := by
  cases h : eqS b a
  · cases h' : eqS a b
    · rfl
    · rw [(eqS_iff a b).1 h', eqS_refl] at h; cases h
  · rw [(eqS_iff b a).1 h, eqS_refl]

theorem Try.infoS : (Try.prog.info? 9).map (fun i => (i.zero, i.size, i.bytes)) = some (some (.string ⟨#[]⟩), 1, 16) := by kernel_rfl

end Go.Proofs.Ytjpdllhhganbpaa
