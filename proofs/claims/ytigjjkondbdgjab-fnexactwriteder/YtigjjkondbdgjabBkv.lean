/- Walks: the library's iterator slices.Backward over items, for a caller that makes memory of its own in a round. -/
import Derived.Test.YtigjjkondbdgjabBlwO
import Derived.Test.YtigjjkondbdgjabRFv
import Derived.Test.YtigjjkondbdgjabItm
namespace Go.Proofs.Ytigjjkondbdgjab
set_option linter.unusedVariables false
set_option linter.unusedSimpArgs false
open Go.RowKit Go.Shelf
attribute [local go_sem] Oper.semAt_some

abbrev Ix (m : Nat) := { i : Nat // i < m }
def encI (x : Nat → It) {m : Nat} (p : Ix m) : Array Value := #[.int .i64 (p.1 : Int), .agg #[.int .i64 (x p.1).tag, .slice (x p.1).ad (x p.1).len (x p.1).cap, .int .i64 (x p.1).kid]]
def XC (CL b : Nat) (k : Nat) : Prop := k = CL ∨ k = b

set_option maxHeartbeats 6400000 in
set_option maxRecDepth 100000 in
theorem back1_inV (n : Nat) (hn1 : 1 ≤ n) (m CL b off cap : Nat) (x : Nat → It) (w0 : World) (hm : m ≤ 1048576) (hm0 : 0 < m) (hCL : w0.cell? ⟨CL, 0, none⟩ = some (.slice (some ⟨b, off, none⟩) m cap)) (hI : ISeg w0 (some ⟨b, off, none⟩) b off m x) :
    TellsV (α := Ix m) n Try.prog 97 #[.pointer (some ⟨CL, 0, none⟩)] (encI x) (fun pre y => pre.length + y.1 + 1 = m) (fun xs => xs.map (·.1) = (List.range m).reverse) (fun pre => pre.map (·.1) <+: (List.range m).reverse) m (XC CL b) w0 := by
  intro l J Jx W hW hJ hJx hY h0
  have lt2 : CL < w0.heap.size := World.block_lt_of_cell? _ _ hCL
  have lt3 : b < w0.heap.size := hI.lt hm0
  have hCW : W.cell? ⟨CL, 0, none⟩ = some (.slice (some ⟨b, off, none⟩) m cap) := (hW.cell (p := ⟨CL, 0, none⟩) lt2).trans hCL
  refine callsIn_of_wp Try.func97 rfl trivial ?_ rfl
  simp only [Try.ntmps97, List.size_toArray, List.length_cons, List.length_nil, Nat.reduceAdd, Nat.reduceSub, Array.replicate_succ, Array.replicate_zero, List.push_toArray, List.append_toArray, List.nil_append, List.cons_append]
  have hw1 : wrap64 ((m : Int) - 1) = (m : Int) - 1 := by unfold wrap64; omega
  gi_wp2
  have HK2 : Hid (∀ wr : World, (∀ k, XC CL b k → wr.heap[k]? = W.heap[k]?) → wr.cell? ⟨CL, 0, none⟩ = some (.slice (some ⟨b, off, none⟩) m cap) ∧ (∀ i, i < m → wr.cell? ⟨b, off + i * 3, none⟩ = some (.int .i64 (x i).tag) ∧ wr.cell? ⟨b, off + i * 3 + 1, none⟩ = some (.slice (x i).ad (x i).len (x i).cap) ∧ wr.cell? ⟨b, off + i * 3 + 2, none⟩ = some (.int .i64 (x i).kid))) := by
    intro wr hr
    have hbk : wr.heap[b]? = w0.heap[b]? := (hr b (.inr rfl)).trans (hW.block b lt3)
    refine ⟨?_, fun i hi => ⟨?_, ?_, ?_⟩⟩
    · rw [World.cell?_of_block (a := ⟨CL, 0, none⟩) (hr CL (.inl rfl))]
      exact hCW
    · exact (World.cell?_of_block (a := ⟨b, off + i * 3, none⟩) hbk).trans (hI.c0 i hi)
    · exact (World.cell?_of_block (a := ⟨b, off + i * 3 + 1, none⟩) hbk).trans (hI.c1 i hi)
    · exact (World.cell?_of_block (a := ⟨b, off + i * 3 + 2, none⟩) hbk).trans (hI.c2 i hi)
  have HXl : Hid (∀ k, XC CL b k → k < W.heap.size) := fun k hk => by have := hW.size; rcases hk with h | h <;> omega
  clear hw1
  gi_loopw [3] (fun p wr => ∃ (i : Nat) (pre : List (Ix m)) (O : Nat → Prop), i ≤ m ∧ p = .int .i64 ((i : Int) - 1) ∧ pre.map (·.1) ++ (List.range i).reverse = (List.range m).reverse ∧ pre.length + i = m ∧ J O pre wr ∧ W.heap.size ≤ wr.heap.size ∧ (∀ k, XC CL b k → wr.heap[k]? = W.heap[k]?) ∧ (∀ k, O k → W.heap.size ≤ k ∧ k < wr.heap.size)) (fun p _ => (intOf p + 1).toNat)
  case atStart => exact ⟨m, [], fun _ => False, Nat.le_refl _, rfl, rfl, by simp, h0, Nat.le_refl _, fun _ _ => rfl, fun _ h => h.elim⟩
  case round =>
    obtain ⟨i, pre, O, him, rfl, hT, hpi, hJp, hsz, hrd, hOk⟩ := hrel
    obtain ⟨cl, ci⟩ := HK2.out wr hrd
    have HOk := hide hOk
    have HT := hide hT
    have Hrd := hide hrd
    have Hpi := hide hpi
    clear hOk hT hrd hpi
    by_cases h0i : 0 < i
    · obtain ⟨j, rfl⟩ : ∃ j, i = j + 1 := ⟨i - 1, by omega⟩
      have hj : j < m := by omega
      have hj' : (j : Int) < (m : Int) := by omega
      rw [show (((j + 1 : Nat) : Int) - 1) = (j : Int) by omega]
      obtain ⟨c0, c1, c2⟩ := ci j hj
      obtain ⟨fn, tmps, assign, body, hy, hR⟩ := hY O pre ⟨j, hj⟩ wr hJp (by have := Hpi.out; show pre.length + j + 1 = m; omega) HOk.out hsz (by have := Hpi.out; omega)
      simp only [encI] at hy
      have HR := hide hR
      have HF : Hid (pre.map (·.1) ++ (j :: (List.range j).reverse) = (List.range m).reverse) := by
        have := HT.out
        rw [List.range_succ, List.reverse_append] at this
        exact this
      clear hR ci
      gi_wp2
      refine HR.out.mono ?_
      rintro e W3 (⟨rfl, hJ3, hk3⟩ | ⟨rfl, hJx3⟩)
      · have Hrd3 : Hid (∀ k, XC CL b k → W3.heap[k]? = W.heap[k]?) := fun k hk => (hk3.same k (.inr hk) (by have := HXl.out k hk; omega)).trans (Hrd.out k hk)
        have HOk3 : Hid (∀ k, O k → W.heap.size ≤ k ∧ k < W3.heap.size) := fun k hk => by have := HOk.out k hk; have := hk3.size; omega
        have HJ3 := hide hJ3
        have hsz3 : W.heap.size ≤ W3.heap.size := Nat.le_trans hsz hk3.size
        have hwj : wrap64 ((j : Int) - 1) = (j : Int) - 1 := by unfold wrap64; omega
        clear hJ3 hk3 cl c0 c1 c2 hy HR
        gi_wp2
        go_roundw
        case rel => exact ⟨j, pre ++ [⟨j, hj⟩], O, by omega, rfl, by rw [List.map_append, List.append_assoc]; exact HF.out, by have := Hpi.out; simp; omega, HJ3.out, hsz3, Hrd3.out, HOk3.out⟩
        case measure => simp [intOf]
      · gi_wp2
        (try simp only [Exit.inBlock, Exit.then])
        refine bodyPost_ret (results_none rfl _ _ _) rfl ?_
        refine ⟨⟨_, rfl⟩, .inr ⟨pre ++ [⟨j, hj⟩], O, ?_, hJx3⟩⟩
        rw [← HF.out, List.map_append]
        exact ⟨_, by rw [List.append_assoc]; rfl⟩
    · obtain rfl : i = 0 := by omega
      have hneg : ¬ (0 : Int) ≤ ((0 : Nat) : Int) - 1 := by omega
      gi_wp2
      go_end0
      refine ⟨⟨_, rfl⟩, .inl ⟨pre, ?_, O, hJp⟩⟩
      have h := HT.out
      simpa using h

end Go.Proofs.Ytigjjkondbdgjab
