/- Lists of items that tell the same, as a law holds them against each other. -/
import Derived.Test.YtgdjaapjdmancaaGreatDoorCy02
import Derived.Test.YtgdjaapjdmancaaGreatDoorCy05
import Derived.Test.YtgdjaapjdmancaaGreatDoorCy08
namespace Go.Proofs.YtgdjaapjdmancaaGreatDoor

section
set_option linter.unusedVariables false
set_option linter.unusedSimpArgs false

open Go.RowKit

/-- These items tell just that. -/
def SameC (L : List It) (C : List Ic) : Prop := L.map ct = C ∧ ∀ t ∈ L, Nf t

theorem SameC.len {L : List It} {C : List Ic} (h : SameC L C) : L.length = C.length := map_len h.1

theorem SameC.at' {L : List It} {C : List Ic} (h : SameC L C) {i : Nat} (hi : i < C.length) : L.getD i dI ∈ L ∧ ct (L.getD i dI) = C[i] := by
  have hl := h.len
  have e : L.getD i dI = L[i]'(by omega) := by rw [List.getD_eq_getElem?_getD, List.getElem?_eq_getElem (by omega)]; rfl
  refine ⟨by rw [e]; exact List.getElem_mem _, ?_⟩
  rw [e]
  have := congrArg (fun l => l[i]?) h.1
  simp only [List.getElem?_map] at this
  rw [List.getElem?_eq_getElem (by omega), List.getElem?_eq_getElem hi] at this
  simpa using this

theorem LAcc.iow {B : Nat} {W : World} {v : Value} {L : List It} (h : LAcc B W v L) (hs : ∀ t ∈ L, t.len ≤ 9223372036854775807) : ∃ a S cap, v = .slice a L.length cap ∧ IOw B W a S 0 L.length (fun i => L.getD i dI) := by
  have hg : ∀ i, i < L.length → L.getD i dI ∈ L := fun i hi => by
    rw [List.getD_eq_getElem?_getD, List.getElem?_eq_getElem hi]
    exact List.getElem_mem _
  have hp := List.pairwise_iff_getElem.1 h.bods.apart
  have hd : ∀ i (hi : i < L.length), L.getD i dI = L[i] := fun i hi => by rw [List.getD_eq_getElem?_getD, List.getElem?_eq_getElem hi]; rfl
  have hA : IAcc B W v L.length (fun i => L.getD i dI) := by
    refine ⟨by rw [itsW_rowL]; exact h.row, fun i hi => h.bods.own _ (hg i hi), fun i hi h0 => ⟨h.away _ (hg i hi) h0, h.bods.up _ (hg i hi) h0⟩, fun i j hi hj hij h0 h1 => ?_⟩
    simp only [hd i hi, hd j hj] at h0 h1 ⊢
    rcases Nat.lt_or_gt_of_ne hij with c | c
    · exact hp i j hi hj c h0 h1
    · exact fun e => hp j i hj hi c h1 h0 e.symm
  exact hA.iow (fun i hi => hs _ (hg i hi))

/-- Few, and short. -/
def SmC (C : List Ic) : Prop := C.length ≤ 100 ∧ ∀ c ∈ C, c.bd.length ≤ 1000

theorem ct_len (t : It) : (ct t).bd.length = t.len := by simp [ct]

theorem SameC.small {L : List It} {C : List Ic} (h : SameC L C) (hC : SmC C) : (∀ i, i < C.length → (L.getD i dI).len ≤ 1048576) ∧ sumL (fun i => L.getD i dI) C.length ≤ 1048576 := by
  have h1 : ∀ i, i < C.length → (L.getD i dI).len ≤ 1000 := fun i hi => by
    obtain ⟨-, e⟩ := h.at' hi
    rw [← ct_len, e]
    exact hC.2 _ (List.getElem_mem _)
  have h2 : ∀ m, m ≤ C.length → sumL (fun i => L.getD i dI) m ≤ m * 1000 := by
    intro m
    induction m with
    | zero => intro _; exact Nat.le_refl _
    | succ m ih =>
      intro hm
      have := ih (by omega)
      have := h1 m (by omega)
      show sumL _ m + (L.getD m dI).len ≤ _
      omega
  refine ⟨fun i hi => by have := h1 i hi; omega, ?_⟩
  have := h2 C.length (Nat.le_refl _)
  have := hC.1
  omega

theorem ISeg.of_blkK {w w' : World} {a : Option Addr} {b off n : Nat} {x : Nat → It} (h : ISeg w a b off n x) (hb : 0 < n → w'.heap[b]? = w.heap[b]?) (hy : ∀ i, i < n → 0 < (x i).len → w'.heap[(x i).blk]? = w.heap[(x i).blk]?) : ISeg w' a b off n x :=
  ⟨h.at', fun i hi => (World.cell?_of_block (a := ⟨b, off + i * 3, none⟩) (hb (by omega))).trans (h.c0 i hi), fun i hi => (World.cell?_of_block (a := ⟨b, off + i * 3 + 1, none⟩) (hb (by omega))).trans (h.c1 i hi), fun i hi => (World.cell?_of_block (a := ⟨b, off + i * 3 + 2, none⟩) (hb (by omega))).trans (h.c2 i hi),
   fun i hi => ⟨(h.body i hi).at', fun j hj => (World.cell?_of_block (a := ⟨(x i).blk, (x i).off + j, none⟩) (hy i hi (by omega))).trans ((h.body i hi).cell j hj)⟩, h.small⟩

theorem IOw.of_blkK {B : Nat} {w w' : World} {a : Option Addr} {S off n : Nat} {x : Nat → It} (h : IOw B w a S off n x) (hb : 0 < n → w'.heap[S]? = w.heap[S]?) (hy : ∀ i, i < n → 0 < (x i).len → w'.heap[(x i).blk]? = w.heap[(x i).blk]?) : IOw B w' a S off n x :=
  ⟨h.toISeg.of_blkK hb hy, fun o h1 h2 => (World.frozen?_of_block (a := ⟨S, o, none⟩) (hb (by omega))).trans (h.fz o h1 h2), fun j hj m hm => (World.frozen?_of_block (a := ⟨(x j).blk, (x j).off + m, none⟩) (hy j hj (by omega))).trans (h.free j hj m hm), h.away, h.apart, h.rowB⟩

/-- A list of items as it lies below B. -/
structure ILw (B : Nat) (w : World) (a : Option Addr) (S n : Nat) (x : Nat → It) : Prop extends ISeg w a S 0 n x where
  rowL : 0 < n → S < B
  bodL : ∀ i, i < n → 0 < (x i).len → (x i).blk < B

theorem ILw.keep {B : Nat} {w w' : World} {a : Option Addr} {S n : Nat} {x : Nat → It} (h : ILw B w a S n x) (e : ∀ q, q < B → w'.heap[q]? = w.heap[q]?) : ILw B w' a S n x :=
  ⟨h.toISeg.of_blkK (fun h0 => e _ (h.rowL h0)) (fun i hi h0 => e _ (h.bodL i hi h0)), h.rowL, h.bodL⟩

theorem ILw.below {B B' : Nat} {w w' : World} {a : Option Addr} {S n : Nat} {x : Nat → It} (h : ILw B w a S n x) (e : Below B' w w') (hB : B ≤ B') : ILw B w' a S n x := h.keep (fun q hq => Below.block e q (by omega))

theorem Blk.of_heap {w w' : World} {C : Nat} {vs : List Value} (h : Blk w C vs) (e : w'.heap[C]? = w.heap[C]?) : Blk w' C vs := fun i v hi =>
  ⟨(World.cell?_of_block (a := ⟨C, i, none⟩) e).trans (h i v hi).1, (World.frozen?_of_block (a := ⟨C, i, none⟩) e).trans (h i v hi).2⟩

theorem ibL_len (n : Int) (h0 : -9223372036854775808 ≤ n) (h1 : n ≤ 9223372036854775807) : (ibL n).length ≤ 8 := by
  have := (ilen_is n h0 h1).le
  unfold ibL
  rw [List.length_map, List.length_range]
  omega
end

end Go.Proofs.YtgdjaapjdmancaaGreatDoor
