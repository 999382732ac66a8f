/- What lies there behind some rounds of the program's readTree. -/
import Derived.Test.YtkogbinfhoiggaaGreatDoorCx13
import Derived.Test.YtkogbinfhoiggaaGreatDoorCx14
namespace Go.Proofs.YtkogbinfhoiggaaGreatDoor
set_option linter.unusedVariables false
set_option linter.unusedSimpArgs false
open Go Go.Sort Go.RowKit Go.Shelf
section
variable {P : Program} {Q : Exit → Act → World → Prop}
theorem region_heads_tailR {id m : Nat} {a : Act} {w : World} {l : List Oper} (n : Nat) (hm : P.follows .mixedOrders = true) (hn : noDefer l.toArray = true) (hL : ¬ LetsOut Q) (r : Nat) (hB : Region.lexTailB .any l.toArray n = true) (hQ : ∀ c a d v w, Q (.panic c) (a.put d v) w → Q (.panic c) a w)
  (h : headS P l.toArray w (fun a' => ∀ w', Ext w w' → wpList P l.toArray Q (l.drop n) a' w') (l.take n) a) : (Go.Code.region id l.toArray true).wpIn (Fence.wide.inRound r) m P Q a w := by
 simp only [Region.lexTailB, Bool.and_eq_true, decide_eq_true_eq] at hB
 obtain ⟨⟨⟨⟨hsel, hn2⟩, hs⟩, hc⟩, hlex⟩ := hB
 have hn' : n < l.length := by simpa using hn2
 have htl : (l.take n).length = n := by simp; omega
 have hdl : (l.drop n).length = l.toArray.size - n := by simp
 have inv0 : HeadInv .any l.toArray n (Array.replicate l.toArray.size false) :=
  ⟨by simp, fun j oj _ hl => (by rw [getD_replicate_false] at hl; cases hl), fun t _ ht => getD_in (by simpa using ht) (getD_replicate_false _ _)⟩
 have H := anyT_lex (md := .any) (P := P) (Q := Q) (w := w) (N := fun a' => ∀ w', Ext w w' → wpList P l.toArray Q (l.drop n) a' w') hsel hQ (g := l.toArray.size - n) (n := n) hs hc hn2 (l.take n) 0 _ a (fun j hj => by
   have hj' : j < n := by rw [htl] at hj; exact hj
   simp [hj']) (by simpa using htl) inv0 (by rw [htl]; exact hlex) h
 refine wpIn_region_any hm ?_
 have R := any_of_T (P := P) (md := .any) (Q := Q) (g := l.toArray.size - n) (fun listed a' G w' hL hG => by
  have := wpAny_of_seq (md := .any) (Q' := Q) (l.drop n) n listed a' w' (fun j => by simp [List.getElem?_drop]) (by rw [hdl]; exact hL.1) (hL.2.1 w' (hL.2.2 w' hG))
  rwa [hdl] at this) _ _ _ _ _ (show Ext w { w with drawn := w.drawn + 1 } from ⟨rfl, rfl, rfl, Nat.le_refl _, fun _ _ => rfl⟩) H
 rw [htl, show n + (l.toArray.size - n) = l.toArray.size by omega] at R
 exact wpAnyIn_of_wpAny hn hL r _ _ _ _ R
end
def lnL (L : List Nat) : List Int := L.map (fun (q : Nat) => (q : Int))
theorem lnL_len (L : List Nat) : (lnL L).length = L.length := by simp [lnL]
def Fr (z : Nat) (O : Nat → Prop) (g : Nat) : Prop := ¬ O g ∧ (g = z + 3 ∨ g = z + 5 ∨ z + 9 ≤ g)
structure RtA (f : Nat → Int) (z : Nat) (O : Nat → Prop) (Hs : List Hed) (v : Value) (L : List It) (g n vc : Nat) (W : World) : Prop where
 c4 : W.cell? ⟨z + 4, 0, none⟩ = some v
 acc : LAcc (z + 3) W v L
 its : L.map ct = (Hs.foldl (addH f) ([], [])).1
 fv : ∀ g, v.ownBlock = some g → Fr z O g
 fb : ∀ t ∈ L, 0 < t.len → Fr z O t.blk
 c6 : W.cell? ⟨z + 6, 0, none⟩ = some (.slice (some ⟨g, 0, none⟩) n vc)
 nn : (Hs.foldl (addH f) ([], [])).2.length = n
 row : W.ownsRow (z + 3) 3 1 (.slice (some ⟨g, 0, none⟩) n vc) n (iys (lnL (Hs.foldl (addH f) ([], [])).2))
 fg : Fr z O g
 ng : v.ownBlock ≠ some g
 nb : ∀ t ∈ L, 0 < t.len → t.blk ≠ g ∧ Cp t
structure RtI (f : Nat → Int) (w : World) (bv : Value) (O : Nat → Prop) (Hs : List Hed) (W : World) : Prop where
 it : ∃ v L g n vc, RtA f w.heap.size O Hs v L g n vc W
 c0 : W.cell? ⟨w.heap.size, 0, none⟩ = some bv
 c7 : W.cell? ⟨w.heap.size + 7, 0, none⟩ = some (.int .i64 ((Hs.foldl topF 0 : Nat) : Int))
 c1 : ∃ u, W.cell? ⟨w.heap.size + 1, 0, none⟩ = some u
 c2 : ∃ u, W.cell? ⟨w.heap.size + 2, 0, none⟩ = some u
 fz : ∀ k, k < 9 → k ≠ 3 → k ≠ 5 → W.frozen? ⟨w.heap.size + k, 0, none⟩ = false
 ours : ∀ k, O k → w.heap.size + 9 ≤ k
 big : w.heap.size + 9 ≤ W.heap.size
 ext : Ext w W
theorem Fr.lt {z : Nat} {O O' : Nat → Prop} {A : World} {g : Nat} (h : Fr z O g) (hg : g < A.heap.size) (hO : ∀ k, O' k → O k ∨ A.heap.size ≤ k) : Fr z O' g := ⟨fun k => by
 rcases hO g k with k | k
 ·exact h.1 k
 ·omega, h.2⟩
theorem RtA.keep {f : Nat → Int} {z g n vc : Nat} {O O' : Nat → Prop} {Hs : List Hed} {v : Value} {L : List It} {A C : World} (h : RtA f z O Hs v L g n vc A) (hz : z + 9 ≤ A.heap.size) (hlow : ∀ k, O k → z + 9 ≤ k) (hb : ∀ k, k < A.heap.size → ¬ O k → C.heap[k]? = A.heap[k]?) (hO : ∀ k, O' k → O k ∨ A.heap.size ≤ k) : RtA f z O' Hs v L g n vc C := by
 have bk : ∀ k, k < z + 9 → C.heap[k]? = A.heap[k]? := fun k hk => hb k (by omega) (fun h => by have := hlow k h; omega)
 have gl := (h.row.lt g rfl).2
 exact { c4 := (World.cell?_of_block (a := ⟨z + 4, 0, none⟩) (bk (z + 4) (by omega))).trans h.c4
         acc := h.acc.of_blk (fun g hg => hb g (h.acc.row.lt g hg).2 (h.fv g hg).1) (fun t ht h0 => hb t.blk (h.acc.bods.lt ht h0) (h.fb t ht h0).1)
         its := h.its
         fv := fun g hg => (h.fv g hg).lt (h.acc.row.lt g hg).2 hO
         fb := fun t ht h0 => (h.fb t ht h0).lt (h.acc.bods.lt ht h0) hO
         c6 := (World.cell?_of_block (a := ⟨z + 6, 0, none⟩) (bk (z + 6) (by omega))).trans h.c6
         nn := h.nn
         row := ownsRow_of_blk h.row (fun q hq => by simp only [Value.ownBlock, Option.some.injEq] at hq; subst hq; exact hb _ gl h.fg.1)
         fg := h.fg.lt gl hO
         ng := h.ng
         nb := h.nb }
theorem RtI.keep {f : Nat → Int} {w : World} {bv : Value} {O O' : Nat → Prop} {Hs : List Hed} {A C : World} (h : RtI f w bv O Hs A) (hs : A.heap.size ≤ C.heap.size) (h1 : C.os = A.os) (h2 : C.tape = A.tape) (h3 : C.output = A.output) (hb : ∀ k, k < A.heap.size → ¬ O k → C.heap[k]? = A.heap[k]?) (hO : ∀ k, O' k → O k ∨ A.heap.size ≤ k) : RtI f w bv O' Hs C := by
 have hbig := h.big
 have bk : ∀ k, k < w.heap.size + 9 → C.heap[k]? = A.heap[k]? := fun k hk => hb k (by omega) (fun h' => by have := h.ours k h'; omega)
 obtain ⟨v, L, g, n, vc, ha⟩ := h.it
 obtain ⟨u1, e1⟩ := h.c1
 obtain ⟨u2, e2⟩ := h.c2
 exact { it := ⟨v, L, g, n, vc, ha.keep hbig h.ours hb hO⟩
         c0 := (World.cell?_of_block (a := ⟨w.heap.size, 0, none⟩) (bk (w.heap.size) (by omega))).trans h.c0
         c7 := (World.cell?_of_block (a := ⟨w.heap.size + 7, 0, none⟩) (bk (w.heap.size + 7) (by omega))).trans h.c7
         c1 := ⟨u1, (World.cell?_of_block (a := ⟨w.heap.size + 1, 0, none⟩) (bk (w.heap.size + 1) (by omega))).trans e1⟩
         c2 := ⟨u2, (World.cell?_of_block (a := ⟨w.heap.size + 2, 0, none⟩) (bk (w.heap.size + 2) (by omega))).trans e2⟩
         fz := fun k k1 k3 k5 => (World.frozen?_of_block (a := ⟨w.heap.size + k, 0, none⟩) (bk (w.heap.size + k) (by omega))).trans (h.fz k k1 k3 k5)
         ours := fun k hk => by
          rcases hO k hk with k1 | k1
          ·exact h.ours k k1
          ·omega
         big := by omega
         ext := ⟨h1.trans h.ext.os, h2.trans h.ext.tape, h3.trans h.ext.output, Nat.le_trans h.ext.size hs, fun k hk => (bk k (by omega)).trans (h.ext.block k hk)⟩ }
theorem RtI.ab {f : Nat → Int} {w : World} {bv : Value} (Hs : List Hed) : AbO (fun O W => RtI f w bv O Hs W) := fun O O' A C h hs =>
 h.keep hs.size hs.os hs.tape hs.output hs.same (fun k hk => ((hs.own k).1 hk).imp id (·.1))
theorem RtI.grow {f : Nat → Int} {w : World} {bv : Value} {O : Nat → Prop} {Hs : List Hed} {A C : World} (h : RtI f w bv O Hs A) (e : Ext A C) : RtI f w bv O Hs C :=
 h.keep e.size e.os e.tape e.output (fun k hk _ => e.block k hk) (fun k hk => .inl hk)
theorem RtI.next {f : Nat → Int} {w : World} {bv : Value} {X O : Nat → Prop} {Hs Hs' : List Hed} {W W' : World} (h : RtI f w bv O Hs W) (T : Nat → Prop)
  (hT : ∀ k, T k → ¬ O k ∧ ¬ X k ∧ w.heap.size + 3 ≤ k)
  (k1 : W'.os = W.os) (k2 : W'.tape = W.tape) (k3 : W'.output = W.output) (k4 : W.heap.size ≤ W'.heap.size)
  (hk : ∀ k, k < W.heap.size → ¬ T k → W'.heap[k]? = W.heap[k]?)
  (ha : ∃ v L g n vc, RtA f w.heap.size O Hs' v L g n vc W') (h7 : W'.cell? ⟨w.heap.size + 7, 0, none⟩ = some (.int .i64 ((Hs'.foldl topF 0 : Nat) : Int)))
  (hf : ∀ k, 3 ≤ k → k < 9 → k ≠ 3 → k ≠ 5 → W'.frozen? ⟨w.heap.size + k, 0, none⟩ = false) : RdO X O W W' ∧ RtI f w bv O Hs' W' := by
 have hbig := h.big
 obtain ⟨u1, e1⟩ := h.c1
 obtain ⟨u2, e2⟩ := h.c2
 have nT : ∀ k, k < w.heap.size + 3 → ¬ T k := fun k h1 h2 => by have := (hT k h2).2.2; omega
 refine ⟨⟨k1, k2, k3, k4, fun k hx hl => hk k hl (fun ht => ?_)⟩, ?_⟩
 ·have := hT k ht
  rcases hx with hx | hx
  ·exact this.1 hx
  ·exact this.2.1 hx
 ·exact { it := ha
          c0 := (World.cell?_of_block (a := ⟨w.heap.size, 0, none⟩) (hk (w.heap.size) (by omega) (nT (w.heap.size) (by omega)))).trans h.c0
          c7 := h7
          c1 := ⟨u1, (World.cell?_of_block (a := ⟨w.heap.size + 1, 0, none⟩) (hk (w.heap.size + 1) (by omega) (nT (w.heap.size + 1) (by omega)))).trans e1⟩
          c2 := ⟨u2, (World.cell?_of_block (a := ⟨w.heap.size + 2, 0, none⟩) (hk (w.heap.size + 2) (by omega) (nT (w.heap.size + 2) (by omega)))).trans e2⟩
          fz := fun k q1 q3 q5 => by
           by_cases c : 3 ≤ k
           ·exact hf k c q1 q3 q5
           ·exact (World.frozen?_of_block (a := ⟨w.heap.size + k, 0, none⟩) (hk (w.heap.size + k) (by omega) (nT (w.heap.size + k) (by omega)))).trans (h.fz k q1 q3 q5)
          ours := h.ours
          big := by omega
          ext := ⟨k1.trans h.ext.os, k2.trans h.ext.tape, k3.trans h.ext.output, Nat.le_trans h.ext.size k4, fun k hl => (hk k (by omega) (nT _ (by omega))).trans (h.ext.block k hl)⟩ }
theorem bmp_kid : ∀ (L : List Ic) (q : Nat) (m : Int), (∀ x ∈ L, 0 ≤ x.kid ∧ x.kid ≤ m) → ∀ x ∈ bmp 1 L q, 0 ≤ x.kid ∧ x.kid ≤ m + 1
 | [], q, m, _, x, hx => by cases hx
 | y :: L, 0, m, h, x, hx => by
  rw [bmp] at hx
  rcases List.mem_cons.1 hx with rfl | hx
  ·have := h y (List.mem_cons.2 (.inl rfl)); show 0 ≤ y.kid + 1 ∧ y.kid + 1 ≤ m + 1; omega
  ·have := h x (List.mem_cons.2 (.inr hx)); omega
 | y :: L, q + 1, m, h, x, hx => by
  rw [bmp] at hx
  rcases List.mem_cons.1 hx with rfl | hx
  ·have := h x (List.mem_cons.2 (.inl rfl)); omega
  ·exact bmp_kid L q m (fun z hz => h z (List.mem_cons.2 (.inr hz))) x hx
theorem addH_kid {f : Nat → Int} : ∀ (H : List Hed) (S : List Ic × List Nat) (m : Int), 0 ≤ m → (∀ x ∈ S.1, 0 ≤ x.kid ∧ x.kid ≤ m) → ∀ x ∈ (H.foldl (addH f) S).1, 0 ≤ x.kid ∧ x.kid ≤ m + H.length
 | [], S, m, h0, h, x, hx => by have := h x hx; simp; omega
 | y :: H, S, m, h0, h, x, hx => by
  rw [List.foldl_cons] at hx
  have := addH_kid H (addH f S y) (m + 1) (by omega) (fun z hz => by
   unfold addH at hz
   rcases List.mem_append.1 hz with hz | hz
   ·unfold bmpL at hz
    split at hz
    ·have := h z hz; omega
    ·exact bmp_kid _ _ m h z hz
   ·rw [List.mem_singleton] at hz
    subst hz
    unfold itH
    simp
    omega) x hx
  rw [List.length_cons]
  push_cast
  omega
end Go.Proofs.YtkogbinfhoiggaaGreatDoor
