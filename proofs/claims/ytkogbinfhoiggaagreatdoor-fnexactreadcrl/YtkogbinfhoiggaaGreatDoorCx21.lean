/- A node of the model's reader: what lies there as its kids are read. Nothing is walked. -/
import Derived.Test.YtkogbinfhoiggaaGreatDoorCx20
namespace Go.Proofs.YtkogbinfhoiggaaGreatDoor
set_option linter.unusedVariables false
set_option linter.unusedSimpArgs false
open Go.RowKit
def KR (Q0 : Rdr × Nat) (Mc : List Ic) (j : Nat) (Q : Rdr × Nat) : Prop :=
 (Q.1.code ≠ 0 → Q0.1.code = Q.1.code ∧ Q0.1.pl = Q.1.pl) ∧ (Q.1.code = 0 → Q0.1.code = 0 ∧ Q0.1.its = Mc ++ Q.1.its ∧ Q0.2 = j + Q.2)
theorem KR.step {Q0 : Rdr × Nat} {Mc : List Ic} {j m E x : Nat} {rd : Nat → Rdr} (h : KR Q0 Mc j (rdK rd E (m + 1) x)) (hx : ¬ E ≤ x) (hc : (rd x).code = 0) : KR Q0 (Mc ++ (rd x).its) (j + 1) (rdK rd E m (rd x).nx) := by
 rw [rdK, if_neg hx, if_neg (fun k => k hc)] at h
 constructor
 ·intro hq
  rw [if_pos hq] at h
  exact h.1 hq
 ·intro hq
  rw [if_neg (fun k => k hq)] at h
  obtain ⟨a, b, c⟩ := h.2 rfl
  refine ⟨a, ?_, ?_⟩
  ·rw [b]; simp
  ·rw [c]; simp only []; omega
theorem KR.bad {Q0 : Rdr × Nat} {Mc : List Ic} {j m E x : Nat} {rd : Nat → Rdr} (h : KR Q0 Mc j (rdK rd E (m + 1) x)) (hx : ¬ E ≤ x) (hc : (rd x).code ≠ 0) : Q0.1.code = (rd x).code ∧ Q0.1.pl = (rd x).pl := by
 rw [rdK, if_neg hx, if_pos hc] at h
 exact h.1 hc
theorem KR.fin {Q0 : Rdr × Nat} {Mc : List Ic} {j m E x : Nat} {rd : Nat → Rdr} (h : KR Q0 Mc j (rdK rd E m x)) (hx : E ≤ x) : Q0.1.code = 0 ∧ Q0.1.its = Mc ∧ Q0.2 = j := by
 have e : rdK rd E m x = (⟨[], [], x, 0, 0⟩, 0) := by
  cases m
  ·rfl
  ·rw [rdK, if_pos hx]
 rw [e] at h
 obtain ⟨a, b, c⟩ := h.2 rfl
 exact ⟨a, by rw [b]; simp, by rw [c]; rfl⟩
theorem rdT_node {f : Nat → Int} {k a e d : Nat} (hok : (hdC f a e d).1 = 0) (hm : mdT (f a) = true) (Q0 : Rdr × Nat) (hQ : rdK (fun x => rdT f k x (hdE f a e) (d + 1)) (hdE f a e) (hdE f a e - hdS f a e) (hdS f a e) = Q0) :
  (Q0.1.code ≠ 0 → (rdT f (k + 1) a e d).code = Q0.1.code ∧ (rdT f (k + 1) a e d).pl = Q0.1.pl) ∧ (Q0.1.code = 0 → (rdT f (k + 1) a e d).code = 0 ∧ (rdT f (k + 1) a e d).nx = hdE f a e ∧ (rdT f (k + 1) a e d).its = ⟨f a, (Q0.2 : Int), []⟩ :: Q0.1.its) := by
 rw [rdT, if_neg (fun h => h hok), if_neg (by rw [hm]; simp), hQ]
 constructor
 ·intro h; rw [if_pos h]; exact ⟨rfl, rfl⟩
 ·intro h; rw [if_neg (fun k => k h)]; exact ⟨rfl, rfl, rfl⟩
structure RdI (w : World) (B bb boff bn bc : Nat) (f : Nat → Int) (o : Option Nat) (tag : Int) (L : List It) (S E : Nat) (rd : Nat → Rdr) (Q0 : Rdr × Nat) (x j : Nat) (M : List It) (g lc n : Nat) (wr : World) : Prop where
 n' : n = L.length + 1 + M.length
 b0 : Blk wr w.heap.size (rrL (.slice (some ⟨bb, boff, none⟩) bn bc) (.slice (some ⟨g, 0, none⟩) n lc) 0 0)
 b1 : Blk wr (w.heap.size + 1) rrZ
 l : LAcc B wr (.slice (some ⟨g, 0, none⟩) n lc) (L ++ bare tag j :: M)
 s : BSeg wr (some ⟨bb, boff, none⟩) bb boff bn f
 ne : g ≠ w.heap.size ∧ g ≠ w.heap.size + 1
 own : o = some g ∨ w.heap.size ≤ g
 new : ∀ t ∈ M, 0 < t.len → w.heap.size + 2 ≤ t.blk ∧ Cp t
 old : ∀ t ∈ L, 0 < t.len → t.blk < w.heap.size
 x0 : S ≤ x
 x1 : x ≤ E
 len : n ≤ x
 j1 : j ≤ x
 kr : ∃ m, E - x ≤ m ∧ KR Q0 (M.map ct) j (rdK rd E m x)
 grw : Grw (Xof o w.heap.size) w wr
 bB : 0 < bn → bb < B
 Bw : B ≤ w.heap.size
theorem RdI.next {w : World} {B bb boff bn bc : Nat} {f : Nat → Int} {o : Option Nat} {tag : Int} {L : List It} {S E : Nat} {rd : Nat → Rdr} {Q0 : Rdr × Nat} {x j : Nat} {M : List It} {g lc n : Nat} {wr w' : World}
  (I : RdI w B bb boff bn bc f o tag L S E rd Q0 x j M g lc n wr) (hx : x < E) (hc : (rd x).code = 0) (hnx : x + 2 ≤ (rd x).nx ∧ (rd x).nx ≤ E) (hln : (rd x).its.length + x ≤ (rd x).nx)
  {la : Option Addr} {ln lcn : Nat} (hO : (Value.slice la ln lcn).ownBlock = (Value.slice (some ⟨g, 0, none⟩) n lc).ownBlock ∨ ∃ q, (Value.slice la ln lcn).ownBlock = some q ∧ wr.heap.size ≤ q) {Mn : List It}
  (hA : LAcc B w' (.slice la ln lcn) ((L ++ bare tag j :: M) ++ Mn)) (hct : Mn.map ct = (rd x).its) (hnew : ∀ t ∈ Mn, 0 < t.len → wr.heap.size ≤ t.blk ∧ Cp t) (hg : wr.grownBy w' (Value.slice (some ⟨g, 0, none⟩) n lc).ownBlock) :
  ∃ g', la = some ⟨g', 0, none⟩ ∧ g' ≠ w.heap.size ∧ Blk w' w.heap.size (rrL (.slice (some ⟨bb, boff, none⟩) bn bc) (.slice (some ⟨g, 0, none⟩) n lc) 0 0) ∧
   (∀ W, Ext (putL w.heap.size 0 (rrL (.slice (some ⟨bb, boff, none⟩) bn bc) (.slice (some ⟨g', 0, none⟩) ln lcn) 0 0) w') W → Blk W w.heap.size (rrL (.slice (some ⟨bb, boff, none⟩) bn bc) (.slice (some ⟨g', 0, none⟩) ln lcn) 0 0) ∧ W.cell? ⟨g', L.length * 3 + 2, none⟩ = some (.int .i64 j) ∧ W.frozen? ⟨g', L.length * 3 + 2, none⟩ = false ∧
    ∀ W8, Ext (W.setCell ⟨g', L.length * 3 + 2, none⟩ (.int .i64 ((j + 1 : Nat) : Int))) W8 → RdI w B bb boff bn bc f o tag L S E rd Q0 (rd x).nx (j + 1) (M ++ Mn) g' lcn ln W8) := by
 have hz : w.heap.size + 1 < wr.heap.size := Blk.lt I.b1 (by simp [rrZ])
 obtain ⟨g', c', e1, hBg, hgs⟩ := slc_at hA.row (by simp; omega)
 simp only [Value.slice.injEq] at e1
 obtain ⟨rfl, hlen, rfl⟩ := e1
 have hgg : g' = g ∨ wr.heap.size ≤ g' := by
  rcases hO with h | ⟨q, h, h'⟩
  ·left
   have h2 : some g' = some g := h
   injection h2
  ·right
   have h2 : some g' = some q := h
   injection h2 with h2
   omega
 have gr : g < wr.heap.size := (I.l.row.lt g rfl).2
 have keep : ∀ k, k < wr.heap.size → k ≠ g → w'.heap[k]? = wr.heap[k]? := fun k hk hne => hg.block k hk (fun e => by
  have h2 : some k = some g := e
  injection h2 with h2
  exact hne h2)
 have n0 := I.ne
 have g0 : g' ≠ w.heap.size := by rcases hgg with rfl | h; exact n0.1; omega
 have g1 : g' ≠ w.heap.size + 1 := by rcases hgg with rfl | h; exact n0.2; omega
 have hb0 := blk_hp I.b0 (keep w.heap.size (by omega) (fun e => n0.1 e.symm))
 have hb1 := blk_hp I.b1 (keep (w.heap.size + 1) hz (fun e => n0.2 e.symm))
 have hbB := I.bB
 have hBw := I.Bw
 have hgB : B ≤ g := (I.l.row.lt g rfl).1
 have hs' : BSeg w' (some ⟨bb, boff, none⟩) bb boff bn f := ⟨I.s.at', fun i hi => (World.cell?_of_block (a := ⟨bb, boff + i, none⟩) (keep bb (I.s.lt (by omega)) (by have := hbB (by omega); omega))).trans (I.s.cell i hi)⟩
 refine ⟨g', rfl, g0, hb0, fun W hW => ?_⟩
 have hl2 : ln = L.length + 1 + (M ++ Mn).length := by rw [hA.len_n]; simp; omega
 have hA2 : LAcc B (putL w.heap.size 0 (rrL (.slice (some ⟨bb, boff, none⟩) bn bc) (.slice (some ⟨g', 0, none⟩) ln lcn) 0 0) w') (.slice (some ⟨g', 0, none⟩) ln lcn) (L ++ bare tag j :: (M ++ Mn)) := by
  have e : L ++ bare tag j :: (M ++ Mn) = (L ++ bare tag j :: M) ++ Mn := by simp
  rw [e]
  refine hA.of_blk (fun q hq => heap_putL _ _ _ _ _ (by
   have hq2 : some g' = some q := hq
   injection hq2 with hq2
   rw [← hq2]
   exact g0)) (fun t ht h0 => heap_putL _ _ _ _ _ ?_)
  rcases List.mem_append.1 ht with ht | ht
  ·rcases List.mem_append.1 ht with ht | ht
   ·have := I.old t ht h0; omega
   ·rcases List.mem_cons.1 ht with rfl | ht
    ·exact absurd h0 (Nat.lt_irrefl _)
    ·have := I.new t ht h0; omega
  ·have := hnew t ht h0; omega
 have hB2 : Blk W w.heap.size (rrL (.slice (some ⟨bb, boff, none⟩) bn bc) (.slice (some ⟨g', 0, none⟩) ln lcn) 0 0) := Blk.ext (Blk.putAll1 hb0 (vs := rrL (.slice (some ⟨bb, boff, none⟩) bn bc) (.slice (some ⟨g', 0, none⟩) ln lcn) 0 0) rfl) hW (by rw [size_putL]; have := hg.size; omega)
 have hA3 := hA2.ext hW
 have h3 := hA3.at3
 refine ⟨hB2, h3.2.2.1, h3.2.2.2 _, fun W8 h8 => ?_⟩
 have hb12 : Blk W (w.heap.size + 1) rrZ := Blk.ext (Blk.put_other hb1 _ (by omega)) hW (by rw [size_putL]; have := hg.size; omega)
 have hk8 : ∀ k, k < W.heap.size → k ≠ g' → W8.heap[k]? = W.heap[k]? := fun k hk hne => by
  rw [Below.block h8 k (by simp; exact hk), Below.heap_setCell _ _ _ _ (by show k ≠ g'; exact hne)]
 have hzW : w.heap.size + 1 < W.heap.size := Blk.lt hb12 (by simp [rrZ])
 have hbw : 0 < bn → bb ≠ w.heap.size := fun h => by have := hbB h; omega
 have hsW : BSeg W (some ⟨bb, boff, none⟩) bb boff bn f := by
  have h1 : BSeg (putL w.heap.size 0 (rrL (.slice (some ⟨bb, boff, none⟩) bn bc) (.slice (some ⟨g', 0, none⟩) ln lcn) 0 0) w') (some ⟨bb, boff, none⟩) bb boff bn f := ⟨hs'.at', fun i hi => (World.cell?_of_block (a := ⟨bb, boff + i, none⟩) (heap_putL w.heap.size _ 0 w' bb (hbw (by omega)))).trans (hs'.cell i hi)⟩
  exact h1.of_all hW
 have hgB' : B ≤ g' := hBg
 have hA8 := (hA3.setKid ((j + 1 : Nat) : Int)).ext (by rw [show 3 * L.length + 2 = L.length * 3 + 2 by omega]; exact h8)
 obtain ⟨m, hm, hkr⟩ := I.kr
 obtain ⟨m', rfl⟩ : ∃ m', m = m' + 1 := ⟨m - 1, by omega⟩
 have hMl : Mn.length = (rd x).its.length := by rw [← hct, List.length_map]
 have hIl := I.len
 have hIn := I.n'
 have hx0 := I.x0
 have hj1 := I.j1
 refine ⟨hl2, blk_hp hB2 (hk8 _ (by omega) (fun e => g0 e.symm)), blk_hp hb12 (hk8 _ hzW (fun e => g1 e.symm)), hA8, ⟨hsW.at', fun i hi => (World.cell?_of_block (a := ⟨bb, boff + i, none⟩) (hk8 bb (hsW.lt (by omega)) (by have := hbB (by omega); omega))).trans (hsW.cell i hi)⟩, ⟨g0, g1⟩, ?_, ?_, I.old, by omega, hnx.2, ?_, by omega, ?_, ?_, hbB, hBw⟩
 ·rcases hgg with rfl | h
  ·exact I.own
  ·exact .inr (by omega)
 ·intro t ht h0
  rcases List.mem_append.1 ht with ht | ht
  ·exact I.new t ht h0
  ·exact ⟨by have := hnew t ht h0; omega, (hnew t ht h0).2⟩
 ·rw [hl2, List.length_append]; omega
 ·refine ⟨m', by omega, ?_⟩
  rw [List.map_append, hct]
  exact hkr.step (by omega) hc
 ·have xg : Xof o w.heap.size g := by
   rcases I.own with h | h
   ·exact .inl h
   ·exact .inr h
  have xg' : Xof o w.heap.size g' := by
   rcases hgg with rfl | h
   ·exact xg
   ·exact .inr (by omega)
  have q1 : Grw (Xof o w.heap.size) wr w' := grwX_grown hg (fun q hq => by
   have h2 : some g = some q := hq
   injection h2 with h2
   rw [← h2]; exact xg)
  exact (((I.grw.trans (Grw.putL (.inr (Nat.le_refl _)) _ 0 _ q1)).trans (Grw.of_ext hW)).trans (grw_set xg')).trans (Grw.of_ext h8)
theorem RdI.bad {w : World} {B bb boff bn bc : Nat} {f : Nat → Int} {o : Option Nat} {tag : Int} {L : List It} {S E : Nat} {rd : Nat → Rdr} {Q0 : Rdr × Nat} {x j : Nat} {M : List It} {g lc n : Nat} {wr w' : World}
  (I : RdI w B bb boff bn bc f o tag L S E rd Q0 x j M g lc n wr) (hx : x < E) (hc : (rd x).code ≠ 0) (la : Option Addr) (ln lcn : Nat) (c p : Int) (hg : wr.grownBy w' (Value.slice (some ⟨g, 0, none⟩) n lc).ownBlock) :
  Blk w' w.heap.size (rrL (.slice (some ⟨bb, boff, none⟩) bn bc) (.slice (some ⟨g, 0, none⟩) n lc) 0 0) ∧
   Blk (putL w.heap.size 0 (rrL (.slice (some ⟨bb, boff, none⟩) bn bc) (.slice la ln lcn) c p) w') w.heap.size (rrL (.slice (some ⟨bb, boff, none⟩) bn bc) (.slice la ln lcn) c p) ∧
   Blk (putL w.heap.size 0 (rrL (.slice (some ⟨bb, boff, none⟩) bn bc) (.slice la ln lcn) c p) w') (w.heap.size + 1) rrZ ∧
   w.grownBy (putL (w.heap.size + 1) 0 (rrL (.slice (some ⟨bb, boff, none⟩) bn bc) (.slice la ln lcn) c p) (putL w.heap.size 0 (rrL (.slice (some ⟨bb, boff, none⟩) bn bc) (.slice la ln lcn) c p) w')) o ∧
   Q0.1.code = (rd x).code ∧ Q0.1.pl = (rd x).pl := by
 have hz : w.heap.size + 1 < wr.heap.size := Blk.lt I.b1 (by simp [rrZ])
 have n0 := I.ne
 have keep : ∀ k, k < wr.heap.size → k ≠ g → w'.heap[k]? = wr.heap[k]? := fun k hk hne => hg.block k hk (fun e => by
  have h2 : some k = some g := e
  injection h2 with h2
  exact hne h2)
 have hb0 := blk_hp I.b0 (keep w.heap.size (by omega) (fun e => n0.1 e.symm))
 have hb1 := blk_hp I.b1 (keep (w.heap.size + 1) hz (fun e => n0.2 e.symm))
 obtain ⟨m, hm, hkr⟩ := I.kr
 obtain ⟨m', rfl⟩ : ∃ m', m = m' + 1 := ⟨m - 1, by omega⟩
 refine ⟨hb0, Blk.putAll1 hb0 rfl, Blk.put_other hb1 _ (by omega), ?_, hkr.bad (by omega) hc⟩
 have xg : Xof o w.heap.size g := by
  rcases I.own with h | h
  ·exact .inl h
  ·exact .inr h
 have q1 : Grw (Xof o w.heap.size) wr w' := grwX_grown hg (fun q hq => by
  have h2 : some g = some q := hq
  injection h2 with h2
  rw [← h2]; exact xg)
 exact grown_grw (Grw.putL (.inr (Nat.le_succ _)) _ 0 _ (Grw.putL (.inr (Nat.le_refl _)) _ 0 _ (I.grw.trans q1)))
theorem RdI.fin {w : World} {B bb boff bn bc : Nat} {f : Nat → Int} {o : Option Nat} {tag : Int} {L : List It} {S E : Nat} {rd : Nat → Rdr} {Q0 : Rdr × Nat} {x j : Nat} {M : List It} {g lc n : Nat} {wr : World}
  (I : RdI w B bb boff bn bc f o tag L S E rd Q0 x j M g lc n wr) (hx : ¬ x < E) (vs : List Value) :
  LAcc B (putL (w.heap.size + 1) 0 vs wr) (.slice (some ⟨g, 0, none⟩) n lc) (L ++ bare tag j :: M) ∧ w.grownBy (putL (w.heap.size + 1) 0 vs wr) o ∧ Q0.1.code = 0 ∧ (bare tag j :: M).map ct = ⟨tag, (Q0.2 : Int), []⟩ :: Q0.1.its ∧ (∀ t ∈ bare tag j :: M, 0 < t.len → w.heap.size ≤ t.blk ∧ Cp t) ∧
   ((Value.slice (some ⟨g, 0, none⟩) n lc).ownBlock = o ∨ ∃ q, (Value.slice (some ⟨g, 0, none⟩) n lc).ownBlock = some q ∧ w.heap.size ≤ q) := by
 have n0 := I.ne
 obtain ⟨m, hm, hkr⟩ := I.kr
 obtain ⟨k1, k2, k3⟩ := hkr.fin (by omega)
 refine ⟨I.l.of_blk (fun q hq => heap_putL _ _ _ _ _ (by
   have hq2 : some g = some q := hq
   injection hq2 with hq2
   rw [← hq2]
   exact n0.2)) (fun t ht h0 => heap_putL _ _ _ _ _ ?_), grown_grw (Grw.putL (.inr (Nat.le_succ _)) _ 0 _ I.grw), k1, ?_, ?_, ?_⟩
 ·rcases List.mem_append.1 ht with ht | ht
  ·have := I.old t ht h0; omega
  ·rcases List.mem_cons.1 ht with rfl | ht
   ·exact absurd h0 (Nat.lt_irrefl _)
   ·have := I.new t ht h0; omega
 ·rw [List.map_cons, k2, k3]
  rfl
 ·intro t ht h0
  rcases List.mem_cons.1 ht with rfl | ht
  ·exact absurd h0 (Nat.lt_irrefl _)
  ·exact ⟨by have := I.new t ht h0; omega, (I.new t ht h0).2⟩
 ·rcases I.own with h | h
  ·exact .inl h.symm
  ·exact .inr ⟨g, rfl, h⟩
end Go.Proofs.YtkogbinfhoiggaaGreatDoor
