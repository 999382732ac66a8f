/- A node of the model's reader: what lies there as its kids are read. Nothing is walked. Walks: the model's reader at every depth, ReadDer of the model. Walks: ReadDer of the program. Numbers of many digits, plain: the value of a list of digits to the base 65536, its bounds, and that a list without noughts at its end is told by its value. Nothing of the program. What a call that answers a natural and a bool hands back: told by its value alone. Nothing of the program. Walks of small helpers: l1Digit, l1Norm; plain notions on digits behind a list's end. Walks: bits.Len of a digit, and the program's digitsBits: how many bits a list of digits has. Walks: NatBytes, the model's and the program's. Walks: the model's keys as items: l10Ints, l10Nat. Lists of items that tell the same, as a law holds them against each other. -/
import Derived.Test.YtmcdikbcmikihaaDoorSq08
import Derived.Test.YtmcdikbcmikihaaDoorSq17
import Derived.Test.YtmcdikbcmikihaaDoorSq19
import Derived.WalkKit
import Derived.Test.YtmcdikbcmikihaaDoorSq01
import Derived.Test.YtmcdikbcmikihaaDoorChecked
import Derived.WalkLawsBesides
import Derived.OwnWalk
import Derived.Maps.AppendAt
import Derived.Lib.BitFns
import Derived.Lib.Tables
import Derived.Test.YtmcdikbcmikihaaDoorSq02
import Derived.Test.YtmcdikbcmikihaaDoorSq05
import Derived.Test.YtmcdikbcmikihaaDoorSq06
namespace Go.Proofs.YtmcdikbcmikihaaDoor

section
set_option linter.unusedVariables false
set_option linter.unusedSimpArgs false

open Go.RowKit

/-- What is read of all kids, by what has been read and what is left. -/
def KR (Q0 : Rdr × Nat) (Mc : List Ic) (j : Nat) (Q : Rdr × Nat) : Prop :=
  (Q.1.code ≠ 0 → Q0.1.code = Q.1.code ∧ Q0.1.pl = Q.1.pl) ∧ (Q.1.code = 0 → Q0.1.code = 0 ∧ Q0.1.its = Mc ++ Q.1.its ∧ Q0.2 = j + Q.2)

theorem KR.step {Q0 : Rdr × Nat} {Mc : List Ic} {j m E x : Nat} {rd : Nat → Rdr} (h : KR Q0 Mc j (rdK rd E (m + 1) x)) (hx : ¬ E ≤ x) (hc : (rd x).code = 0) : KR Q0 (Mc ++ (rd x).its) (j + 1) (rdK rd E m (rd x).nx) := by
  rw [rdK, if_neg hx, if_neg (fun k => k hc)] at h
  constructor
  · intro hq
    rw [if_pos hq] at h
    exact h.1 hq
  · intro hq
    rw [if_neg (fun k => k hq)] at h
    obtain ⟨a, b, c⟩ := h.2 rfl
    refine ⟨a, ?_, ?_⟩
    · rw [b]; simp
    · rw [c]; simp only []; omega

theorem KR.bad {Q0 : Rdr × Nat} {Mc : List Ic} {j m E x : Nat} {rd : Nat → Rdr} (h : KR Q0 Mc j (rdK rd E (m + 1) x)) (hx : ¬ E ≤ x) (hc : (rd x).code ≠ 0) : Q0.1.code = (rd x).code ∧ Q0.1.pl = (rd x).pl := by
  rw [rdK, if_neg hx, if_pos hc] at h
  exact h.1 hc

theorem KR.fin {Q0 : Rdr × Nat} {Mc : List Ic} {j m E x : Nat} {rd : Nat → Rdr} (h : KR Q0 Mc j (rdK rd E m x)) (hx : E ≤ x) : Q0.1.code = 0 ∧ Q0.1.its = Mc ∧ Q0.2 = j := by
  have e : rdK rd E m x = (⟨[], [], x, 0, 0⟩, 0) := by
    cases m
    · rfl
    · rw [rdK, if_pos hx]
  rw [e] at h
  obtain ⟨a, b, c⟩ := h.2 rfl
  exact ⟨a, by rw [b]; simp, by rw [c]; rfl⟩

structure RdI (w : World) (B bb boff bn bc : Nat) (f : Nat → Int) (o : Option Nat) (tag : Int) (L : List It) (S E : Nat) (rd : Nat → Rdr) (Q0 : Rdr × Nat) (x j : Nat) (M : List It) (g lc n : Nat) (wr : World) : Prop where
  n' : n = L.length + 1 + M.length
  b0 : Blk wr w.heap.size (rrL (.slice (some ⟨bb, boff, none⟩) bn bc) (.slice (some ⟨g, 0, none⟩) n lc) 0 0)
  b1 : Blk wr (w.heap.size + 1) rrZ
  l : LAcc B wr (.slice (some ⟨g, 0, none⟩) n lc) (L ++ bare tag j :: M)
  s : BSeg wr (some ⟨bb, boff, none⟩) bb boff bn f
  ne : g ≠ w.heap.size ∧ g ≠ w.heap.size + 1
  own : o = some g ∨ w.heap.size ≤ g
  new : ∀ t ∈ M, 0 < t.len → w.heap.size + 2 ≤ t.blk
  old : ∀ t ∈ L, 0 < t.len → t.blk < w.heap.size
  x0 : S ≤ x
  x1 : x ≤ E
  len : n ≤ x
  j1 : j ≤ x
  kr : ∃ m, E - x ≤ m ∧ KR Q0 (M.map ct) j (rdK rd E m x)
  grw : Grw (Xof o w.heap.size) w wr
  bB : 0 < bn → bb < B
  Bw : B ≤ w.heap.size

/-- Behind a kid that is well. -/
theorem RdI.next {w : World} {B bb boff bn bc : Nat} {f : Nat → Int} {o : Option Nat} {tag : Int} {L : List It} {S E : Nat} {rd : Nat → Rdr} {Q0 : Rdr × Nat} {x j : Nat} {M : List It} {g lc n : Nat} {wr w' : World}
    (I : RdI w B bb boff bn bc f o tag L S E rd Q0 x j M g lc n wr) (hx : x < E) (hc : (rd x).code = 0) (hnx : x + 2 ≤ (rd x).nx ∧ (rd x).nx ≤ E) (hln : (rd x).its.length + x ≤ (rd x).nx)
    {la : Option Addr} {ln lcn : Nat} (hO : (Value.slice la ln lcn).ownBlock = (Value.slice (some ⟨g, 0, none⟩) n lc).ownBlock ∨ ∃ q, (Value.slice la ln lcn).ownBlock = some q ∧ wr.heap.size ≤ q) {Mn : List It}
    (hA : LAcc B w' (.slice la ln lcn) ((L ++ bare tag j :: M) ++ Mn)) (hct : Mn.map ct = (rd x).its) (hnew : ∀ t ∈ Mn, 0 < t.len → wr.heap.size ≤ t.blk) (hg : wr.grownBy w' (Value.slice (some ⟨g, 0, none⟩) n lc).ownBlock) :
    ∃ g', la = some ⟨g', 0, none⟩ ∧ g' ≠ w.heap.size ∧ Blk w' w.heap.size (rrL (.slice (some ⟨bb, boff, none⟩) bn bc) (.slice (some ⟨g, 0, none⟩) n lc) 0 0) ∧
      (∀ W, Ext (putL w.heap.size 0 (rrL (.slice (some ⟨bb, boff, none⟩) bn bc) (.slice (some ⟨g', 0, none⟩) ln lcn) 0 0) w') W → Blk W w.heap.size (rrL (.slice (some ⟨bb, boff, none⟩) bn bc) (.slice (some ⟨g', 0, none⟩) ln lcn) 0 0) ∧ W.cell? ⟨g', L.length * 3 + 2, none⟩ = some (.int .i64 j) ∧ W.frozen? ⟨g', L.length * 3 + 2, none⟩ = false ∧
        ∀ W8, Ext (W.setCell ⟨g', L.length * 3 + 2, none⟩ (.int .i64 ((j + 1 : Nat) : Int))) W8 → RdI w B bb boff bn bc f o tag L S E rd Q0 (rd x).nx (j + 1) (M ++ Mn) g' lcn ln W8) := by
  have hz : w.heap.size + 1 < wr.heap.size := Blk.lt I.b1 (by simp [rrZ])
  obtain ⟨g', c', e1, hBg, hgs⟩ := slc_at hA.row (by simp; omega)
  simp only [Value.slice.injEq] at e1
  obtain ⟨rfl, hlen, rfl⟩ := e1
  have hgg : g' = g ∨ wr.heap.size ≤ g' := by
    rcases hO with h | ⟨q, h, h'⟩
    · left
      have h2 : some g' = some g := h
      injection h2
    · right
      have h2 : some g' = some q := h
      injection h2 with h2
      omega
  have gr : g < wr.heap.size := (I.l.row.lt g rfl).2
  have keep : ∀ k, k < wr.heap.size → k ≠ g → w'.heap[k]? = wr.heap[k]? := fun k hk hne => hg.block k hk (fun e => by
    have h2 : some k = some g := e
    injection h2 with h2
    exact hne h2)
  have n0 := I.ne
  have g0 : g' ≠ w.heap.size := by rcases hgg with rfl | h; exact n0.1; omega
  have g1 : g' ≠ w.heap.size + 1 := by rcases hgg with rfl | h; exact n0.2; omega
  have hb0 := blk_hp I.b0 (keep w.heap.size (by omega) (fun e => n0.1 e.symm))
  have hb1 := blk_hp I.b1 (keep (w.heap.size + 1) hz (fun e => n0.2 e.symm))
  have hbB := I.bB
  have hBw := I.Bw
  have hgB : B ≤ g := (I.l.row.lt g rfl).1
  have hs' : BSeg w' (some ⟨bb, boff, none⟩) bb boff bn f := ⟨I.s.at', fun i hi => (World.cell?_of_block (a := ⟨bb, boff + i, none⟩) (keep bb (I.s.lt (by omega)) (by have := hbB (by omega); omega))).trans (I.s.cell i hi)⟩
  refine ⟨g', rfl, g0, hb0, fun W hW => ?_⟩
  have hl2 : ln = L.length + 1 + (M ++ Mn).length := by rw [hA.len_n]; simp; omega
  have hA2 : LAcc B (putL w.heap.size 0 (rrL (.slice (some ⟨bb, boff, none⟩) bn bc) (.slice (some ⟨g', 0, none⟩) ln lcn) 0 0) w') (.slice (some ⟨g', 0, none⟩) ln lcn) (L ++ bare tag j :: (M ++ Mn)) := by
    have e : L ++ bare tag j :: (M ++ Mn) = (L ++ bare tag j :: M) ++ Mn := by simp
    rw [e]
    refine hA.of_blk (fun q hq => heap_putL _ _ _ _ _ (by
      have hq2 : some g' = some q := hq
      injection hq2 with hq2
      rw [← hq2]
      exact g0)) (fun t ht h0 => heap_putL _ _ _ _ _ ?_)
    rcases List.mem_append.1 ht with ht | ht
    · rcases List.mem_append.1 ht with ht | ht
      · have := I.old t ht h0; omega
      · rcases List.mem_cons.1 ht with rfl | ht
        · exact absurd h0 (Nat.lt_irrefl _)
        · have := I.new t ht h0; omega
    · have := hnew t ht h0; omega
  have hB2 : Blk W w.heap.size (rrL (.slice (some ⟨bb, boff, none⟩) bn bc) (.slice (some ⟨g', 0, none⟩) ln lcn) 0 0) := Blk.ext (Blk.putAll1 hb0 (vs := rrL (.slice (some ⟨bb, boff, none⟩) bn bc) (.slice (some ⟨g', 0, none⟩) ln lcn) 0 0) rfl) hW (by rw [size_putL]; have := hg.size; omega)
  have hA3 := hA2.ext hW
  have h3 := hA3.at3
  refine ⟨hB2, h3.2.2.1, h3.2.2.2 _, fun W8 h8 => ?_⟩
  have hb12 : Blk W (w.heap.size + 1) rrZ := Blk.ext (Blk.put_other hb1 _ (by omega)) hW (by rw [size_putL]; have := hg.size; omega)
  have hk8 : ∀ k, k < W.heap.size → k ≠ g' → W8.heap[k]? = W.heap[k]? := fun k hk hne => by
    rw [Below.block h8 k (by simp; exact hk), Below.heap_setCell _ _ _ _ (by show k ≠ g'; exact hne)]
  have hzW : w.heap.size + 1 < W.heap.size := Blk.lt hb12 (by simp [rrZ])
  have hbw : 0 < bn → bb ≠ w.heap.size := fun h => by have := hbB h; omega
  have hsW : BSeg W (some ⟨bb, boff, none⟩) bb boff bn f := by
    have h1 : BSeg (putL w.heap.size 0 (rrL (.slice (some ⟨bb, boff, none⟩) bn bc) (.slice (some ⟨g', 0, none⟩) ln lcn) 0 0) w') (some ⟨bb, boff, none⟩) bb boff bn f := ⟨hs'.at', fun i hi => (World.cell?_of_block (a := ⟨bb, boff + i, none⟩) (heap_putL w.heap.size _ 0 w' bb (hbw (by omega)))).trans (hs'.cell i hi)⟩
    exact h1.of_all hW
  have hgB' : B ≤ g' := hBg
  have hA8 := (hA3.setKid ((j + 1 : Nat) : Int)).ext (by rw [show 3 * L.length + 2 = L.length * 3 + 2 by omega]; exact h8)
  obtain ⟨m, hm, hkr⟩ := I.kr
  obtain ⟨m', rfl⟩ : ∃ m', m = m' + 1 := ⟨m - 1, by omega⟩
  have hMl : Mn.length = (rd x).its.length := by rw [← hct, List.length_map]
  have hIl := I.len
  have hIn := I.n'
  have hx0 := I.x0
  have hj1 := I.j1
  refine ⟨hl2, blk_hp hB2 (hk8 _ (by omega) (fun e => g0 e.symm)), blk_hp hb12 (hk8 _ hzW (fun e => g1 e.symm)), hA8, ⟨hsW.at', fun i hi => (World.cell?_of_block (a := ⟨bb, boff + i, none⟩) (hk8 bb (hsW.lt (by omega)) (by have := hbB (by omega); omega))).trans (hsW.cell i hi)⟩, ⟨g0, g1⟩, ?_, ?_, I.old, by omega, hnx.2, ?_, by omega, ?_, ?_, hbB, hBw⟩
  · rcases hgg with rfl | h
    · exact I.own
    · exact .inr (by omega)
  · intro t ht h0
    rcases List.mem_append.1 ht with ht | ht
    · exact I.new t ht h0
    · have := hnew t ht h0; omega
  · rw [hl2, List.length_append]; omega
  · refine ⟨m', by omega, ?_⟩
    rw [List.map_append, hct]
    exact hkr.step (by omega) hc
  · have xg : Xof o w.heap.size g := by
      rcases I.own with h | h
      · exact .inl h
      · exact .inr h
    have xg' : Xof o w.heap.size g' := by
      rcases hgg with rfl | h
      · exact xg
      · exact .inr (by omega)
    have q1 : Grw (Xof o w.heap.size) wr w' := grwX_grown hg (fun q hq => by
      have h2 : some g = some q := hq
      injection h2 with h2
      rw [← h2]; exact xg)
    exact (((I.grw.trans (Grw.putL (.inr (Nat.le_refl _)) _ 0 _ q1)).trans (Grw.of_ext hW)).trans (grw_set xg')).trans (Grw.of_ext h8)

/-- Behind a kid that is not well. -/
theorem RdI.bad {w : World} {B bb boff bn bc : Nat} {f : Nat → Int} {o : Option Nat} {tag : Int} {L : List It} {S E : Nat} {rd : Nat → Rdr} {Q0 : Rdr × Nat} {x j : Nat} {M : List It} {g lc n : Nat} {wr w' : World}
    (I : RdI w B bb boff bn bc f o tag L S E rd Q0 x j M g lc n wr) (hx : x < E) (hc : (rd x).code ≠ 0) (la : Option Addr) (ln lcn : Nat) (c p : Int) (hg : wr.grownBy w' (Value.slice (some ⟨g, 0, none⟩) n lc).ownBlock) :
    Blk w' w.heap.size (rrL (.slice (some ⟨bb, boff, none⟩) bn bc) (.slice (some ⟨g, 0, none⟩) n lc) 0 0) ∧
      Blk (putL w.heap.size 0 (rrL (.slice (some ⟨bb, boff, none⟩) bn bc) (.slice la ln lcn) c p) w') w.heap.size (rrL (.slice (some ⟨bb, boff, none⟩) bn bc) (.slice la ln lcn) c p) ∧
      Blk (putL w.heap.size 0 (rrL (.slice (some ⟨bb, boff, none⟩) bn bc) (.slice la ln lcn) c p) w') (w.heap.size + 1) rrZ ∧
      w.grownBy (putL (w.heap.size + 1) 0 (rrL (.slice (some ⟨bb, boff, none⟩) bn bc) (.slice la ln lcn) c p) (putL w.heap.size 0 (rrL (.slice (some ⟨bb, boff, none⟩) bn bc) (.slice la ln lcn) c p) w')) o ∧
      Q0.1.code = (rd x).code ∧ Q0.1.pl = (rd x).pl := by
  have hz : w.heap.size + 1 < wr.heap.size := Blk.lt I.b1 (by simp [rrZ])
  have n0 := I.ne
  have keep : ∀ k, k < wr.heap.size → k ≠ g → w'.heap[k]? = wr.heap[k]? := fun k hk hne => hg.block k hk (fun e => by
    have h2 : some k = some g := e
    injection h2 with h2
    exact hne h2)
  have hb0 := blk_hp I.b0 (keep w.heap.size (by omega) (fun e => n0.1 e.symm))
  have hb1 := blk_hp I.b1 (keep (w.heap.size + 1) hz (fun e => n0.2 e.symm))
  obtain ⟨m, hm, hkr⟩ := I.kr
  obtain ⟨m', rfl⟩ : ∃ m', m = m' + 1 := ⟨m - 1, by omega⟩
  refine ⟨hb0, Blk.putAll1 hb0 rfl, Blk.put_other hb1 _ (by omega), ?_, hkr.bad (by omega) hc⟩
  have xg : Xof o w.heap.size g := by
    rcases I.own with h | h
    · exact .inl h
    · exact .inr h
  have q1 : Grw (Xof o w.heap.size) wr w' := grwX_grown hg (fun q hq => by
    have h2 : some g = some q := hq
    injection h2 with h2
    rw [← h2]; exact xg)
  exact grown_grw (Grw.putL (.inr (Nat.le_succ _)) _ 0 _ (Grw.putL (.inr (Nat.le_refl _)) _ 0 _ (I.grw.trans q1)))

/-- Behind the last kid. -/
theorem RdI.fin {w : World} {B bb boff bn bc : Nat} {f : Nat → Int} {o : Option Nat} {tag : Int} {L : List It} {S E : Nat} {rd : Nat → Rdr} {Q0 : Rdr × Nat} {x j : Nat} {M : List It} {g lc n : Nat} {wr : World}
    (I : RdI w B bb boff bn bc f o tag L S E rd Q0 x j M g lc n wr) (hx : ¬ x < E) (vs : List Value) :
    LAcc B (putL (w.heap.size + 1) 0 vs wr) (.slice (some ⟨g, 0, none⟩) n lc) (L ++ bare tag j :: M) ∧ w.grownBy (putL (w.heap.size + 1) 0 vs wr) o ∧ Q0.1.code = 0 ∧ (bare tag j :: M).map ct = ⟨tag, (Q0.2 : Int), []⟩ :: Q0.1.its ∧ (∀ t ∈ bare tag j :: M, 0 < t.len → w.heap.size ≤ t.blk) ∧
      ((Value.slice (some ⟨g, 0, none⟩) n lc).ownBlock = o ∨ ∃ q, (Value.slice (some ⟨g, 0, none⟩) n lc).ownBlock = some q ∧ w.heap.size ≤ q) := by
  have n0 := I.ne
  obtain ⟨m, hm, hkr⟩ := I.kr
  obtain ⟨k1, k2, k3⟩ := hkr.fin (by omega)
  refine ⟨I.l.of_blk (fun q hq => heap_putL _ _ _ _ _ (by
      have hq2 : some g = some q := hq
      injection hq2 with hq2
      rw [← hq2]
      exact n0.2)) (fun t ht h0 => heap_putL _ _ _ _ _ ?_), grown_grw (Grw.putL (.inr (Nat.le_succ _)) _ 0 _ I.grw), k1, ?_, ?_, ?_⟩
  · rcases List.mem_append.1 ht with ht | ht
    · have := I.old t ht h0; omega
    · rcases List.mem_cons.1 ht with rfl | ht
      · exact absurd h0 (Nat.lt_irrefl _)
      · have := I.new t ht h0; omega
  · rw [List.map_cons, k2, k3]
    rfl
  · intro t ht h0
    rcases List.mem_cons.1 ht with rfl | ht
    · exact absurd h0 (Nat.lt_irrefl _)
    · have := I.new t ht h0; omega
  · rcases I.own with h | h
    · exact .inl h.symm
    · exact .inr ⟨g, rfl, h⟩
end

section
set_option linter.unusedVariables false
set_option linter.unusedSimpArgs false

open Go.RowKit

/-- What ReadDer tells: items, code, place. -/
def rdA (f : Nat → Int) (bn : Nat) : List Ic × Int × Int :=
  if 4000 < bn then ([], 1, 0) else if (rdT f 14 0 bn 0).code ≠ 0 then ([], (rdT f 14 0 bn 0).code, (rdT f 14 0 bn 0).pl)
  else if 300 < (rdT f 14 0 bn 0).its.length then ([], 7, 0) else if (rdT f 14 0 bn 0).nx < bn then ([], 5, ((rdT f 14 0 bn 0).nx : Int)) else ((rdT f 14 0 bn 0).its, 0, 0)

def GivesRd (w : World) (A : List Ic × Int × Int) (e : Ending) (w' : World) : Prop :=
  ∃ v M, e = .returned (.tuple #[v, .int .i64 A.2.1, .int .i64 A.2.2]) ∧ LAcc w.heap.size w' v M ∧ M.map ct = A.1 ∧ Ext w w'
end

section
set_option linter.unusedVariables false
set_option linter.unusedSimpArgs false

open Go.RowKit Go.Shelf

theorem readTree_long (ad : Option Addr) (bn cap : Nat) (w : World) (hbn : 4000 < bn) : Calls Tryd.prog 23 #[.slice ad bn cap] w fun e w' => ∃ v, e = .returned (.tuple #[v, fltV 1 0]) ∧ Ext w w' := by
  have h4 : (4000 : Int) < (bn : Int) := by omega
  refine (callsIn_wide (n := 9)).1 ?_
  refine callsIn_of_wp_marks Tryd.func23 rfl trivial ?_
  simp only [Tryd.ntmps23, List.size_toArray, List.length_cons, List.length_nil, Nat.reduceAdd, Nat.reduceSub, Array.replicate_succ, Array.replicate_zero, List.push_toArray, List.append_toArray, List.nil_append, List.cons_append]
  obtain ⟨V1, hV1⟩ : ∃ V, ((w.alloc (.cells #[.slice ad bn cap] 22)).alloc (.cells #[.slice none 0 0] 23)).alloc (.cells #[.nilIface] 46) = V := ⟨_, rfl⟩
  obtain ⟨A0, A1, A2, e1, -⟩ := box3 w [.slice ad bn cap] [.slice none 0 0] [.nilIface] 22 23 46 (w1 := V1) (by rw [← hV1]; exact Ext.refl _)
  have c0 := (A0 0 _ rfl).1
  have c1 := (A1 0 _ rfl).1
  have c2 := (A2 0 _ rfl).1
  have f1 := (A1 0 _ rfl).2
  have f2 := (A2 0 _ rfl).2
  have HE := hide e1
  clear A0 A1 A2 e1
  gi_wp2
  have hne : w.heap.size + 1 ≠ w.heap.size + 1 + 1 := by omega
  refine ⟨_, results_2c Tryd.results23 rfl rfl (ld_items _ _ _ ((World.cell?_of_block (a := ⟨w.heap.size + 1, 0, none⟩) (Below.heap_setCell _ _ _ _ (show w.heap.size + 1 ≠ w.heap.size + 1 + 1 from hne))).trans (World.cell?_setCell_same _ _ _ c1))) (ld_error _ _ _ (World.cell?_setCell_same _ _ _ ((World.cell?_of_block (a := ⟨w.heap.size + 1 + 1, 0, none⟩) (Below.heap_setCell _ _ _ _ (show w.heap.size + 1 + 1 ≠ w.heap.size + 1 from hne.symm))).trans c2))), ?_⟩
  exact ⟨_, rfl, Below.setCell (p := ⟨w.heap.size + 1 + 1, 0, none⟩) (Below.setCell (p := ⟨w.heap.size + 1, 0, none⟩) HE.out (Nat.le_succ _) _) (Nat.le_trans (Nat.le_succ _) (Nat.le_succ _)) _⟩

/-- What readTree tells, of whatever bytes. -/
def GivesRu (f : Nat → Int) (bn : Nat) (w : World) (e : Ending) (w' : World) : Prop :=
  ∃ v u, e = .returned (.tuple #[v, u]) ∧ Ext w w' ∧ (((rdA f bn).2.1 ≠ 0 ∧ (rdA f bn).1 = [] ∧ u = fltV (rdA f bn).2.1 (rdA f bn).2.2) ∨ (u = .nilIface ∧ (rdA f bn).2 = (0, 0) ∧ ∃ L, LAcc w.heap.size w' v L ∧ L.map ct = (rdA f bn).1))

theorem readTree_all (ad : Option Addr) (b off bn cap : Nat) (f : Nat → Int) (w : World) (hcap : bn ≤ cap) (hcap2 : cap ≤ 9223372036854775807) (hf : ∀ i, i < bn → 0 ≤ f i ∧ f i < 256) (hs : BSeg w ad b off bn f) :
    Calls Tryd.prog 23 #[.slice ad bn cap] w (GivesRu f bn w) := by
  by_cases h4 : 4000 < bn
  · refine (readTree_long ad bn cap w h4).mono ?_
    rintro e w' ⟨v, rfl, hE⟩
    have hA : rdA f bn = ([], 1, 0) := by unfold rdA; rw [if_pos h4]
    exact ⟨v, _, rfl, hE, .inl (by rw [hA]; exact ⟨by show (1 : Int) ≠ 0; decide, rfl, rfl⟩)⟩
  · by_cases hc : (rdT f 14 0 bn 0).code = 0
    · obtain ⟨hR, h1, h2⟩ := run_right f bn hc
      refine (readTree_any ad b off bn cap f _ 0 0 w (by omega) hcap hcap2 hf hs hR).mono ?_
      rintro e w' ⟨v, u, rfl, hE, hcs⟩
      rw [h1, h2] at hcs
      have hA : rdA f bn = if 300 < (rdT f 14 0 bn 0).its.length then ([], 7, 0) else if (rdT f 14 0 bn 0).nx < bn then ([], 5, ((rdT f 14 0 bn 0).nx : Int)) else ((rdT f 14 0 bn 0).its, 0, 0) := by unfold rdA; rw [if_neg h4, if_neg (fun h => h hc)]
      refine ⟨v, u, rfl, hE, ?_⟩
      rcases hcs with ⟨c0, -⟩ | ⟨-, c1, rfl⟩ | ⟨-, c1, c2, rfl⟩ | ⟨-, c1, c2, rfl, L, hL, hm⟩
      · exact absurd rfl c0
      · rw [if_pos c1] at hA
        exact .inl (by rw [hA]; exact ⟨by show (7 : Int) ≠ 0; decide, rfl, rfl⟩)
      · rw [if_neg c1, if_pos c2] at hA
        exact .inl (by rw [hA]; exact ⟨by show (5 : Int) ≠ 0; decide, rfl, rfl⟩)
      · rw [if_neg c1, if_neg c2] at hA
        exact .inr (by rw [hA]; exact ⟨rfl, rfl, L, hL, hm⟩)
    · obtain ⟨H, hR⟩ := run_wrong f bn hc
      refine (readTree_any ad b off bn cap f H _ _ w (by omega) hcap hcap2 hf hs hR).mono ?_
      rintro e w' ⟨v, u, rfl, hE, hcs⟩
      have hA : rdA f bn = ([], (rdT f 14 0 bn 0).code, (rdT f 14 0 bn 0).pl) := by unfold rdA; rw [if_neg h4, if_pos hc]
      refine ⟨v, u, rfl, hE, ?_⟩
      rcases hcs with ⟨c0, rfl⟩ | ⟨c0, -⟩ | ⟨c0, -⟩ | ⟨c0, -⟩
      · exact .inl (by rw [hA]; exact ⟨hc, rfl, rfl⟩)
      all_goals exact absurd c0 hc

set_option maxHeartbeats 6400000 in
set_option maxRecDepth 100000 in
theorem implReadDer_any (ba : Option Addr) (bb boff bn bc : Nat) (f : Nat → Int) (w : World) (hs : BSeg w ba bb boff bn f) (hb : ∀ i, i < bn → 0 ≤ f i ∧ f i < 256) (hbc : bn ≤ bc) (hbc2 : bc ≤ 9223372036854775807) (hg : Hdl w) :
    Calls Tryd.prog 8 #[.slice ba bn bc] w (GivesRd w (rdA f bn)) := by
  have HT := hide (readTree_all ba bb boff bn bc f w hbc hbc2 hb hs)
  obtain ⟨A, hA⟩ : ∃ A, rdA f bn = A := ⟨_, rfl⟩
  rw [hA]
  have HA := hide hA
  have Hg := hide hg
  clear hA hs hb hg hbc hbc2
  go_enter Tryd.func8, Tryd.ntmps8
  go_wp2_with fail
  refine HT.out.mono ?_
  rintro e w1 ⟨v, u, rfl, hE1, hcs⟩
  rw [HA.out] at hcs
  have HE1 := hide hE1
  have B0 := Blk.alloc w1 [.int .i64 0, .int .i64 0] 50
  have hgT := (Below.cell (HE1.out.trans (Ext.alloc w1 (.cells #[.int .i64 0, .int .i64 0] 50))) (p := ⟨0, 0, none⟩) (World.block_lt_of_cell? _ _ Hg.out)).trans Hg.out
  rcases hcs with ⟨hc0, hc1, rfl⟩ | ⟨rfl, hc1, L, hL, hm⟩
  · obtain ⟨cc, hcc⟩ : ∃ cc, A.2.1 = cc := ⟨_, rfl⟩
    obtain ⟨pp, hpp⟩ : ∃ pp, A.2.2 = pp := ⟨_, rfl⟩
    have HAs := hide (as_fault cc pp w1.heap.size [.int .i64 0, .int .i64 0] rfl _ hgT B0)
    rw [hcc, hpp]
    have Hcc := hide hcc
    have Hpp := hide hpp
    have Hc1 := hide hc1
    clear hcc hpp hc0 hc1 hE1 HT
    simp only [fltV]
    go_wp2_with fail
    refine HAs.out.mono ?_
    rintro e w2 ⟨rfl, w2', hE2, rfl⟩
    have B2 := Blk.putAll1 (B0.ext hE2 (by simp)) (vs := ftL cc pp) rfl
    have c0 := (B2 0 (.int .i64 cc) rfl).1
    have c1 := (B2 1 (.int .i64 pp) rfl).1
    have HEx := hide (below_putL (Nat.le_refl _) (ftL cc pp) 0 _ (Ext.trans (Ext.alloc w1 (.cells #[.int .i64 0, .int .i64 0] 50)) hE2))
    clear B0 B2 hE2 HAs hgT
    obtain ⟨W, hW⟩ : ∃ W, putL w1.heap.size 0 (ftL cc pp) w2' = W := ⟨_, rfl⟩
    rw [hW] at c0 c1 HEx ⊢
    have f0 := fun q => cell_reC (X := fun _ => False) c0 (fun h => h) q
    have f1 := fun q => cell_reC (X := fun _ => False) c1 (fun h => h) q
    clear hW
    go_wp2_with fail
    refine anyK_begin (fun _ => False) 8 rfl (by kernel_rfl) ?_
    refine anyK_take 1 4 4 rfl (by decide) (by kernel_rfl) (fun _ _ d _ _ h => by cases d <;> exact h) ?_
    repeat (refine headC_step (fun K hK => ?_); go_simp; first | (refine hK _ ?_; clear hK K) | (apply Exists.intro; refine ⟨fun _ => ?_, hK _ ?_⟩; (fail); clear hK K))
    refine headC_nil ?_
    clear f0 f1
    refine anyK_one 0 (by kernel_rfl) ?_
    refine stepK_run rfl ?_
    intro w3 h3 K2 hK2
    go_simp
    refine hK2 _ _ (.of_ext (Ext.trans h3 (Ext.alloc _ _))) ?_
    clear hK2 K2
    refine anyK_take 5 3 0 rfl (by decide) (by kernel_rfl) (fun _ _ d _ _ h => by cases d <;> exact h) ?_
    repeat (refine headC_step (fun K hK => ?_); go_simp; first | (refine hK _ ?_; clear hK K) | (apply Exists.intro; refine ⟨fun _ => ?_, hK _ ?_⟩; (fail); clear hK K))
    refine headC_nil ?_
    refine anyK_done (by kernel_rfl) ?_ 0
    intro w5 h5
    have hN := (LAcc.nil w3 w.heap.size (by have q1 := Below.size HE1.out; have q2 := Below.size HEx.out; have q3 := Below.size h3; omega)).ext h5
    have HN := hide hN
    have H5 := hide (Ext.trans HE1.out (Ext.trans HEx.out (Ext.trans h3 (Ext.trans (Ext.alloc w3 (.cells #[] 55)) h5))))
    clear hN h3 h5
    go_wp2
    go_ret3
    exact ⟨_, [], by rw [Hcc.out, Hpp.out]; rfl, HN.out, Hc1.out.symm, H5.out⟩
  · have HAs := hide (fun t w => as_none t w)
    have HL := hide hL
    have Hm := hide hm
    have Hc1 := hide hc1
    clear hL hm hc1 hE1 HT B0 hgT
    go_wp2_with fail
    refine (HAs.out _ _).mono ?_
    rintro e w2 ⟨rfl, rfl⟩
    go_wp2
    go_ret3
    exact ⟨_, L, by rw [Hc1.out]; rfl, HL.out.ext (Ext.alloc _ _), Hm.out, Ext.trans HE1.out (Ext.alloc _ _)⟩
end

section
set_option linter.unusedVariables false

/-- 65536 to a power. -/
def pw : Nat → Int
  | 0 => 1
  | k + 1 => pw k * 65536

theorem pw_pos (k : Nat) : 0 < pw k := by
  induction k with
  | zero => simp [pw]
  | succ k ih => simp only [pw]; omega

/-- The value of the first n digits. -/
def val (f : Nat → Int) : Nat → Int
  | 0 => 0
  | n + 1 => val f n + f n * pw n

/-- The first n are digits. -/
def Digs (f : Nat → Int) (n : Nat) : Prop := ∀ i, i < n → 0 ≤ f i ∧ f i ≤ 65535

theorem Digs.mono {f : Nat → Int} {n m : Nat} (h : Digs f n) (hm : m ≤ n) : Digs f m := fun i hi => h i (by omega)

theorem Digs.congr {f g : Nat → Int} {n : Nat} (h : Digs f n) (e : ∀ i, i < n → f i = g i) : Digs g n := fun i hi => by rw [← e i hi]; exact h i hi

theorem mul_bd {d P : Int} (hP : 0 ≤ P) (h0 : 0 ≤ d) (h1 : d ≤ 65535) : 0 ≤ d * P ∧ d * P ≤ 65535 * P :=
  ⟨Int.mul_nonneg h0 hP, Int.mul_le_mul_of_nonneg_right h1 hP⟩

theorem val_bd {f : Nat → Int} {n : Nat} (h : Digs f n) : 0 ≤ val f n ∧ val f n < pw n := by
  induction n with
  | zero => simp [val, pw]
  | succ n ih =>
    have h1 := ih (h.mono (by omega))
    have h2 := h n (by omega)
    have h3 := mul_bd (d := f n) (Int.le_of_lt (pw_pos n)) h2.1 h2.2
    simp only [val, pw]
    omega

/-- Digits, the last one not 0. -/
structure Canon (n : Nat) (f : Nat → Int) : Prop where
  digs : Digs f n
  last : n = 0 ∨ f (n - 1) ≠ 0

theorem Canon.congr {f g : Nat → Int} {n : Nat} (h : Canon n f) (e : ∀ i, i < n → f i = g i) : Canon n g :=
  ⟨h.digs.congr e, by
    by_cases h0 : n = 0
    · exact .inl h0
    · exact .inr (by rw [← e (n - 1) (by omega)]; exact h.last.resolve_left h0)⟩

/-- A list without noughts at its end is as long as its value asks. -/
theorem Canon.low {f : Nat → Int} {n : Nat} (h : Canon (n + 1) f) : pw n ≤ val f (n + 1) := by
  have b := val_bd (h.digs.mono (Nat.le_succ n))
  have d := h.digs n (by omega)
  have hl : f n ≠ 0 := by simpa using h.last
  have := Int.mul_le_mul_of_nonneg_right (show (1 : Int) ≤ f n by omega) (Int.le_of_lt (pw_pos n))
  simp only [val]
  omega
end

section
set_option linter.unusedVariables false

open Go.RowKit

/-- The answer (a list of n digits f, ok) is nothing and false, or the natural of that value and true. -/
def IsNat : Option Int → Nat → (Nat → Int) → Bool → Prop
  | none, n, _, ok => n = 0 ∧ ok = false
  | some v, n, f, ok => Canon n f ∧ val f n = v ∧ ok = true

/-- The call hands back that answer, in new memory. -/
def GivesQ (w : World) (q : Option Int) (e : Ending) (w' : World) : Prop :=
  ∃ a g cap n f ok, e = .returned (.tuple #[.slice a n cap, .bool ok]) ∧ n ≤ 1048576 ∧ IsNat q n f ok ∧ w.heap.size ≤ g ∧ Own w' a g 0 n f ∧ Below w.heap.size w w'

theorem GivesQ.none {w w' : World} {q : Option Int} {e : Ending} {a : Option Addr} {cap : Nat} (hq : q = .none) (he : e = .returned (.tuple #[.slice a 0 cap, .bool false])) (hb : Below w.heap.size w w') : GivesQ w q e w' := by
  subst hq
  exact ⟨a, w.heap.size, cap, 0, fun _ => 0, false, he, by omega, ⟨rfl, rfl⟩, Nat.le_refl _, Own.nil _ _ _ _ _, hb⟩
end

section
set_option linter.unusedVariables false

open Go.RowKit

/-- The digit at a place; 0 behind the end. -/
def ext (n : Nat) (f : Nat → Int) (i : Nat) : Int := if i < n then f i else 0
end

section
set_option linter.unusedVariables false

open Go.RowKit

/-- How many bits n digits have. -/
def bitsOf (n : Nat) (f : Nat → Int) : Int := if n = 0 then 0 else 16 * ((n : Int) - 1) + Lib.bitLen (f (n - 1)).toNat
end

section
set_option linter.unusedVariables false

open Go.RowKit

/-- The byte at a place, counted from the low end. -/
def byt (n : Nat) (f : Nat → Int) (i : Nat) : Int := if i % 2 = 0 then ext n f (i / 2) % 256 else ext n f (i / 2) / 256

/-- NatBytes' second answer. -/
def bytB (n : Nat) (f : Nat → Int) (sz : Int) : Bool := natOk n f && (decide (0 ≤ sz) && decide (sz ≤ 128)) && decide (bitsOf n f ≤ 8 * sz)

/-- The call hands back those bytes in new memory, and ok. -/
def GivesB (w : World) (m : Nat) (F : Nat → Int) (ok : Bool) (e : Ending) (w' : World) : Prop :=
  ∃ a g cap, e = .returned (.tuple #[.slice a m cap, .bool ok]) ∧ w.heap.size ≤ g ∧ BOwn w' a g 0 m F ∧ Below w.heap.size w w'

/-- NatBytes' answer. -/
def GivesBytes (w : World) (n : Nat) (f : Nat → Int) (sz : Int) (e : Ending) (w' : World) : Prop :=
  GivesB w (if bytB n f sz then sz.toNat else 0) (fun p => byt n f (sz.toNat - 1 - p)) (bytB n f sz) e w'

theorem GivesBytes.none {w w' : World} {n : Nat} {f : Nat → Int} {sz : Int} {e : Ending} {a : Option Addr} {cap : Nat} (hq : bytB n f sz = false) (he : e = .returned (.tuple #[.slice a 0 cap, .bool false])) (hb : Below w.heap.size w w') : GivesBytes w n f sz e w' := by
  unfold GivesBytes
  rw [hq]
  exact ⟨a, w.heap.size, cap, he, Nat.le_refl _, BOwn.nil _ _ _ _ _, hb⟩
end

section
set_option linter.unusedVariables false
set_option linter.unusedSimpArgs false

open Go.RowKit

theorem map_len {α β : Type} {f : α → β} {L : List α} {M : List β} (h : L.map f = M) : L.length = M.length := by rw [← h, List.length_map]
end

section
set_option linter.unusedVariables false
set_option linter.unusedSimpArgs false

open Go.RowKit

/-- These items tell just that. -/
def SameC (L : List It) (C : List Ic) : Prop := L.map ct = C ∧ ∀ t ∈ L, Nf t

theorem SameC.len {L : List It} {C : List Ic} (h : SameC L C) : L.length = C.length := map_len h.1

theorem SameC.at' {L : List It} {C : List Ic} (h : SameC L C) {i : Nat} (hi : i < C.length) : L.getD i dI ∈ L ∧ ct (L.getD i dI) = C[i] := by
  have hl := h.len
  have e : L.getD i dI = L[i]'(by omega) := by rw [List.getD_eq_getElem?_getD, List.getElem?_eq_getElem (by omega)]; rfl
  refine ⟨by rw [e]; exact List.getElem_mem _, ?_⟩
  rw [e]
  have := congrArg (fun l => l[i]?) h.1
  simp only [List.getElem?_map] at this
  rw [List.getElem?_eq_getElem (by omega), List.getElem?_eq_getElem hi] at this
  simpa using this

theorem LAcc.iow {B : Nat} {W : World} {v : Value} {L : List It} (h : LAcc B W v L) (hs : ∀ t ∈ L, t.len ≤ 9223372036854775807) : ∃ a S cap, v = .slice a L.length cap ∧ IOw B W a S 0 L.length (fun i => L.getD i dI) := by
  have hg : ∀ i, i < L.length → L.getD i dI ∈ L := fun i hi => by
    rw [List.getD_eq_getElem?_getD, List.getElem?_eq_getElem hi]
    exact List.getElem_mem _
  have hp := List.pairwise_iff_getElem.1 h.bods.apart
  have hd : ∀ i (hi : i < L.length), L.getD i dI = L[i] := fun i hi => by rw [List.getD_eq_getElem?_getD, List.getElem?_eq_getElem hi]; rfl
  have hA : IAcc B W v L.length (fun i => L.getD i dI) := by
    refine ⟨by rw [itsW_rowL]; exact h.row, fun i hi => h.bods.own _ (hg i hi), fun i hi h0 => ⟨h.away _ (hg i hi) h0, h.bods.up _ (hg i hi) h0⟩, fun i j hi hj hij h0 h1 => ?_⟩
    simp only [hd i hi, hd j hj] at h0 h1 ⊢
    rcases Nat.lt_or_gt_of_ne hij with c | c
    · exact hp i j hi hj c h0 h1
    · exact fun e => hp j i hj hi c h1 h0 e.symm
  exact hA.iow (fun i hi => hs _ (hg i hi))

/-- Few, and short. -/
def SmC (C : List Ic) : Prop := C.length ≤ 100 ∧ ∀ c ∈ C, c.bd.length ≤ 1000

theorem ct_len (t : It) : (ct t).bd.length = t.len := by simp [ct]

theorem SameC.small {L : List It} {C : List Ic} (h : SameC L C) (hC : SmC C) : (∀ i, i < C.length → (L.getD i dI).len ≤ 1048576) ∧ sumL (fun i => L.getD i dI) C.length ≤ 1048576 := by
  have h1 : ∀ i, i < C.length → (L.getD i dI).len ≤ 1000 := fun i hi => by
    obtain ⟨-, e⟩ := h.at' hi
    rw [← ct_len, e]
    exact hC.2 _ (List.getElem_mem _)
  have h2 : ∀ m, m ≤ C.length → sumL (fun i => L.getD i dI) m ≤ m * 1000 := by
    intro m
    induction m with
    | zero => intro _; exact Nat.le_refl _
    | succ m ih =>
      intro hm
      have := ih (by omega)
      have := h1 m (by omega)
      show sumL _ m + (L.getD m dI).len ≤ _
      omega
  refine ⟨fun i hi => by have := h1 i hi; omega, ?_⟩
  have := h2 C.length (Nat.le_refl _)
  have := hC.1
  omega

theorem ISeg.of_blkK {w w' : World} {a : Option Addr} {b off n : Nat} {x : Nat → It} (h : ISeg w a b off n x) (hb : 0 < n → w'.heap[b]? = w.heap[b]?) (hy : ∀ i, i < n → 0 < (x i).len → w'.heap[(x i).blk]? = w.heap[(x i).blk]?) : ISeg w' a b off n x :=
  ⟨h.at', fun i hi => (World.cell?_of_block (a := ⟨b, off + i * 3, none⟩) (hb (by omega))).trans (h.c0 i hi), fun i hi => (World.cell?_of_block (a := ⟨b, off + i * 3 + 1, none⟩) (hb (by omega))).trans (h.c1 i hi), fun i hi => (World.cell?_of_block (a := ⟨b, off + i * 3 + 2, none⟩) (hb (by omega))).trans (h.c2 i hi),
   fun i hi => ⟨(h.body i hi).at', fun j hj => (World.cell?_of_block (a := ⟨(x i).blk, (x i).off + j, none⟩) (hy i hi (by omega))).trans ((h.body i hi).cell j hj)⟩, h.small⟩

theorem IOw.of_blkK {B : Nat} {w w' : World} {a : Option Addr} {S off n : Nat} {x : Nat → It} (h : IOw B w a S off n x) (hb : 0 < n → w'.heap[S]? = w.heap[S]?) (hy : ∀ i, i < n → 0 < (x i).len → w'.heap[(x i).blk]? = w.heap[(x i).blk]?) : IOw B w' a S off n x :=
  ⟨h.toISeg.of_blkK hb hy, fun o h1 h2 => (World.frozen?_of_block (a := ⟨S, o, none⟩) (hb (by omega))).trans (h.fz o h1 h2), fun j hj m hm => (World.frozen?_of_block (a := ⟨(x j).blk, (x j).off + m, none⟩) (hy j hj (by omega))).trans (h.free j hj m hm), h.away, h.apart, h.rowB⟩

/-- A list of items as it lies below B. -/
structure ILw (B : Nat) (w : World) (a : Option Addr) (S n : Nat) (x : Nat → It) : Prop extends ISeg w a S 0 n x where
  rowL : 0 < n → S < B
  bodL : ∀ i, i < n → 0 < (x i).len → (x i).blk < B

theorem ILw.keep {B : Nat} {w w' : World} {a : Option Addr} {S n : Nat} {x : Nat → It} (h : ILw B w a S n x) (e : ∀ q, q < B → w'.heap[q]? = w.heap[q]?) : ILw B w' a S n x :=
  ⟨h.toISeg.of_blkK (fun h0 => e _ (h.rowL h0)) (fun i hi h0 => e _ (h.bodL i hi h0)), h.rowL, h.bodL⟩

theorem ILw.below {B B' : Nat} {w w' : World} {a : Option Addr} {S n : Nat} {x : Nat → It} (h : ILw B w a S n x) (e : Below B' w w') (hB : B ≤ B') : ILw B w' a S n x := h.keep (fun q hq => Below.block e q (by omega))
end

end Go.Proofs.YtmcdikbcmikihaaDoor
