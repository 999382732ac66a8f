/- Plain notions for walks over strings: the byte at a place, what a round of a range over a string comes to, lists of strings of the call's own. Lists of strings in memory; the laws' own helpers over them; a list of strings that came in, opened. Structs by the lists of their cells: loads and stores of whole ones; what stays as it was while a struct is made. -/
import Derived.Lib.OthersKept
import Derived.Laws.DeepStrings4
import Derived.Laws.IdiomStrings
import Derived.Maps.AppendAt
import Derived.Test.YtmcdikbcmikihaaDoorDz03
import Derived.Test.YtmcdikbcmikihaaDoorDz06
import Derived.Test.YtmcdikbcmikihaaDoorRows
import Derived.SliceStrings
import Derived.WalkKit
import Derived.ProofKit
import Derived.OpenShut
import Derived.ChangeOld
import Derived.Below
import Derived.Test.YtmcdikbcmikihaaDoorDz01
import Derived.Test.YtmcdikbcmikihaaDoorDz02
namespace Go.Proofs.YtmcdikbcmikihaaDoor

section
set_option linter.unusedVariables false
set_option linter.unusedSimpArgs false

open Go.RowKit

/-- The byte at a place. -/
def bt (s : ByteArray) (i : Nat) : Nat := (s.get! i).toNat

/-- What a round of a range over s at place p comes to: the rune r, q bytes wide. -/
structure Rn (s : ByteArray) (p r q : Nat) : Prop where
  dec : Utf8.decode s p = (r, q)
  le : r ≤ 2147483647
  pos : 1 ≤ q
  fits : p + q ≤ s.size
  low : r < 128 → q = 1 ∧ r = bt s p
  high : 128 ≤ r → ∀ j, p ≤ j → j < p + q → 128 ≤ bt s j

theorem Rn.next {P : Program} {s : ByteArray} {p r q : Nat} (h : Rn s p r q) {w : World} {k : Nat} (hk : w.heap[k]? = some (.stringIter s p)) (hp : p < s.size) (ty : TypeId) :
    (Instr.next (.pointer (some ⟨k, 0, none⟩)) true ty).run P w = .ok (.tuple #[.bool true, .int .i64 (p : Int), .int .i32 (r : Int)]) (w.iterAt k s (p + q)) := by
  rw [Lib.run_next_any_at w k s p ty hk hp, h.dec]

/-- A world in which an iterator at block k, of the call's own, stands at place p. -/
structure Itr (w wr : World) (k : Nat) (s : ByteArray) (p : Nat) : Prop where
  blk : wr.heap[k]? = some (.stringIter s p)
  ge : w.heap.size ≤ k
  ext : Ext w wr

theorem Itr.step {w wr : World} {k : Nat} {s : ByteArray} {p : Nat} (h : Itr w wr k s p) (p' : Nat) : Itr w (wr.iterAt k s p') k s p' :=
  ⟨Lib.iterAt_heap wr k s p p' h.blk, h.ge, Lib.below_iterAt h.ext h.ge s p'⟩

theorem Itr.pos {w wr : World} {k : Nat} {s : ByteArray} {p : Nat} (h : Itr w wr k s p) : wr.iterPos k = p := iterPos_of h.blk

/-- What an append to a row of one's own leaves of an iterator. -/
theorem Itr.grown {w wr w1 : World} {k : Nat} {s : ByteArray} {p : Nat} (h : Itr w wr k s p) {B e size n : Nat} {v : Value} {xs : List Value} (ho : wr.ownsRow B e size v n xs) (hB : w.heap.size ≤ B) {o : Obj} (hg : (wr.alloc o).grownBy w1 v.ownBlock) : Itr w w1 k s p := by
  have hlt : k < wr.heap.size := (Array.getElem?_eq_some_iff.1 h.blk).1
  refine ⟨?_, h.ge, ?_⟩
  · rw [hg.block k (by simp; omega) ?_]
    · show (wr.heap.push o)[k]? = _
      rw [Array.getElem?_push_lt hlt, ← h.blk, Array.getElem?_eq_getElem hlt]
    · rcases ho.2 with ⟨rfl, _⟩ | ⟨g, cap, cur, rfl, hb, hg', rest⟩
      · simp [Value.ownBlock]
      · intro e
        simp only [Value.ownBlock, Option.some.injEq] at e
        subst e
        rw [h.blk] at hg'
        cases hg'
  · exact (Below.alloc h.ext (Below.size h.ext) o).grown hg (by have := Below.size h.ext; simp; omega) (fun j hj => by have := (ho.lt j hj).1; omega)
end

section
set_option linter.unusedVariables false
set_option linter.unusedSimpArgs false
set_option maxRecDepth 100000

open Go.RowKit

/-- A list of strings in memory. -/
structure SSeg (w : World) (a : Option Addr) (b off n : Nat) (f : Nat → ByteArray) : Prop where
  at' : 0 < n → a = some ⟨b, off, none⟩
  cell : ∀ i, i < n → w.cell? ⟨b, off + i, none⟩ = some (.string (f i))

theorem SSeg.lt {w : World} {a : Option Addr} {b off n : Nat} {f : Nat → ByteArray} (h : SSeg w a b off n f) (hn : 0 < n) : b < w.heap.size := World.block_lt_of_cell? _ _ (h.cell 0 hn)

theorem SSeg.of_all {w w' : World} {a : Option Addr} {b off n : Nat} {f : Nat → ByteArray} (h : SSeg w a b off n f) (e : Ext w w') : SSeg w' a b off n f :=
  ⟨h.at', fun i hi => (Below.cell e (p := ⟨b, off + i, none⟩) (h.lt (by omega))).trans (h.cell i hi)⟩

section

open Go.ChangeShapes Go.WideShapes Go.ChangeAt

variable {H : Type} {enc : TypeId × Value → H} {w : World} {base : Nat} {held : Bool}

end
end

section
set_option linter.unusedVariables false
set_option linter.unusedSimpArgs false
set_option maxRecDepth 100000

open Go.RowKit

theorem wpList_ld {P : Program} {w : World} {ops : Array Oper} {rest : List Oper} {o : Oper} {a : Act} {Q : Exit → Act → World → Prop} (hw : Region.wanted o (yielded ops a.tmps) = true) (ty : TypeId) (x : Operand) (ho : o.op = .load ty x) (p : Addr) (hp : a.eval x = .pointer (some p)) (v : Value) (hl : (loadVar ty p).run P w = .ok v w)
    (h : wpList P ops Q rest (a.put o.dst v) w) : wpList P ops Q (o :: rest) a w := by
  rw [wpList]
  simp only [hw, if_true]
  refine Or.inl ?_
  unfold Oper.wp execOp
  simp only [ho, hp, Instr.loadAt, Instr.sureAddr, Sem.run_bind, Sem.run_pure, Result.andThen_ok, hl]
  exact h

theorem wpList_st {P : Program} {w : World} {ops : Array Oper} {rest : List Oper} {o : Oper} {a : Act} {Q : Exit → Act → World → Prop} (hw : Region.wanted o (yielded ops a.tmps) = true) (ty : TypeId) (x y : Operand) (ho : o.op = .store ty x y) (vx : Value) (hx : a.eval x = vx) (vy : Value) (hy : a.eval y = vy) (w2 : World) (hl : (Instr.storeAt ty vx vy).run P w = .ok () w2)
    (h : wpList P ops Q rest (a.put o.dst undef) w2) : wpList P ops Q (o :: rest) a w := by
  rw [wpList]
  simp only [hw, if_true]
  refine Or.inl ?_
  unfold Oper.wp execOp
  simp only [ho, hx, hy, Sem.run_bind, Sem.run_pure, Result.andThen_ok, hl]
  exact h

theorem add_off (b o j : Nat) : (⟨b, o, none⟩ : Addr).add j = ⟨b, o + j, none⟩ := by
  unfold Addr.add
  split <;> simp_all

/-- A struct is loaded as a whole. -/
theorem run_ld {P : Program} (ty : TypeId) (cs : List Value) (w : World) (hs : (Go.sizeOf ty).run P w = .ok cs.length w) (ha : (isAgg ty).run P w = .ok true w) (b o : Nat) (hc : ∀ j v, cs[j]? = some v → w.cell? ⟨b, o + j, none⟩ = some v) :
    (loadVar ty ⟨b, o, none⟩).run P w = .ok (.agg cs.toArray) w := by
  have hld := run_loadCells_list (P := P) w ⟨b, o, none⟩ cs (fun j v h => by
    have := hc j v h
    rwa [add_off])
  simp only [loadVar, Sem.run_bind, ha, Result.andThen_ok, if_true, hs, hld, Sem.run_pure]

theorem setCells_putS (b : Nat) : ∀ (vs : List Value) (o : Nat) (w : World), w.setCells b o vs = putL b o vs w
  | [], _, _ => rfl
  | v :: vs, o, w => by rw [World.setCells, putL, setCells_putS b vs]

/-- A struct is stored as a whole. -/
theorem run_st {P : Program} (ty : TypeId) (cs : List Value) (w : World) (hs : (Go.sizeOf ty).run P w = .ok cs.length w) (h1 : ∀ v ∈ cs, v.oneCell' = true) (b o : Nat) (hc : ∀ j, j < cs.length → (∃ v, w.cell? ⟨b, o + j, none⟩ = some v) ∧ w.frozen? ⟨b, o + j, none⟩ = false) :
    (Instr.storeAt ty (.pointer (some ⟨b, o, none⟩)) (.agg cs.toArray)).run P w = .ok () (putL b o cs w) := by
  have hst := run_storeCells_cells (P := P) b o cs 0 w (fun j hj => by
    obtain ⟨v, h⟩ := (hc j hj).1
    simp [h]) (fun j hj => by simpa using (hc j hj).2) h1
  simp only [Instr.storeAt, Instr.sureAddr, storeVar, Sem.run_bind, Sem.run_pure, Result.andThen_ok, hs, Value.cells]
  rw [setCells_putS] at hst
  simp [hst]

theorem Blk.ld {w : World} {b : Nat} {vs : List Value} (h : Blk w b vs) (o : Nat) (cs : List Value) (hc : ∀ j v, cs[j]? = some v → vs[o + j]? = some v) : ∀ j v, cs[j]? = some v → w.cell? ⟨b, o + j, none⟩ = some v := fun j v hj => (h _ v (hc j v hj)).1

theorem Blk.st {w : World} {b : Nat} {vs : List Value} (h : Blk w b vs) (o n : Nat) (hn : o + n ≤ vs.length) : ∀ j, j < n → (∃ v, w.cell? ⟨b, o + j, none⟩ = some v) ∧ w.frozen? ⟨b, o + j, none⟩ = false := fun j hj => by
  have e : vs[o + j]? = some (vs[o + j]'(by omega)) := List.getElem?_eq_getElem (by omega)
  exact ⟨⟨_, (h _ _ e).1⟩, (h _ _ e).2⟩

theorem cell_putL_out (C : Nat) (q : Addr) : ∀ (vs : List Value) (i : Nat) (w : World), (q.block = C → i + vs.length ≤ q.off) → (putL C i vs w).cell? q = w.cell? q
  | [], _, _, _ => rfl
  | v :: vs, i, w, h => by
    rw [putL, cell_putL_out C q vs (i + 1) _ (fun e => by have := h e; simp at this; omega)]
    refine World.cell?_setCell_other _ _ _ _ ?_
    rintro rfl
    have := h rfl
    simp at this
    omega

/-- Some places of a list, written anew. -/
def putAt (lo : List Value) (i : Nat) (vs : List Value) : List Value := lo.take i ++ (vs ++ lo.drop (i + vs.length))

theorem Blk.putAt {w : World} {C : Nat} {lo : List Value} (h : Blk w C lo) (i : Nat) (vs : List Value) (hl : i + vs.length ≤ lo.length) : Blk (putL C i vs w) C (putAt lo i vs) := fun j v hj => by
  have hlen : (lo.take i).length = i := by rw [List.length_take]; omega
  unfold Go.Proofs.YtmcdikbcmikihaaDoor.putAt at hj
  by_cases h1 : j < i
  · rw [List.getElem?_append_left (by omega), List.getElem?_take_of_lt h1] at hj
    refine ⟨(cell_putL_other C ⟨C, j, none⟩ vs i w (fun _ => h1)).trans (h j v hj).1, by rw [frozen_putL]; exact (h j v hj).2⟩
  · rw [List.getElem?_append_right (by omega), hlen] at hj
    by_cases h2 : j - i < vs.length
    · rw [List.getElem?_append_left h2] at hj
      have := cell_putL C vs i w (fun k hk => by
        rw [(h (i + k) _ (List.getElem?_eq_getElem (by omega))).1]
        rfl) (j - i) v hj
      rw [show i + (j - i) = j by omega] at this
      exact ⟨this, by rw [frozen_putL]; exact (h j _ (List.getElem?_eq_getElem (by omega))).2⟩
    · rw [List.getElem?_append_right (by omega), List.getElem?_drop, show i + vs.length + (j - i - vs.length) = j by omega] at hj
      exact ⟨(cell_putL_out C ⟨C, j, none⟩ vs i w (fun _ => by show _ ≤ j; omega)).trans (h j v hj).1, by rw [frozen_putL]; exact (h j v hj).2⟩

theorem Blk.lt {w : World} {C : Nat} {vs : List Value} (h : Blk w C vs) (hn : 0 < vs.length) : C < w.heap.size := World.block_lt_of_cell? _ _ (h 0 _ (List.getElem?_eq_getElem hn)).1

theorem Blk.set1 {w : World} {C : Nat} {vs : List Value} (h : Blk w C vs) (i : Nat) (v : Value) (hi : i < vs.length) : Blk (w.setCell ⟨C, i, none⟩ v) C (vs.set i v) := fun j u hj => by
  by_cases e : j = i
  · subst e
    rw [List.getElem?_set_self hi] at hj
    simp only [Option.some.injEq] at hj
    subst hj
    obtain ⟨y, hy⟩ : ∃ y, vs[j]? = some y := ⟨_, List.getElem?_eq_getElem hi⟩
    exact ⟨World.cell?_setCell_same _ _ _ (h j y hy).1, by rw [World.frozen?_setCell]; exact (h j y hy).2⟩
  · rw [List.getElem?_set_ne (fun h => e h.symm)] at hj
    refine ⟨?_, by rw [World.frozen?_setCell]; exact (h j u hj).2⟩
    rw [World.cell?_setCell_other _ _ _ _ (fun k => e (by have := congrArg Addr.off k; simp at this; omega))]
    exact (h j u hj).1

theorem Blk.apart1 {w : World} {C D i : Nat} {vs : List Value} (h : Blk w C vs) (v : Value) (hn : C ≠ D) : Blk (w.setCell ⟨D, i, none⟩ v) C vs := fun j u hj => by
  have hb : (w.setCell ⟨D, i, none⟩ v).heap[C]? = w.heap[C]? := Below.heap_setCell _ _ _ _ hn
  exact ⟨(World.cell?_of_block (a := ⟨C, j, none⟩) hb).trans (h j u hj).1, (World.frozen?_of_block (a := ⟨C, j, none⟩) hb).trans (h j u hj).2⟩

/-- Blocks from N on are as they were. -/
def Kp (N : Nat) (w w' : World) : Prop := w.heap.size ≤ w'.heap.size ∧ ∀ k, N ≤ k → k < w.heap.size → w'.heap[k]? = w.heap[k]?

theorem Kp.refl (N : Nat) (w : World) : Kp N w w := ⟨Nat.le_refl _, fun _ _ _ => rfl⟩

theorem Kp.trans {N : Nat} {a b c : World} (h : Kp N a b) (k : Kp N b c) : Kp N a c := ⟨Nat.le_trans h.1 k.1, fun i hi hl => (k.2 i hi (Nat.lt_of_lt_of_le hl h.1)).trans (h.2 i hi hl)⟩

theorem Kp.ext {N : Nat} {a b : World} (h : Ext a b) : Kp N a b := ⟨Below.size h, fun k _ hl => Below.block h k hl⟩

theorem Kp.mono {N M : Nat} {a b : World} (h : Kp N a b) (hM : N ≤ M) : Kp M a b := ⟨h.1, fun k hk hl => h.2 k (Nat.le_trans hM hk) hl⟩

theorem Kp.set {N C : Nat} (hC : C < N) (i : Nat) (v : Value) (w : World) : Kp N w (w.setCell ⟨C, i, none⟩ v) := ⟨by simp [World.setCell], fun k hk _ => Below.heap_setCell _ _ _ _ (by show k ≠ C; omega)⟩

theorem Kp.putL {N C : Nat} (hC : C < N) : ∀ (vs : List Value) (i : Nat) (w : World), Kp N w (putL C i vs w)
  | [], _, _ => Kp.refl _ _
  | v :: vs, i, w => (Kp.set hC i v w).trans (Kp.putL hC vs (i + 1) _)

/-- In the midst of making a struct: what came in, the answer's place, the struct made so far. -/
structure Mkg (w wr : World) (la ld lo : List Value) : Prop where
  ext : Ext w wr
  a : Blk wr w.heap.size la
  d : Blk wr (w.heap.size + 1) ld
  o : Blk wr (w.heap.size + 1 + 1) lo
  lt : w.heap.size + 1 + 1 < wr.heap.size

theorem Mkg.later {w wr wr' : World} {la ld lo : List Value} (h : Mkg w wr la ld lo) (e : Ext wr wr') : Mkg w wr' la ld lo :=
  ⟨h.ext.trans e, h.a.ext e (by have := h.lt; omega), h.d.ext e (by have := h.lt; omega), h.o.ext e h.lt, Nat.lt_of_lt_of_le h.lt (Below.size e)⟩

theorem Mkg.set {w wr : World} {la ld lo : List Value} (h : Mkg w wr la ld lo) (i : Nat) (v : Value) (hi : i < lo.length) : Mkg w (wr.setCell ⟨w.heap.size + 1 + 1, i, none⟩ v) la ld (lo.set i v) :=
  ⟨Below.setCell h.ext (p := ⟨w.heap.size + 1 + 1, i, none⟩) (Nat.le_succ_of_le (Nat.le_succ _)) _, h.a.apart1 _ (by omega), h.d.apart1 _ (by omega), h.o.set1 i v hi, by simp [World.setCell]; exact h.lt⟩

theorem Mkg.put {w wr : World} {la ld lo : List Value} (h : Mkg w wr la ld lo) (i : Nat) (vs : List Value) (hi : i + vs.length ≤ lo.length) : Mkg w (putL (w.heap.size + 1 + 1) i vs wr) la ld (putAt lo i vs) := by
  refine ⟨below_putL (Nat.le_succ_of_le (Nat.le_succ _)) vs i wr h.ext, fun j v hj => ?_, fun j v hj => ?_, h.o.putAt i vs hi, by rw [size_putL]; exact h.lt⟩
  · exact ⟨(cell_putL_other _ ⟨w.heap.size, j, none⟩ vs i wr (fun e => by simp at e; omega)).trans (h.a j v hj).1, by rw [frozen_putL]; exact (h.a j v hj).2⟩
  · exact ⟨(cell_putL_other _ ⟨w.heap.size + 1, j, none⟩ vs i wr (fun e => by simp at e)).trans (h.d j v hj).1, by rw [frozen_putL]; exact (h.d j v hj).2⟩

/-- A result that lies in a block is read there as a whole. -/
theorem results_at {P : Program} {fn : Func} {a : Nat} {T : TypeId} (hf : fn.results = #[.cell a T]) {tmps : Array Value} {q : Addr} {v : Value} {W : World} (ht : tmps.getD a undef = .pointer (some q)) (hl : (loadVar T q).run P W = .ok v W) : (results fn tmps).run P W = .ok v W := by
  have ht' : tmps[a]?.getD undef = .pointer (some q) := by simpa using ht
  simp [results, hf, ht', asAddr, hl]

theorem Blk.putAll1 {w : World} {C : Nat} {us vs : List Value} (h : Blk w C us) (hl : us.length = vs.length) : Blk (putL C 0 vs w) C vs := fun j v hj => by
  have hi := (List.getElem?_eq_some_iff.1 hj).1
  have := cell_putL C vs 0 w (fun k hk => by
    obtain ⟨y, hy⟩ : ∃ y, us[k]? = some y := ⟨_, List.getElem?_eq_getElem (by omega)⟩
    rw [Nat.zero_add, (h k y hy).1]
    rfl) j v hj
  rw [Nat.zero_add] at this
  obtain ⟨y, hy⟩ : ∃ y, us[j]? = some y := ⟨_, List.getElem?_eq_getElem (by omega)⟩
  exact ⟨this, by rw [frozen_putL]; exact (h j y hy).2⟩
end

end Go.Proofs.YtmcdikbcmikihaaDoor
