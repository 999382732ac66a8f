/- Structs by the lists of their cells: loads and stores of whole ones; what stays as it was while a struct is made. -/
import Derived.Test.YtfhiiakoilkbkaaGreatDoorCv02
namespace Go.Proofs.YtfhiiakoilkbkaaGreatDoor
set_option linter.unusedVariables false
set_option linter.unusedSimpArgs false
set_option maxRecDepth 100000
open Go.RowKit
theorem wpList_ld {P : Program} {w : World} {ops : Array Oper} {rest : List Oper} {o : Oper} {a : Act} {Q : Exit → Act → World → Prop} (hw : Region.wanted o (yielded ops a.tmps) = true) (ty : TypeId) (x : Operand) (ho : o.op = .load ty x) (p : Addr) (hp : a.eval x = .pointer (some p)) (v : Value) (hl : (loadVar ty p).run P w = .ok v w)
  (h : wpList P ops Q rest (a.put o.dst v) w) : wpList P ops Q (o :: rest) a w := by
 rw [wpList]
 simp only [hw, if_true]
 refine Or.inl ?_
 unfold Oper.wp execOp
 simp only [ho, hp, Instr.loadAt, Instr.sureAddr, Sem.run_bind, Sem.run_pure, Result.andThen_ok, hl]
 exact h
theorem wpList_st {P : Program} {w : World} {ops : Array Oper} {rest : List Oper} {o : Oper} {a : Act} {Q : Exit → Act → World → Prop} (hw : Region.wanted o (yielded ops a.tmps) = true) (ty : TypeId) (x y : Operand) (ho : o.op = .store ty x y) (vx : Value) (hx : a.eval x = vx) (vy : Value) (hy : a.eval y = vy) (w2 : World) (hl : (Instr.storeAt ty vx vy).run P w = .ok () w2)
  (h : wpList P ops Q rest (a.put o.dst undef) w2) : wpList P ops Q (o :: rest) a w := by
 rw [wpList]
 simp only [hw, if_true]
 refine Or.inl ?_
 unfold Oper.wp execOp
 simp only [ho, hx, hy, Sem.run_bind, Sem.run_pure, Result.andThen_ok, hl]
 exact h
theorem add_off (b o j : Nat) : (⟨b, o, none⟩ : Addr).add j = ⟨b, o + j, none⟩ := by
 unfold Addr.add
 split <;> simp_all
theorem run_ld {P : Program} (ty : TypeId) (cs : List Value) (w : World) (hs : (Go.sizeOf ty).run P w = .ok cs.length w) (ha : (isAgg ty).run P w = .ok true w) (b o : Nat) (hc : ∀ j v, cs[j]? = some v → w.cell? ⟨b, o + j, none⟩ = some v) :
  (loadVar ty ⟨b, o, none⟩).run P w = .ok (.agg cs.toArray) w := by
 have hld := run_loadCells_list (P := P) w ⟨b, o, none⟩ cs (fun j v h => by
  have := hc j v h
  rwa [add_off])
 simp only [loadVar, Sem.run_bind, ha, Result.andThen_ok, if_true, hs, hld, Sem.run_pure]
theorem setCells_putS (b : Nat) : ∀ (vs : List Value) (o : Nat) (w : World), w.setCells b o vs = putL b o vs w
 | [], _, _ => rfl
 | v :: vs, o, w => by rw [World.setCells, putL, setCells_putS b vs]
theorem run_st {P : Program} (ty : TypeId) (cs : List Value) (w : World) (hs : (Go.sizeOf ty).run P w = .ok cs.length w) (h1 : ∀ v ∈ cs, v.oneCell' = true) (b o : Nat) (hc : ∀ j, j < cs.length → (∃ v, w.cell? ⟨b, o + j, none⟩ = some v) ∧ w.frozen? ⟨b, o + j, none⟩ = false) :
  (Instr.storeAt ty (.pointer (some ⟨b, o, none⟩)) (.agg cs.toArray)).run P w = .ok () (putL b o cs w) := by
 have hst := run_storeCells_cells (P := P) b o cs 0 w (fun j hj => by
  obtain ⟨v, h⟩ := (hc j hj).1
  simp [h]) (fun j hj => by simpa using (hc j hj).2) h1
 simp only [Instr.storeAt, Instr.sureAddr, storeVar, Sem.run_bind, Sem.run_pure, Result.andThen_ok, hs, Value.cells]
 rw [setCells_putS] at hst
 simp [hst]
theorem Blk.ld {w : World} {b : Nat} {vs : List Value} (h : Blk w b vs) (o : Nat) (cs : List Value) (hc : ∀ j v, cs[j]? = some v → vs[o + j]? = some v) : ∀ j v, cs[j]? = some v → w.cell? ⟨b, o + j, none⟩ = some v := fun j v hj => (h _ v (hc j v hj)).1
theorem Blk.st {w : World} {b : Nat} {vs : List Value} (h : Blk w b vs) (o n : Nat) (hn : o + n ≤ vs.length) : ∀ j, j < n → (∃ v, w.cell? ⟨b, o + j, none⟩ = some v) ∧ w.frozen? ⟨b, o + j, none⟩ = false := fun j hj => by
 have e : vs[o + j]? = some (vs[o + j]'(by omega)) := List.getElem?_eq_getElem (by omega)
 exact ⟨⟨_, (h _ _ e).1⟩, (h _ _ e).2⟩
theorem cell_putL_out (C : Nat) (q : Addr) : ∀ (vs : List Value) (i : Nat) (w : World), (q.block = C → i + vs.length ≤ q.off) → (putL C i vs w).cell? q = w.cell? q
 | [], _, _, _ => rfl
 | v :: vs, i, w, h => by
  rw [putL, cell_putL_out C q vs (i + 1) _ (fun e => by have := h e; simp at this; omega)]
  refine World.cell?_setCell_other _ _ _ _ ?_
  rintro rfl
  have := h rfl
  simp at this
  omega
def putAt (lo : List Value) (i : Nat) (vs : List Value) : List Value := lo.take i ++ (vs ++ lo.drop (i + vs.length))
theorem Blk.putAt {w : World} {C : Nat} {lo : List Value} (h : Blk w C lo) (i : Nat) (vs : List Value) (hl : i + vs.length ≤ lo.length) : Blk (putL C i vs w) C (putAt lo i vs) := fun j v hj => by
 have hlen : (lo.take i).length = i := by rw [List.length_take]; omega
 unfold Go.Proofs.YtfhiiakoilkbkaaGreatDoor.putAt at hj
 by_cases h1 : j < i
 ·rw [List.getElem?_append_left (by omega), List.getElem?_take_of_lt h1] at hj
  refine ⟨(cell_putL_other C ⟨C, j, none⟩ vs i w (fun _ => h1)).trans (h j v hj).1, by rw [frozen_putL]; exact (h j v hj).2⟩
 ·rw [List.getElem?_append_right (by omega), hlen] at hj
  by_cases h2 : j - i < vs.length
  ·rw [List.getElem?_append_left h2] at hj
   have := cell_putL C vs i w (fun k hk => by
    rw [(h (i + k) _ (List.getElem?_eq_getElem (by omega))).1]
    rfl) (j - i) v hj
   rw [show i + (j - i) = j by omega] at this
   exact ⟨this, by rw [frozen_putL]; exact (h j _ (List.getElem?_eq_getElem (by omega))).2⟩
  ·rw [List.getElem?_append_right (by omega), List.getElem?_drop, show i + vs.length + (j - i - vs.length) = j by omega] at hj
   exact ⟨(cell_putL_out C ⟨C, j, none⟩ vs i w (fun _ => by show _ ≤ j; omega)).trans (h j v hj).1, by rw [frozen_putL]; exact (h j v hj).2⟩
theorem Blk.lt {w : World} {C : Nat} {vs : List Value} (h : Blk w C vs) (hn : 0 < vs.length) : C < w.heap.size := World.block_lt_of_cell? _ _ (h 0 _ (List.getElem?_eq_getElem hn)).1
theorem Blk.set1 {w : World} {C : Nat} {vs : List Value} (h : Blk w C vs) (i : Nat) (v : Value) (hi : i < vs.length) : Blk (w.setCell ⟨C, i, none⟩ v) C (vs.set i v) := fun j u hj => by
 by_cases e : j = i
 ·subst e
  rw [List.getElem?_set_self hi] at hj
  simp only [Option.some.injEq] at hj
  subst hj
  obtain ⟨y, hy⟩ : ∃ y, vs[j]? = some y := ⟨_, List.getElem?_eq_getElem hi⟩
  exact ⟨World.cell?_setCell_same _ _ _ (h j y hy).1, by rw [World.frozen?_setCell]; exact (h j y hy).2⟩
 ·rw [List.getElem?_set_ne (fun h => e h.symm)] at hj
  refine ⟨?_, by rw [World.frozen?_setCell]; exact (h j u hj).2⟩
  rw [World.cell?_setCell_other _ _ _ _ (fun k => e (by have := congrArg Addr.off k; simp at this; omega))]
  exact (h j u hj).1
theorem Blk.apart1 {w : World} {C D i : Nat} {vs : List Value} (h : Blk w C vs) (v : Value) (hn : C ≠ D) : Blk (w.setCell ⟨D, i, none⟩ v) C vs := fun j u hj => by
 have hb : (w.setCell ⟨D, i, none⟩ v).heap[C]? = w.heap[C]? := Below.heap_setCell _ _ _ _ hn
 exact ⟨(World.cell?_of_block (a := ⟨C, j, none⟩) hb).trans (h j u hj).1, (World.frozen?_of_block (a := ⟨C, j, none⟩) hb).trans (h j u hj).2⟩
def Kp (N : Nat) (w w' : World) : Prop := w.heap.size ≤ w'.heap.size ∧ ∀ k, N ≤ k → k < w.heap.size → w'.heap[k]? = w.heap[k]?
theorem Kp.refl (N : Nat) (w : World) : Kp N w w := ⟨Nat.le_refl _, fun _ _ _ => rfl⟩
theorem Kp.trans {N : Nat} {a b c : World} (h : Kp N a b) (k : Kp N b c) : Kp N a c := ⟨Nat.le_trans h.1 k.1, fun i hi hl => (k.2 i hi (Nat.lt_of_lt_of_le hl h.1)).trans (h.2 i hi hl)⟩
theorem Kp.ext {N : Nat} {a b : World} (h : Ext a b) : Kp N a b := ⟨Below.size h, fun k _ hl => Below.block h k hl⟩
theorem Kp.mono {N M : Nat} {a b : World} (h : Kp N a b) (hM : N ≤ M) : Kp M a b := ⟨h.1, fun k hk hl => h.2 k (Nat.le_trans hM hk) hl⟩
theorem Kp.set {N C : Nat} (hC : C < N) (i : Nat) (v : Value) (w : World) : Kp N w (w.setCell ⟨C, i, none⟩ v) := ⟨by simp [World.setCell], fun k hk _ => Below.heap_setCell _ _ _ _ (by show k ≠ C; omega)⟩
theorem Kp.putL {N C : Nat} (hC : C < N) : ∀ (vs : List Value) (i : Nat) (w : World), Kp N w (putL C i vs w)
 | [], _, _ => Kp.refl _ _
 | v :: vs, i, w => (Kp.set hC i v w).trans (Kp.putL hC vs (i + 1) _)
theorem SSeg.kp {N : Nat} {w w' : World} {a : Option Addr} {b off n : Nat} {f : Nat → ByteArray} (h : SSeg w a b off n f) (hb : N ≤ b) (k : Kp N w w') : SSeg w' a b off n f :=
 ⟨h.at', fun i hi => (World.cell?_of_block (a := ⟨b, off + i, none⟩) (k.2 b hb (h.lt (by omega)))).trans (h.cell i hi)⟩
theorem Seg.kp {N : Nat} {w w' : World} {a : Option Addr} {b off n : Nat} {f : Nat → Int} (h : Seg w a b off n f) (hb : N ≤ b) (k : Kp N w w') : Seg w' a b off n f :=
 ⟨h.at', fun i hi => (World.cell?_of_block (a := ⟨b, off + i, none⟩) (k.2 b hb (h.lt (by omega)))).trans (h.cell i hi)⟩
structure Mkg (w wr : World) (la ld lo : List Value) : Prop where
 ext : Ext w wr
 a : Blk wr w.heap.size la
 d : Blk wr (w.heap.size + 1) ld
 o : Blk wr (w.heap.size + 1 + 1) lo
 lt : w.heap.size + 1 + 1 < wr.heap.size
theorem Mkg.later {w wr wr' : World} {la ld lo : List Value} (h : Mkg w wr la ld lo) (e : Ext wr wr') : Mkg w wr' la ld lo :=
 ⟨h.ext.trans e, h.a.ext e (by have := h.lt; omega), h.d.ext e (by have := h.lt; omega), h.o.ext e h.lt, Nat.lt_of_lt_of_le h.lt (Below.size e)⟩
theorem Mkg.set {w wr : World} {la ld lo : List Value} (h : Mkg w wr la ld lo) (i : Nat) (v : Value) (hi : i < lo.length) : Mkg w (wr.setCell ⟨w.heap.size + 1 + 1, i, none⟩ v) la ld (lo.set i v) :=
 ⟨Below.setCell h.ext (p := ⟨w.heap.size + 1 + 1, i, none⟩) (Nat.le_succ_of_le (Nat.le_succ _)) _, h.a.apart1 _ (by omega), h.d.apart1 _ (by omega), h.o.set1 i v hi, by simp [World.setCell]; exact h.lt⟩
theorem Mkg.put {w wr : World} {la ld lo : List Value} (h : Mkg w wr la ld lo) (i : Nat) (vs : List Value) (hi : i + vs.length ≤ lo.length) : Mkg w (putL (w.heap.size + 1 + 1) i vs wr) la ld (putAt lo i vs) := by
 refine ⟨below_putL (Nat.le_succ_of_le (Nat.le_succ _)) vs i wr h.ext, fun j v hj => ?_, fun j v hj => ?_, h.o.putAt i vs hi, by rw [size_putL]; exact h.lt⟩
 ·exact ⟨(cell_putL_other _ ⟨w.heap.size, j, none⟩ vs i wr (fun e => by simp at e; omega)).trans (h.a j v hj).1, by rw [frozen_putL]; exact (h.a j v hj).2⟩
 ·exact ⟨(cell_putL_other _ ⟨w.heap.size + 1, j, none⟩ vs i wr (fun e => by simp at e)).trans (h.d j v hj).1, by rw [frozen_putL]; exact (h.d j v hj).2⟩
theorem mkg_start (w : World) (la ld lo : List Value) (t1 t2 t3 : TypeId) {V : World} (hV : ((w.alloc (.cells la.toArray t1)).alloc (.cells ld.toArray t2)).alloc (.cells lo.toArray t3) = V) : Mkg w V la ld lo := by
 obtain ⟨B0, B2, B1, hE, hl⟩ := box3 w la ld lo t1 t2 t3 (w1 := V) (by rw [← hV]; exact Ext.refl _)
 exact ⟨hE, B0, B2, B1, by omega⟩
theorem later_ext {N : Nat} {a b : World} {S : World → Prop} (h : ∀ w'', Kp N a w'' → S w'') (e : Ext a b) : ∀ w'', Kp N b w'' → S w'' := fun w'' k => h w'' ((Kp.ext e).trans k)
theorem later_set {N C : Nat} {a : World} {S : World → Prop} (h : ∀ w'', Kp N a w'' → S w'') (hC : C < N) (i : Nat) (v : Value) : ∀ w'', Kp N (a.setCell ⟨C, i, none⟩ v) w'' → S w'' := fun w'' k => h w'' ((Kp.set hC i v a).trans k)
theorem later_put {N C : Nat} {a : World} {S : World → Prop} (h : ∀ w'', Kp N a w'' → S w'') (hC : C < N) (i : Nat) (vs : List Value) : ∀ w'', Kp N (putL C i vs a) w'' → S w'' := fun w'' k => h w'' ((Kp.putL hC vs i a).trans k)
theorem later_and {N M : Nat} {a : World} {S T : World → Prop} (h : ∀ w'', Kp N a w'' → S w'') (hM : N ≤ M) (k : ∀ w'', Kp M a w'' → T w'') : ∀ w'', Kp N a w'' → S w'' ∧ T w'' := fun w'' e => ⟨h w'' e, k w'' (e.mono hM)⟩
theorem results_at {P : Program} {fn : Func} {a : Nat} {T : TypeId} (hf : fn.results = #[.cell a T]) {tmps : Array Value} {q : Addr} {v : Value} {W : World} (ht : tmps.getD a undef = .pointer (some q)) (hl : (loadVar T q).run P W = .ok v W) : (results fn tmps).run P W = .ok v W := by
 have ht' : tmps[a]?.getD undef = .pointer (some q) := by simpa using ht
 simp [results, hf, ht', asAddr, hl]
theorem quiet_ld {P : Program} {o : Oper} {a : Act} {C : World → Prop} {w : World} {v : Value} {ty : TypeId} {x : Operand} {p : Addr} (ho : o.op = .load ty x) (hp : a.eval x = .pointer (some p)) (hl : (loadVar ty p).run P w = .ok v w) : o.quietAt P a C w v := by
 unfold Oper.quietAt execOp
 simp only [ho, hp, Instr.loadAt, Instr.sureAddr, Sem.run_bind, Sem.run_pure, Result.andThen_ok, hl]
 exact ⟨rfl, rfl⟩
theorem head_ld {P : Program} {ops : Array Oper} {X : Nat → Prop} {w : World} {N : Act → Prop} {o : Oper} {rest : List Oper} {a : Act} (hw : Region.wanted o (yielded ops a.tmps) = true) {ty : TypeId} {x : Operand} (ho : o.op = .load ty x) {p : Addr} (hp : a.eval x = .pointer (some p)) {v : Value} (hl : ∀ q : ReC X w, (loadVar ty p).run P q.val = .ok v q.val) (h : headC P ops X w N rest (a.put o.dst v)) : headC P ops X w N (o :: rest) a := by
 refine headC_step (fun K hK => ?_)
 simp only [hw, if_true]
 exact ⟨v, fun q => quiet_ld ho hp (hl q), hK _ h⟩
theorem blk_reC {w : World} {C : Nat} {vs : List Value} (h : Blk w C vs) (h0 : C < w.heap.size) (q : ReC (fun _ => False) w) : Blk q.val C vs := h.ext ⟨q.ok.os, q.ok.tape, q.ok.output, q.ok.size, fun k hk => q.ok.block k hk (fun h => h)⟩ h0
def anyB (p : Nat → Bool) : Nat → Bool
 | 0 => false
 | n + 1 => anyB p n || p n
def allB (p : Nat → Bool) (n : Nat) : Bool := !anyB (fun i => !p i) n
theorem anyB_yes {p : Nat → Bool} {k n : Nat} (hk : k < n) (h : p k = true) : anyB p n = true := by
 induction n with
 | zero => omega
 | succ n ih =>
  rw [anyB]
  by_cases e : k = n
  ·subst e; rw [h, Bool.or_true]
  ·rw [ih (by omega), Bool.true_or]
theorem anyB_no {p : Nat → Bool} {n : Nat} (h : ∀ j, j < n → p j = false) : anyB p n = false := by
 induction n with
 | zero => rfl
 | succ n ih => rw [anyB, ih (fun j hj => h j (by omega)), h n (by omega)]; rfl
theorem allB_no {p : Nat → Bool} {k n : Nat} (hk : k < n) (h : p k = false) : allB p n = false := by
 unfold allB
 rw [anyB_yes (k := k) hk (by simp [h])]; rfl
theorem allB_yes {p : Nat → Bool} {n : Nat} (h : ∀ j, j < n → p j = true) : allB p n = true := by
 unfold allB
 rw [anyB_no (fun j hj => by simp [h j hj])]; rfl
theorem allB_iff {p : Nat → Bool} {n : Nat} : allB p n = true ↔ ∀ k, k < n → p k = true := by
 constructor
 ·intro h k hk
  cases e : p k
  ·rw [allB_no hk e] at h; cases h
  ·rfl
 ·exact allB_yes
theorem Blk.putAll1 {w : World} {C : Nat} {us vs : List Value} (h : Blk w C us) (hl : us.length = vs.length) : Blk (putL C 0 vs w) C vs := fun j v hj => by
 have hi := (List.getElem?_eq_some_iff.1 hj).1
 have := cell_putL C vs 0 w (fun k hk => by
  obtain ⟨y, hy⟩ : ∃ y, us[k]? = some y := ⟨_, List.getElem?_eq_getElem (by omega)⟩
  rw [Nat.zero_add, (h k y hy).1]
  rfl) j v hj
 rw [Nat.zero_add] at this
 obtain ⟨y, hy⟩ : ∃ y, us[j]? = some y := ⟨_, List.getElem?_eq_getElem (by omega)⟩
 exact ⟨this, by rw [frozen_putL]; exact (h j y hy).2⟩
end Go.Proofs.YtfhiiakoilkbkaaGreatDoor
