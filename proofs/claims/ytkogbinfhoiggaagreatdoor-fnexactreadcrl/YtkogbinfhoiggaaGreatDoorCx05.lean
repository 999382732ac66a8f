/- Lists of items: what they tell, rows, bodies apart; an append of one list behind another. Bytes read as trees, in plain numbers: what the model's recursion and the program's steps tell. -/
import Derived.Test.YtkogbinfhoiggaaGreatDoorCx04
namespace Go.Proofs.YtkogbinfhoiggaaGreatDoor
set_option linter.unusedVariables false
set_option linter.unusedSimpArgs false
section
open Go.RowKit
structure Ic where
 tag : Int
 kid : Int
 bd : List Int
def ct (t : It) : Ic := ⟨t.tag, t.kid, (List.range t.len).map t.f⟩
def Nf (t : It) : Prop := t.f = fun i => ((List.range t.len).map t.f).getD i 0
theorem getD_map {n : Nat} {f : Nat → Int} {i : Nat} (h : i < n) : ((List.range n).map f).getD i 0 = f i := by simp [h]
def nfF (n : Nat) (f : Nat → Int) : Nat → Int := fun i => ((List.range n).map f).getD i 0
theorem nfF_map (n : Nat) (f : Nat → Int) : (List.range n).map (nfF n f) = (List.range n).map f := by
 apply List.map_congr_left
 intro i hi
 exact getD_map (List.mem_range.1 hi)
def rowL (L : List It) : List Value := L.flatMap itW
theorem rowL_cons (t : It) (L : List It) : rowL (t :: L) = itW t ++ rowL L := by simp [rowL]
theorem rowL_append (L M : List It) : rowL (L ++ M) = rowL L ++ rowL M := by simp [rowL]
theorem rowL_len : ∀ L : List It, (rowL L).length = L.length * 3
 | [] => rfl
 | t :: L => by rw [rowL_cons, List.length_append, itW_len, rowL_len L, List.length_cons]; omega
theorem rowL_one (L : List It) : ∀ u ∈ rowL L, u.oneCell' = true := by
 intro u hu
 unfold rowL at hu
 rw [List.mem_flatMap] at hu
 obtain ⟨t, -, h⟩ := hu
 exact itW_one t u h
def dI : It := ⟨0, 0, none, 0, 0, 0, 0, fun _ => 0⟩
theorem itsW_rowL : ∀ L : List It, itsW (fun i => L.getD i dI) L.length = rowL L := by
 intro L
 have key : ∀ (n : Nat), n ≤ L.length → itsW (fun i => L.getD i dI) n = rowL (L.take n) := by
  intro n
  induction n with
  | zero => intro _; rfl
  | succ n ih =>
   intro h
   rw [itsW, ih (by omega), List.take_add_one, rowL_append]
   congr 1
   have : L[n]? = some (L.getD n dI) := by rw [List.getD_eq_getElem?_getD, List.getElem?_eq_getElem (by omega)]; rfl
   rw [this]
   simp [rowL]
 rw [key L.length (Nat.le_refl _), List.take_length]
structure Bods (B : Nat) (W : World) (L : List It) : Prop where
 own : ∀ t ∈ L, BOwn W t.ad t.blk t.off t.len t.f
 up : ∀ t ∈ L, 0 < t.len → B ≤ t.blk
 nf : ∀ t ∈ L, Nf t
 apart : L.Pairwise (fun s t => 0 < s.len → 0 < t.len → s.blk ≠ t.blk)
theorem Bods.nil (B : Nat) (W : World) : Bods B W [] := ⟨fun _ h => by simp at h, fun _ h => by simp at h, fun _ h => by simp at h, List.Pairwise.nil⟩
theorem Bods.ext {B : Nat} {W W' : World} {L : List It} (h : Bods B W L) (e : Ext W W') : Bods B W' L := ⟨fun t ht => (h.own t ht).of_all e, h.up, h.nf, h.apart⟩
theorem Bods.low {B B' : Nat} {W : World} {L : List It} (h : Bods B W L) (e : B' ≤ B) : Bods B' W L := ⟨h.own, fun t ht h0 => Nat.le_trans e (h.up t ht h0), h.nf, h.apart⟩
theorem Bods.of_blk {B : Nat} {W W' : World} {L : List It} (h : Bods B W L) (e : ∀ t ∈ L, 0 < t.len → W'.heap[t.blk]? = W.heap[t.blk]?) : Bods B W' L :=
 ⟨fun t ht => ⟨⟨(h.own t ht).at', fun i hi => (World.cell?_of_block (a := ⟨t.blk, t.off + i, none⟩) (e t ht (by omega))).trans ((h.own t ht).cell i hi)⟩, fun i hi => (World.frozen?_of_block (a := ⟨t.blk, t.off + i, none⟩) (e t ht (by omega))).trans ((h.own t ht).free i hi)⟩, h.up, h.nf, h.apart⟩
theorem Bods.lt {B : Nat} {W : World} {L : List It} (h : Bods B W L) {t : It} (ht : t ∈ L) (h0 : 0 < t.len) : t.blk < W.heap.size := (h.own t ht).toBSeg.lt h0
theorem Bods.append {B B1 B2 : Nat} {W W2 : World} {L M : List It} (h : Bods B1 W L) (e : Ext W W2) (k : Bods B2 W2 M) (h1 : B ≤ B1) (h2 : B ≤ B2) (hs : W.heap.size ≤ B2) : Bods B W2 (L ++ M) := by
 refine ⟨fun t ht => ?_, fun t ht => ?_, fun t ht => ?_, ?_⟩
 ·rcases List.mem_append.1 ht with ht | ht
  ·exact (h.own t ht).of_all e
  ·exact k.own t ht
 ·rcases List.mem_append.1 ht with ht | ht
  ·exact fun h0 => Nat.le_trans h1 (h.up t ht h0)
  ·exact fun h0 => Nat.le_trans h2 (k.up t ht h0)
 ·rcases List.mem_append.1 ht with ht | ht
  ·exact h.nf t ht
  ·exact k.nf t ht
 ·rw [List.pairwise_append]
  refine ⟨h.apart, k.apart, fun s hs1 t ht h0 h3 => ?_⟩
  have a := h.lt hs1 h0
  have b := k.up t ht h3
  omega
def bare (tag kid : Int) : It := ⟨tag, kid, none, 0, 0, 0, 0, fun i => ([] : List Int).getD i 0⟩
theorem ct_bare (tag kid : Int) : ct (bare tag kid) = ⟨tag, kid, []⟩ := rfl
theorem Bods.bare {B : Nat} {W : World} {L : List It} (h : Bods B W L) (tag kid : Int) : Bods B W (Proofs.YtkogbinfhoiggaaGreatDoor.bare tag kid :: L) := by
 refine ⟨fun t ht => ?_, fun t ht => ?_, fun t ht => ?_, ?_⟩
 ·rcases List.mem_cons.1 ht with rfl | ht
  ·exact BOwn.nil _ _ _ _ _
  ·exact h.own t ht
 ·rcases List.mem_cons.1 ht with rfl | ht
  ·exact fun h0 => absurd h0 (Nat.lt_irrefl _)
  ·exact h.up t ht
 ·rcases List.mem_cons.1 ht with rfl | ht
  ·rfl
  ·exact h.nf t ht
 ·exact List.pairwise_cons.2 ⟨fun t _ h0 => absurd h0 (Nat.lt_irrefl _), h.apart⟩
theorem Bods.one {B : Nat} {W : World} {a : Option Addr} {g off n cap : Nat} {f : Nat → Int} (tag : Int) (h : BOwn W a g off n f) (hg : B ≤ g) : Bods B W [⟨tag, 0, a, g, off, n, cap, nfF n f⟩] :=
 ⟨fun t ht => by rw [List.mem_singleton] at ht; subst ht; exact h.congr (fun i hi => (getD_map hi).symm), fun t ht _ => by rw [List.mem_singleton] at ht; subst ht; exact hg, fun t ht => by
  rw [List.mem_singleton] at ht
  subst ht
  show nfF n f = fun i => ((List.range n).map (nfF n f)).getD i 0
  rw [nfF_map]
  rfl, List.pairwise_singleton _ _⟩
theorem ct_one (tag : Int) (a : Option Addr) (g off n cap : Nat) (f : Nat → Int) : ct ⟨tag, 0, a, g, off, n, cap, nfF n f⟩ = ⟨tag, 0, (List.range n).map f⟩ := by
 show Ic.mk tag 0 _ = _
 rw [nfF_map]
structure LAcc (B : Nat) (W : World) (v : Value) (L : List It) : Prop where
 row : W.ownsRow B 40 3 v L.length (rowL L)
 bods : Bods B W L
 away : ∀ t ∈ L, 0 < t.len → v.ownBlock ≠ some t.blk
theorem LAcc.ext {B : Nat} {W W' : World} {v : Value} {L : List It} (h : LAcc B W v L) (e : Ext W W') : LAcc B W' v L := ⟨ownsRow_ext h.row e, h.bods.ext e, h.away⟩
theorem ownsRow_low {W : World} {B B' e s n : Nat} {v : Value} {xs : List Value} (h : W.ownsRow B e s v n xs) (hB : B' ≤ B) : W.ownsRow B' e s v n xs := by
 refine ⟨h.1, ?_⟩
 rcases h.2 with h0 | ⟨g, cap, cur, rfl, hb, rest⟩
 ·exact .inl h0
 ·exact .inr ⟨g, cap, cur, rfl, Nat.le_trans hB hb, rest⟩
theorem LAcc.low {B B' : Nat} {W : World} {v : Value} {L : List It} (h : LAcc B W v L) (e : B' ≤ B) : LAcc B' W v L := ⟨ownsRow_low h.row e, h.bods.low e, h.away⟩
theorem ownsRow_slc {W : World} {B e s m : Nat} {v : Value} {xs : List Value} (h : W.ownsRow B e s v m xs) : ∃ a cap, v = .slice a m cap := by
 rcases h.2 with ⟨rfl, rfl⟩ | ⟨g, cap, cur, rfl, _⟩
 ·exact ⟨_, _, rfl⟩
 ·exact ⟨_, _, rfl⟩
theorem Tryz.infoItm : (Tryz.prog.info? 40).map (fun i => (i.zero, i.size, i.bytes)) = some (some (.agg #[.int .i64 0, .slice none 0 0, .int .i64 0]), 3, 40) := by kernel_rfl
theorem row_cells {W : World} {B g n cap : Nat} {L : List It} (h : W.ownsRow B 40 3 (.slice (some ⟨g, 0, none⟩) n cap) n (rowL L)) : ∀ j u, (rowL L)[j]? = some u → W.cell? ((⟨g, 0, none⟩ : Addr).add j) = some u := by
 intro j u hj
 have hl : j < n * 3 := by
  have := (List.getElem?_eq_some_iff.1 hj).1
  rw [h.1] at this
  exact this
 have := World.ownsRow.cellAt h j hl
 rw [hj] at this
 have ha : (⟨g, 0, none⟩ : Addr).add j = ⟨g, j, none⟩ := by
  by_cases h0 : j = 0
  ·subst h0; simp [Addr.add]
  ·simp [Addr.add, h0]
 rw [ha]
 simpa using this
theorem wp_appL {o : Oper} {a0 : Act} {K : Act → World → Prop} {Q : Exit → Act → World → Prop} {W2 : World} (s x : Operand)
  (ho : o.op = .call { callee := .builtin .append, args := #[s, x], argTypes := #[35, 35] })
  (B B2 : Nat) (W : World) (v v2 : Value) (L M : List It) (hs : a0.eval s = v) (hA : LAcc B W v L) (e : Ext W W2) (hx : a0.eval x = v2) (hM : W2.ownsRow B2 40 3 v2 M.length (rowL M)) (hB2 : Bods B W2 (L ++ M)) (hnM : ∀ t ∈ M, 0 < t.len → v.ownBlock ≠ some t.blk)
  (hm : L.length + M.length ≤ 1048576) (hbase : B ≤ W.heap.size)
  (h : ∀ v' w', LAcc B w' v' (L ++ M) → (∀ S, (∀ k, v.ownBlock = some k → S ≤ k) → S ≤ W2.heap.size → Below S W2 w') → K (a0.put o.dst v') w') : o.wp Tryz.prog a0 W2 K Q := by
 obtain ⟨i0, hi, hz0, hz1, hz2⟩ := info_parts Tryz.infoItm
 have hWs := Below.size e
 rcases hM.2 with ⟨h0, h1⟩ | ⟨g, cap, cur, h0, -⟩
 ·obtain rfl : M = [] := by cases M with | nil => rfl | cons _ _ => simp at h1
  have hr := run_append_nothing (P := Tryz.prog) B 35 o.type 40 i0 3 Tryz.underlying35 hi _ L.length 0 (rowL L) (ownsRow_ext hA.row e)
  unfold Oper.wp execOp
  simp only [ho, resolve, invoke, builtin, Sem.run_bind, Sem.run_pure, Result.andThen_ok, List.map_toArray, List.map_cons, List.map_nil, hs, hx, h0, hr]
  exact h v W2 (by rw [List.append_nil]; exact hA.ext e) (fun S _ _ => Below.refl _ _)
 ·rw [h0] at hM
  obtain ⟨v', w', hr, h2, h3, h4, h5⟩ := run_append_own_at (P := Tryz.prog) W2 B 35 o.type 40 i0 (.agg #[.int .i64 0, .slice none 0 0, .int .i64 0]) 3 40 Tryz.underlying35 hi hz0 hz1 hz2 rfl (by decide) v L.length (rowL L) (ownsRow_ext hA.row e) ⟨g, 0, none⟩ M.length cap (rowL M) (rowL_len M) (row_cells hM) (rowL_one M) (by unfold maxLen; omega) (by omega) (by omega)
  unfold Oper.wp execOp
  simp only [ho, resolve, invoke, builtin, Sem.run_bind, Sem.run_pure, Result.andThen_ok, List.map_toArray, List.map_cons, List.map_nil, hs, hx, h0, hr]
  have hne : ∀ t ∈ L ++ M, 0 < t.len → v.ownBlock ≠ some t.blk := fun t ht h0 => by
   rcases List.mem_append.1 ht with ht | ht
   ·exact hA.away t ht h0
   ·exact hnM t ht h0
  refine h v' w' ⟨by rw [List.length_append, rowL_append]; exact h2, hB2.of_blk (fun t ht h0 => h3.block _ (hB2.lt ht h0) (fun hh => hne t ht h0 hh.symm)), fun t ht h0 hh => ?_⟩ (fun S hS hS2 => (Below.refl _ _).grown h3 hS2 hS)
  rcases h5 with h5 | h5
  ·exact hne t ht h0 (by rw [← h5]; exact hh)
  ·rw [h5] at hh
   simp only [Option.some.injEq] at hh
   have := hB2.lt ht h0
   omega
theorem LAcc.later {B : Nat} {W W2 : World} {v : Value} {L M : List It} (hA : LAcc B W v L) (e : Ext W W2) (hb : Bods W.heap.size W2 M) (hB : B ≤ W.heap.size) : Bods B W2 (L ++ M) ∧ ∀ t ∈ M, 0 < t.len → v.ownBlock ≠ some t.blk :=
 ⟨hA.bods.append e hb (Nat.le_refl _) hB (Nat.le_refl _), fun t ht h0 hh => by
  have := (hA.row.lt _ hh).2
  have := hb.up t ht h0
  omega⟩
theorem wpList_appL {ops : Array Oper} {rest : List Oper} {o : Oper} {a0 : Act} {Q : Exit → Act → World → Prop} {W2 : World} (hgd : o.guard = none) (s x : Operand)
  (ho : o.op = .call { callee := .builtin .append, args := #[s, x], argTypes := #[35, 35] })
  (B B2 : Nat) (W : World) (v v2 : Value) (L M : List It) (hs : a0.eval s = v) (hA : LAcc B W v L) (e : Ext W W2) (hx : a0.eval x = v2) (hM : W2.ownsRow B2 40 3 v2 M.length (rowL M)) (hB2 : Bods B W2 (L ++ M)) (hnM : ∀ t ∈ M, 0 < t.len → v.ownBlock ≠ some t.blk)
  (hm : L.length + M.length ≤ 1048576) (hbase : B ≤ W.heap.size)
  (h : ∀ v' w', LAcc B w' v' (L ++ M) → (∀ S, (∀ k, v.ownBlock = some k → S ≤ k) → S ≤ W2.heap.size → Below S W2 w') → wpList Tryz.prog ops Q rest (a0.put o.dst v') w') : wpList Tryz.prog ops Q (o :: rest) a0 W2 :=
 wpList_plain hgd fun K hK => wp_appL s x ho B B2 W v v2 L M hs hA e hx hM hB2 hnM hm hbase fun v' w' h1 h2 => hK _ _ (h v' w' h1 h2)
theorem stop_app {P : Program} {ops : Array Oper} {rest : List Oper} {o : Oper} {a0 : Act} {Q : Exit → Act → World → Prop} {W : World} {s x : Operand} {ts : Array TypeId}
  (ho : o.op = .call { callee := .builtin .append, args := #[s, x], argTypes := ts }) (h : Hid (wpList P ops Q (o :: rest) a0 W)) : wpList P ops Q (o :: rest) a0 W := h.out
theorem ownsRow_it (w : World) (t : It) : (w.alloc (.cells #[.int .i64 t.tag, .slice t.ad t.len t.cap, .int .i64 t.kid] 40)).ownsRow w.heap.size 40 3 (.slice (some ⟨w.heap.size, 0, none⟩) 1 1) [t].length (rowL [t]) :=
 ⟨rfl, .inr ⟨w.heap.size, 1, #[.int .i64 t.tag, .slice t.ad t.len t.cap, .int .i64 t.kid], rfl, Nat.le_refl _, heap_alloc_new w _, Nat.le_refl _, by decide, by simp, by simp [rowL, itW]⟩⟩
theorem LAcc.it (w : World) (t : It) (B : Nat) (h : Bods B w [t]) (hB : B ≤ w.heap.size) : LAcc B (w.alloc (.cells #[.int .i64 t.tag, .slice t.ad t.len t.cap, .int .i64 t.kid] 40)) (.slice (some ⟨w.heap.size, 0, none⟩) 1 1) [t] :=
 ⟨ownsRow_low (ownsRow_it w t) hB, h.ext (Ext.alloc _ _), fun s hs h0 hh => by
  have := h.lt hs h0
  simp only [Value.ownBlock, Option.some.injEq] at hh
  omega⟩
theorem LAcc.nil (w : World) (B : Nat) (hB : B ≤ w.heap.size) : LAcc B (w.alloc (.cells #[] 40)) (.slice (some ⟨w.heap.size, 0, none⟩) 0 0) [] :=
 ⟨ownsRow_low (World.ownsRow_made (base := w.heap.size) (e := 40) (size := 3) w #[] 0 (Nat.le_refl _) (by simp) rfl) hB, Bods.nil _ _, fun _ h => by simp at h⟩
def GivesIs (B : Nat) (w : World) (C : List Ic) (e : Ending) (w' : World) : Prop := ∃ v L, e = .returned v ∧ LAcc B w' v L ∧ L.map ct = C ∧ Ext w w'
end
section
def lnR (f : Nat → Int) (at' e : Nat) : Nat × Nat × Int :=
 if e ≤ at' + 1 then (0, 0, 2)
 else if f (at' + 1) < 128 then ((f (at' + 1)).toNat, at' + 2, 0)
 else if f (at' + 1) = 128 ∨ 130 < f (at' + 1) then (0, 0, 4)
 else if (e : Int) ≤ at' + 1 + (f (at' + 1) - 128) then (0, 0, 2)
 else if f (at' + 1) = 129 then (if f (at' + 2) < 128 then (0, 0, 4) else ((f (at' + 2)).toNat, at' + 3, 0))
 else if 256 * f (at' + 2) + f (at' + 3) < 256 then (0, 0, 4) else ((256 * f (at' + 2) + f (at' + 3)).toNat, at' + 4, 0)
def hdC (f : Nat → Int) (at' e d : Nat) : Int × Int :=
 if e ≤ at' then (2, at')
 else if f at' % 32 = 31 then (3, at')
 else if 12 < d then (6, at')
 else if (lnR f at' e).2.2 = 2 then (2, at')
 else if (lnR f at' e).2.2 = 4 then (4, at' + 1)
 else if e < (lnR f at' e).2.1 + (lnR f at' e).1 then (2, at')
 else (0, 0)
def hdS (f : Nat → Int) (at' e : Nat) : Nat := (lnR f at' e).2.1
def hdE (f : Nat → Int) (at' e : Nat) : Nat := (lnR f at' e).2.1 + (lnR f at' e).1
def mdT (t : Int) : Bool := decide (t / 32 % 2 = 1)
structure Hed where
 tag : Int
 st : Nat
 en : Nat
 ar : Nat
def hdOf (f : Nat → Int) (at' e d : Nat) : Hed := ⟨f at', hdS f at' e, hdE f at' e, d⟩
def itH (f : Nat → Int) (h : Hed) : Ic := ⟨h.tag, 0, if mdT h.tag then [] else (List.range (h.en - h.st)).map (fun i => f (h.st + i))⟩
structure Rdr where
 hs : List Hed
 its : List Ic
 nx : Nat
 code : Int
 pl : Int
def rdK (rd : Nat → Rdr) (e : Nat) : Nat → Nat → Rdr × Nat
 | 0, a => (⟨[], [], a, 0, 0⟩, 0)
 | m + 1, a =>
  if e ≤ a then (⟨[], [], a, 0, 0⟩, 0)
  else if (rd a).code ≠ 0 then (⟨[], [], a, (rd a).code, (rd a).pl⟩, 0)
  else if (rdK rd e m (rd a).nx).1.code ≠ 0 then (⟨[], [], a, (rdK rd e m (rd a).nx).1.code, (rdK rd e m (rd a).nx).1.pl⟩, 0)
  else (⟨(rd a).hs ++ (rdK rd e m (rd a).nx).1.hs, (rd a).its ++ (rdK rd e m (rd a).nx).1.its, (rdK rd e m (rd a).nx).1.nx, 0, 0⟩, (rdK rd e m (rd a).nx).2 + 1)
def rdT (f : Nat → Int) : Nat → Nat → Nat → Nat → Rdr
 | 0, a, e, d => ⟨[], [], a, 6, a⟩
 | k + 1, a, e, d =>
  if (hdC f a e d).1 ≠ 0 then ⟨[], [], a, (hdC f a e d).1, (hdC f a e d).2⟩
  else if mdT (f a) = false then ⟨[hdOf f a e d], [itH f (hdOf f a e d)], hdE f a e, 0, 0⟩
  else if (rdK (fun x => rdT f k x (hdE f a e) (d + 1)) (hdE f a e) (hdE f a e - hdS f a e) (hdS f a e)).1.code ≠ 0 then
   ⟨[], [], a, (rdK (fun x => rdT f k x (hdE f a e) (d + 1)) (hdE f a e) (hdE f a e - hdS f a e) (hdS f a e)).1.code, (rdK (fun x => rdT f k x (hdE f a e) (d + 1)) (hdE f a e) (hdE f a e - hdS f a e) (hdS f a e)).1.pl⟩
  else ⟨hdOf f a e d :: (rdK (fun x => rdT f k x (hdE f a e) (d + 1)) (hdE f a e) (hdE f a e - hdS f a e) (hdS f a e)).1.hs,
   ⟨f a, ((rdK (fun x => rdT f k x (hdE f a e) (d + 1)) (hdE f a e) (hdE f a e - hdS f a e) (hdS f a e)).2 : Int), []⟩ :: (rdK (fun x => rdT f k x (hdE f a e) (d + 1)) (hdE f a e) (hdE f a e - hdS f a e) (hdS f a e)).1.its, hdE f a e, 0, 0⟩
def beh (a : Nat) : List Nat → Option (List Nat)
 | [] => none
 | [_] => none
 | e :: e2 :: r => if a < e then some (e :: e2 :: r) else beh a (e2 :: r)
def RunL (f : Nat → Int) : List Hed → Nat → List Nat → Int → Int → Prop
 | [], a, es, c, p => ∃ e r, es = e :: r ∧ (hdC f a e r.length).1 ≠ 0 ∧ c = (hdC f a e r.length).1 ∧ p = (hdC f a e r.length).2
 | h :: H, a, es, c, p => ∃ e r, es = e :: r ∧ (hdC f a e r.length).1 = 0 ∧ h = hdOf f a e r.length ∧
     ((beh (if mdT (f a) then hdS f a e else hdE f a e) (if mdT (f a) then hdE f a e :: e :: r else e :: r) = none ∧ H = [] ∧ c = 0 ∧ p = 0) ∨ ∃ es', beh (if mdT (f a) then hdS f a e else hdE f a e) (if mdT (f a) then hdE f a e :: e :: r else e :: r) = some es' ∧ RunL f H (if mdT (f a) then hdS f a e else hdE f a e) es' c p)
def Run (f : Nat → Int) (a : Nat) (es : List Nat) (H : List Hed) (c p : Int) : Prop := RunL f H a es c p
theorem Run.bad {f : Nat → Int} {a e : Nat} {r : List Nat} (h : (hdC f a e r.length).1 ≠ 0) : Run f a (e :: r) [] (hdC f a e r.length).1 (hdC f a e r.length).2 := ⟨e, r, rfl, h, rfl, rfl⟩
theorem Run.last {f : Nat → Int} {a e : Nat} {r : List Nat} (h : (hdC f a e r.length).1 = 0) (k : beh (if mdT (f a) then hdS f a e else hdE f a e) (if mdT (f a) then hdE f a e :: e :: r else e :: r) = none) : Run f a (e :: r) [hdOf f a e r.length] 0 0 := ⟨e, r, rfl, h, rfl, .inl ⟨k, rfl, rfl, rfl⟩⟩
theorem Run.more {f : Nat → Int} {a e : Nat} {r es : List Nat} {H : List Hed} {c p : Int} (h : (hdC f a e r.length).1 = 0) (k : beh (if mdT (f a) then hdS f a e else hdE f a e) (if mdT (f a) then hdE f a e :: e :: r else e :: r) = some es) (q : Run f (if mdT (f a) then hdS f a e else hdE f a e) es H c p) : Run f a (e :: r) (hdOf f a e r.length :: H) c p := ⟨e, r, rfl, h, rfl, .inr ⟨es, k, q⟩⟩
def Goes (f : Nat → Int) (a : Nat) (es : List Nat) (H : List Hed) (c p : Int) : Prop :=
 (beh a es = none ∧ H = [] ∧ c = 0 ∧ p = 0) ∨ ∃ es', beh a es = some es' ∧ Run f a es' H c p
theorem Run.step {f : Nat → Int} {a e : Nat} {r : List Nat} {H : List Hed} {c p : Int} (h : (hdC f a e r.length).1 = 0) (k : Goes f (if mdT (f a) then hdS f a e else hdE f a e) (if mdT (f a) then hdE f a e :: e :: r else e :: r) H c p) : Run f a (e :: r) (hdOf f a e r.length :: H) c p := by
 rcases k with ⟨h1, rfl, rfl, rfl⟩ | ⟨es', h1, h2⟩
 ·exact Run.last h h1
 ·exact Run.more h h1 h2
theorem Goes.pop {f : Nat → Int} {a e : Nat} {r : List Nat} {H : List Hed} {c p : Int} (he : e ≤ a) (hr : r ≠ []) (h : Goes f a r H c p) : Goes f a (e :: r) H c p := by
 cases r with
 | nil => exact absurd rfl hr
 | cons e2 r =>
  have hb : beh a (e :: e2 :: r) = beh a (e2 :: r) := by rw [beh, if_neg (by omega)]
  unfold Goes
  rw [hb]
  exact h
theorem Goes.at' {f : Nat → Int} {a e : Nat} {r : List Nat} {H : List Hed} {c p : Int} (he : a < e) (hr : r ≠ []) (h : Run f a (e :: r) H c p) : Goes f a (e :: r) H c p := by
 cases r with
 | nil => exact absurd rfl hr
 | cons e2 r => exact .inr ⟨_, by rw [beh, if_pos he], h⟩
theorem lnR_well {f : Nat → Int} {a e : Nat} (h2 : (lnR f a e).2.2 ≠ 2) (h4 : (lnR f a e).2.2 ≠ 4) : (lnR f a e).2.2 = 0 ∧ a + 2 ≤ (lnR f a e).2.1 := by
 unfold lnR at *
 by_cases c1 : e ≤ a + 1
 ·rw [if_pos c1] at h2; exact absurd rfl h2
 rw [if_neg c1] at h2 h4 ⊢
 by_cases c2 : f (a + 1) < 128
 ·rw [if_pos c2]; exact ⟨rfl, Nat.le_refl _⟩
 rw [if_neg c2] at h2 h4 ⊢
 by_cases c3 : f (a + 1) = 128 ∨ 130 < f (a + 1)
 ·rw [if_pos c3] at h4; exact absurd rfl h4
 rw [if_neg c3] at h2 h4 ⊢
 by_cases c4 : (e : Int) ≤ a + 1 + (f (a + 1) - 128)
 ·rw [if_pos c4] at h2; exact absurd rfl h2
 rw [if_neg c4] at h2 h4 ⊢
 by_cases c5 : f (a + 1) = 129
 ·rw [if_pos c5] at h2 h4 ⊢
  by_cases c6 : f (a + 2) < 128
  ·rw [if_pos c6] at h4; exact absurd rfl h4
  ·rw [if_neg c6]; exact ⟨rfl, Nat.le_succ _⟩
 ·rw [if_neg c5] at h2 h4 ⊢
  by_cases c6 : 256 * f (a + 2) + f (a + 3) < 256
  ·rw [if_pos c6] at h4; exact absurd rfl h4
  ·rw [if_neg c6]; exact ⟨rfl, by show a + 2 ≤ a + 4; omega⟩
theorem hdC_ok {f : Nat → Int} {a e d : Nat} (h : (hdC f a e d).1 = 0) : a < e ∧ f a % 32 ≠ 31 ∧ d ≤ 12 ∧ (lnR f a e).2.2 = 0 ∧ hdE f a e ≤ e ∧ a + 2 ≤ hdS f a e ∧ hdS f a e ≤ hdE f a e := by
 unfold hdC at h
 by_cases c1 : e ≤ a
 ·rw [if_pos c1] at h; simp at h
 rw [if_neg c1] at h
 by_cases c2 : f a % 32 = 31
 ·rw [if_pos c2] at h; simp at h
 rw [if_neg c2] at h
 by_cases c3 : 12 < d
 ·rw [if_pos c3] at h; simp at h
 rw [if_neg c3] at h
 by_cases c4 : (lnR f a e).2.2 = 2
 ·rw [if_pos c4] at h; simp at h
 rw [if_neg c4] at h
 by_cases c5 : (lnR f a e).2.2 = 4
 ·rw [if_pos c5] at h; simp at h
 rw [if_neg c5] at h
 by_cases c6 : e < (lnR f a e).2.1 + (lnR f a e).1
 ·rw [if_pos c6] at h; simp at h
 have hl := lnR_well c4 c5
 refine ⟨by omega, c2, by omega, hl.1, ?_, hl.2, ?_⟩
 ·unfold hdE; omega
 ·unfold hdE hdS; omega
theorem rdT_nx (f : Nat → Int) : ∀ k a e d, (rdT f k a e d).code = 0 → a + 2 ≤ (rdT f k a e d).nx ∧ (rdT f k a e d).nx ≤ e
 | 0, a, e, d, h => by simp [rdT] at h
 | k + 1, a, e, d, h => by
  rw [rdT] at h ⊢
  split at h
  ·rename_i h1; exact absurd h h1
  ·rename_i h1
   rw [if_neg h1]
   have h0 := hdC_ok (Decidable.not_not.1 h1)
   split at h
   ·rename_i h2
    rw [if_pos h2]
    exact ⟨Nat.le_trans h0.2.2.2.2.2.1 h0.2.2.2.2.2.2, h0.2.2.2.2.1⟩
   ·rename_i h2
    rw [if_neg h2]
    split at h
    ·rename_i h3; exact absurd h h3
    ·rename_i h3
     rw [if_neg h3]
     exact ⟨Nat.le_trans h0.2.2.2.2.2.1 h0.2.2.2.2.2.2, h0.2.2.2.2.1⟩
section
variable {f : Nat → Int} {t e : Nat} {r : List Nat} {rd : Nat → Rdr}
theorem sim_K (hn : ∀ a, (rd a).code = 0 → a + 2 ≤ (rd a).nx ∧ (rd a).nx ≤ t)
  (h1 : ∀ a, (rd a).code ≠ 0 → ∃ H, Run f a (t :: e :: r) H (rd a).code (rd a).pl)
  (h2 : ∀ a, (rd a).code = 0 → ∀ H c p, Goes f (rd a).nx (t :: e :: r) H c p → Run f a (t :: e :: r) ((rd a).hs ++ H) c p) :
  ∀ m a, a ≤ t → t - a ≤ m → ((rdK rd t m a).1.code ≠ 0 → ∃ H, Goes f a (t :: e :: r) H (rdK rd t m a).1.code (rdK rd t m a).1.pl) ∧
   ((rdK rd t m a).1.code = 0 → (rdK rd t m a).1.nx = t ∧ ∀ H c p, Goes f t (t :: e :: r) H c p → Goes f a (t :: e :: r) ((rdK rd t m a).1.hs ++ H) c p)
 | 0, a, ha, hm => by
  obtain rfl : a = t := by omega
  rw [rdK]
  exact ⟨fun h => absurd rfl h, fun _ => ⟨rfl, fun H c p k => k⟩⟩
 | m + 1, a, ha, hm => by
  by_cases hle : t ≤ a
  ·obtain rfl : a = t := by omega
   rw [rdK, if_pos hle]
   exact ⟨fun h => absurd rfl h, fun _ => ⟨rfl, fun H c p k => k⟩⟩
  ·rw [rdK, if_neg hle]
   by_cases hc : (rd a).code = 0
   ·rw [if_neg (fun h => h hc)]
    have hx := hn a hc
    have ih := sim_K hn h1 h2 m (rd a).nx hx.2 (by omega)
    by_cases hc2 : (rdK rd t m (rd a).nx).1.code = 0
    ·rw [if_neg (fun h => h hc2)]
     refine ⟨fun h => absurd rfl h, fun _ => ⟨(ih.2 hc2).1, fun H c p k => ?_⟩⟩
     have k2 := (ih.2 hc2).2 H c p k
     have k3 := h2 a hc _ c p k2
     show Goes f a (t :: e :: r) ((rd a).hs ++ (rdK rd t m (rd a).nx).1.hs ++ H) c p
     rw [List.append_assoc]
     exact Goes.at' (by omega) (by simp) k3
    ·rw [if_pos hc2]
     refine ⟨fun _ => ?_, fun h => absurd h hc2⟩
     obtain ⟨H, k⟩ := ih.1 hc2
     exact ⟨(rd a).hs ++ H, Goes.at' (by omega) (by simp) (h2 a hc _ _ _ k)⟩
   ·rw [if_pos hc]
    refine ⟨fun _ => ?_, fun h => absurd h hc⟩
    obtain ⟨H, k⟩ := h1 a hc
    exact ⟨H, Goes.at' (by omega) (by simp) k⟩
end
theorem sim_I (f : Nat → Int) : ∀ k a e (r : List Nat), r.length + (k + 1) = 14 →
  ((rdT f (k + 1) a e r.length).code ≠ 0 → ∃ H, Run f a (e :: r) H (rdT f (k + 1) a e r.length).code (rdT f (k + 1) a e r.length).pl) ∧
  ((rdT f (k + 1) a e r.length).code = 0 → ∀ H c p, Goes f (rdT f (k + 1) a e r.length).nx (e :: r) H c p → Run f a (e :: r) ((rdT f (k + 1) a e r.length).hs ++ H) c p) := by
 intro k
 induction k with
 | zero =>
  intro a e r hr
  have hd : (hdC f a e r.length).1 ≠ 0 := fun h => by have := (hdC_ok h).2.2.1; omega
  rw [rdT, if_pos hd]
  exact ⟨fun _ => ⟨[], Run.bad hd⟩, fun h => absurd h hd⟩
 | succ k ih =>
  intro a e r hr
  rw [rdT]
  by_cases hd : (hdC f a e r.length).1 = 0
  ·rw [if_neg (fun h => h hd)]
   have h0 := hdC_ok hd
   by_cases hm : mdT (f a) = false
   ·rw [if_pos hm]
    refine ⟨fun h => absurd rfl h, fun _ H c p g => ?_⟩
    refine Run.step hd ?_
    rw [hm]
    exact g
   ·have hm1 : mdT (f a) = true := by simpa using hm
    rw [if_neg hm]
    have ihk : ∀ x, _ := fun x => ih x (hdE f a e) (e :: r) (by simp; omega)
    have hlen : (e :: r).length = r.length + 1 := rfl
    rw [hlen] at ihk
    have K := sim_K (f := f) (t := hdE f a e) (e := e) (r := r) (rd := fun x => rdT f (k + 1) x (hdE f a e) (r.length + 1)) (fun x hx => rdT_nx f (k + 1) x (hdE f a e) (r.length + 1) hx) (fun x hx => (ihk x).1 hx) (fun x hx => (ihk x).2 hx) (hdE f a e - hdS f a e) (hdS f a e) h0.2.2.2.2.2.2 (Nat.le_refl _)
    generalize rdK (fun x => rdT f (k + 1) x (hdE f a e) (r.length + 1)) (hdE f a e) (hdE f a e - hdS f a e) (hdS f a e) = Q at K ⊢
    by_cases hc : Q.1.code = 0
    ·rw [if_neg (fun h => h hc)]
     refine ⟨fun h => absurd rfl h, fun _ H c p g => ?_⟩
     refine Run.step hd ?_
     rw [hm1]
     exact (K.2 hc).2 H c p (Goes.pop (Nat.le_refl _) (by simp) g)
    ·rw [if_pos hc]
     refine ⟨fun _ => ?_, fun h => absurd h hc⟩
     obtain ⟨H, g⟩ := K.1 hc
     refine ⟨_ :: H, Run.step hd ?_⟩
     rw [hm1]
     exact g
  ·rw [if_pos hd]
   exact ⟨fun _ => ⟨[], Run.bad hd⟩, fun h => absurd h hd⟩
def bmp (c : Int) : List Ic → Nat → List Ic
 | [], _ => []
 | x :: l, 0 => ⟨x.tag, x.kid + c, x.bd⟩ :: l
 | x :: l, q + 1 => x :: bmp c l q
theorem bmp_len (c : Int) : ∀ (L : List Ic) (q : Nat), (bmp c L q).length = L.length
 | [], _ => rfl
 | x :: l, 0 => rfl
 | x :: l, q + 1 => by rw [bmp, List.length_cons, List.length_cons, bmp_len c l q]
theorem bmp_app (c : Int) : ∀ (A B : List Ic) (q : Nat), q < A.length → bmp c (A ++ B) q = bmp c A q ++ B
 | [], _, q, h => by simp at h
 | x :: l, B, 0, h => rfl
 | x :: l, B, q + 1, h => by
  rw [List.cons_append, bmp, bmp, bmp_app c l B q (by simpa using h)]
  rfl
theorem bmp_two (b c : Int) : ∀ (L : List Ic) (q : Nat), bmp c (bmp b L q) q = bmp (b + c) L q
 | [], _ => rfl
 | x :: l, 0 => by simp [bmp, Int.add_assoc]
 | x :: l, q + 1 => by simp [bmp, bmp_two b c l q]
theorem bmp_zero : ∀ (L : List Ic) (q : Nat), bmp 0 L q = L
 | [], _ => rfl
 | x :: l, 0 => by simp [bmp]
 | x :: l, q + 1 => by simp [bmp, bmp_zero l q]
theorem bmp_end (c : Int) : ∀ (A B : List Ic) (x : Ic), bmp c (A ++ x :: B) A.length = A ++ ⟨x.tag, x.kid + c, x.bd⟩ :: B
 | [], B, x => rfl
 | y :: A, B, x => by
  rw [List.cons_append, List.length_cons, bmp, bmp_end c A B x]
  rfl
def bmpL (L : List Ic) (line : List Nat) (a : Nat) : List Ic := if a = 0 then L else bmp 1 L (line.getD (a - 1) 0)
def addH (f : Nat → Int) (S : List Ic × List Nat) (h : Hed) : List Ic × List Nat := (bmpL S.1 S.2 h.ar ++ [itH f h], S.2.take h.ar ++ [S.1.length])
theorem bmpL_len (L : List Ic) (line : List Nat) (a : Nat) : (bmpL L line a).length = L.length := by
 unfold bmpL
 split
 ·rfl
 ·exact bmp_len _ _ _
theorem fold_K {f : Nat → Int} {t d : Nat} {rd : Nat → Rdr}
  (hI : ∀ a, (rd a).code = 0 → ∀ (L : List Ic) (line : List Nat), d + 1 ≤ line.length → line.getD d 0 < L.length → ∃ rest, (rd a).hs.foldl (addH f) (L, line) = (bmpL L line (d + 1) ++ (rd a).its, line.take (d + 1) ++ L.length :: rest)) :
  ∀ m a, (rdK rd t m a).1.code = 0 → ∀ (L : List Ic) (line : List Nat), d + 1 ≤ line.length → line.getD d 0 < L.length →
   ∃ line', (rdK rd t m a).1.hs.foldl (addH f) (L, line) = (bmp ((rdK rd t m a).2 : Int) L (line.getD d 0) ++ (rdK rd t m a).1.its, line') ∧ line'.take (d + 1) = line.take (d + 1)
 | 0, a, h, L, line, h1, h2 => ⟨line, by simp [rdK, bmp_zero], rfl⟩
 | m + 1, a, h, L, line, h1, h2 => by
  rw [rdK] at h ⊢
  by_cases hle : t ≤ a
  ·rw [if_pos hle]
   exact ⟨line, by simp [bmp_zero], rfl⟩
  ·rw [if_neg hle] at h ⊢
   by_cases hc : (rd a).code = 0
   ·rw [if_neg (fun k => k hc)] at h ⊢
    by_cases hc2 : (rdK rd t m (rd a).nx).1.code = 0
    ·rw [if_neg (fun k => k hc2)]
     obtain ⟨rest, e1⟩ := hI a hc L line h1 h2
     have hb : bmpL L line (d + 1) = bmp 1 L (line.getD d 0) := by unfold bmpL; rw [if_neg (by omega), Nat.add_sub_cancel]
     rw [hb] at e1
     have hl2 : d + 1 ≤ (line.take (d + 1) ++ L.length :: rest).length := by simp; omega
     have hg : (line.take (d + 1) ++ L.length :: rest).getD d 0 = line.getD d 0 := by
      simp only [List.getD_eq_getElem?_getD]
      rw [List.getElem?_append_left (by simp; omega), List.getElem?_take, if_pos (by omega)]
     have hlen : (bmp 1 L (line.getD d 0)).length = L.length := bmp_len _ _ _
     obtain ⟨line', e2, e3⟩ := fold_K hI m (rd a).nx hc2 (bmp 1 L (line.getD d 0) ++ (rd a).its) (line.take (d + 1) ++ L.length :: rest) hl2 (by rw [hg, List.length_append, hlen]; omega)
     refine ⟨line', ?_, ?_⟩
     ·show ((rd a).hs ++ _).foldl (addH f) (L, line) = _
      rw [List.foldl_append, e1, e2, hg, bmp_app _ _ _ _ (by rw [hlen]; exact h2), bmp_two, List.append_assoc]
      congr 3
      push_cast
      omega
     ·rw [e3, List.take_append_of_le_length (by simp; omega), List.take_take, Nat.min_self]
    ·rw [if_pos hc2] at h
     exact absurd h hc2
   ·rw [if_pos hc] at h
    exact absurd h hc
theorem fold_I (f : Nat → Int) : ∀ k a e d, (rdT f k a e d).code = 0 → ∀ (L : List Ic) (line : List Nat), d ≤ line.length → (0 < d → line.getD (d - 1) 0 < L.length) →
  ∃ rest, (rdT f k a e d).hs.foldl (addH f) (L, line) = (bmpL L line d ++ (rdT f k a e d).its, line.take d ++ L.length :: rest)
 | 0, a, e, d, h, _, _, _, _ => by simp [rdT] at h
 | k + 1, a, e, d, h, L, line, h1, h2 => by
  rw [rdT] at h ⊢
  by_cases hd : (hdC f a e d).1 = 0
  ·rw [if_neg (fun h => h hd)] at h ⊢
   by_cases hm : mdT (f a) = false
   ·rw [if_pos hm]
    exact ⟨[], rfl⟩
   ·rw [if_neg hm] at h ⊢
    have hI := fun x hx L line (g1 : d + 1 ≤ List.length line) (g2 : line.getD d 0 < List.length L) => fold_I f k x (hdE f a e) (d + 1) hx L line g1 (fun _ => g2)
    have K := fold_K (f := f) (t := hdE f a e) (d := d) (rd := fun x => rdT f k x (hdE f a e) (d + 1)) hI (hdE f a e - hdS f a e) (hdS f a e)
    generalize rdK (fun x => rdT f k x (hdE f a e) (d + 1)) (hdE f a e) (hdE f a e - hdS f a e) (hdS f a e) = Q at K h ⊢
    by_cases hc : Q.1.code = 0
    ·rw [if_neg (fun h => h hc)]
     have hml := bmpL_len L line d
     have hlt : (line.take d).length = d := by rw [List.length_take]; omega
     have hg : (line.take d ++ [L.length]).getD d 0 = L.length := by
      simp only [List.getD_eq_getElem?_getD]
      rw [List.getElem?_append_right (by omega), hlt, Nat.sub_self]
      rfl
     obtain ⟨line', e1, e2⟩ := K hc (bmpL L line d ++ [itH f (hdOf f a e d)]) (line.take d ++ [L.length]) (by rw [List.length_append, hlt]; simp) (by rw [hg, List.length_append, hml]; simp)
     rw [hg] at e1
     have hm1 : mdT (f a) = true := by simpa using hm
     refine ⟨line'.drop (d + 1), ?_⟩
     show List.foldl (addH f) (addH f (L, line) (hdOf f a e d)) Q.1.hs = _
     have e0 : addH f (L, line) (hdOf f a e d) = (bmpL L line d ++ [itH f (hdOf f a e d)], line.take d ++ [L.length]) := rfl
     rw [e0, e1]
     have e3 : bmp (Q.2 : Int) (bmpL L line d ++ [itH f (hdOf f a e d)]) L.length = bmpL L line d ++ [⟨f a, (Q.2 : Int), []⟩] := by
      rw [← hml, bmp_end]
      unfold itH hdOf
      simp [hm1]
     rw [e3]
     have e4 : line' = line.take d ++ L.length :: line'.drop (d + 1) := by
      have := List.take_append_drop (d + 1) line'
      rw [e2, List.take_of_length_le (by rw [List.length_append, hlt]; simp)] at this
      rw [List.append_assoc] at this
      exact this.symm
     rw [← e4]
     simp
    ·rw [if_pos hc] at h
     exact absurd h hc
  ·rw [if_pos hd] at h
   exact absurd h hd
theorem rdK_len {t : Nat} {rd : Nat → Rdr} (h : ∀ a, (rd a).code = 0 → (rd a).its.length + a ≤ (rd a).nx) : ∀ m a, (rdK rd t m a).1.code = 0 → (rdK rd t m a).1.its.length + a ≤ (rdK rd t m a).1.nx
 | 0, a, _ => by simp [rdK]
 | m + 1, a, hc => by
  rw [rdK] at hc ⊢
  by_cases hle : t ≤ a
  ·rw [if_pos hle]; simp
  ·rw [if_neg hle] at hc ⊢
   by_cases h1 : (rd a).code = 0
   ·rw [if_neg (fun k => k h1)] at hc ⊢
    by_cases h2 : (rdK rd t m (rd a).nx).1.code = 0
    ·rw [if_neg (fun k => k h2)]
     have e1 := h a h1
     have e2 := rdK_len h m (rd a).nx h2
     show ((rd a).its ++ (rdK rd t m (rd a).nx).1.its).length + a ≤ (rdK rd t m (rd a).nx).1.nx
     rw [List.length_append]
     omega
    ·rw [if_pos h2] at hc; exact absurd hc h2
   ·rw [if_pos h1] at hc; exact absurd hc h1
theorem rdT_len (f : Nat → Int) : ∀ k a e d, (rdT f k a e d).code = 0 → (rdT f k a e d).its.length + a ≤ (rdT f k a e d).nx
 | 0, a, e, d, h => by simp [rdT] at h
 | k + 1, a, e, d, h => by
  rw [rdT] at h ⊢
  by_cases hd : (hdC f a e d).1 = 0
  ·rw [if_neg (fun h => h hd)] at h ⊢
   have h0 := hdC_ok hd
   by_cases hm : mdT (f a) = false
   ·rw [if_pos hm]
    show 1 + a ≤ hdE f a e
    omega
   ·rw [if_neg hm] at h ⊢
    have K := rdK_len (t := hdE f a e) (rd := fun x => rdT f k x (hdE f a e) (d + 1)) (fun x hx => rdT_len f k x (hdE f a e) (d + 1) hx) (hdE f a e - hdS f a e) (hdS f a e)
    have N : ∀ m x, x ≤ hdE f a e → (rdK (fun x => rdT f k x (hdE f a e) (d + 1)) (hdE f a e) m x).1.code = 0 → (rdK (fun x => rdT f k x (hdE f a e) (d + 1)) (hdE f a e) m x).1.nx ≤ hdE f a e := by
     intro m
     induction m with
     | zero => intro x hx _; exact hx
     | succ m ih =>
      intro x hx hc
      rw [rdK] at hc ⊢
      by_cases hle : hdE f a e ≤ x
      ·rw [if_pos hle]; exact hx
      ·rw [if_neg hle] at hc ⊢
       by_cases h1 : (rdT f k x (hdE f a e) (d + 1)).code = 0
       ·rw [if_neg (fun k => k h1)] at hc ⊢
        by_cases h2 : (rdK (fun x => rdT f k x (hdE f a e) (d + 1)) (hdE f a e) m (rdT f k x (hdE f a e) (d + 1)).nx).1.code = 0
        ·rw [if_neg (fun k => k h2)]
         exact ih _ (rdT_nx f k x (hdE f a e) (d + 1) h1).2 h2
        ·rw [if_pos h2] at hc; exact absurd hc h2
       ·rw [if_pos h1] at hc; exact absurd hc h1
    have N1 := N (hdE f a e - hdS f a e) (hdS f a e) h0.2.2.2.2.2.2
    generalize rdK (fun x => rdT f k x (hdE f a e) (d + 1)) (hdE f a e) (hdE f a e - hdS f a e) (hdS f a e) = Q at K N1 h ⊢
    by_cases hc : Q.1.code = 0
    ·rw [if_neg (fun h => h hc)]
     have e1 := K hc
     have e2 := N1 hc
     show (_ :: Q.1.its).length + a ≤ hdE f a e
     rw [List.length_cons]
     omega
    ·rw [if_pos hc] at h; exact absurd h hc
  ·rw [if_pos hd] at h; exact absurd h hd
def Cp (t : It) : Prop := t.len ≤ t.cap ∧ t.cap ≤ 9223372036854775807
def CpL (M : List It) : Prop := ∀ t ∈ M, 0 < t.len → Cp t
end
end Go.Proofs.YtkogbinfhoiggaaGreatDoor
