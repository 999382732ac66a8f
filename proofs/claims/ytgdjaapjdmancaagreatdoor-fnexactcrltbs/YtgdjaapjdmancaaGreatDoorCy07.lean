/- Lists of items: what they tell, rows, bodies apart; an append of one list behind another. Walks: pieces of the program: what a piece's items are. Walk: slices.Reverse over bytes of one's own. Walks: IntBytes of the model and of the program. Walks: the model's items: l10Item, l10Int, l10Made, l10Ints. -/
import Derived.Test.YtgdjaapjdmancaaGreatDoorCy06
import Derived.Test.YtgdjaapjdmancaaGreatDoorChecked
import Derived.Test.YtgdjaapjdmancaaGreatDoorCy01
import Derived.Test.YtgdjaapjdmancaaGreatDoorCy05
namespace Go.Proofs.YtgdjaapjdmancaaGreatDoor

section
set_option linter.unusedVariables false
set_option linter.unusedSimpArgs false

open Go.RowKit

/-- What an item tells. -/
structure Ic where
  tag : Int
  kid : Int
  bd : List Int

/-- What it tells. -/
def ct (t : It) : Ic := ⟨t.tag, t.kid, (List.range t.len).map t.f⟩

/-- Its bytes behind the last are 0: then all of it is told by ct. -/
def Nf (t : It) : Prop := t.f = fun i => ((List.range t.len).map t.f).getD i 0

theorem getD_map {n : Nat} {f : Nat → Int} {i : Nat} (h : i < n) : ((List.range n).map f).getD i 0 = f i := by simp [h]

def nfF (n : Nat) (f : Nat → Int) : Nat → Int := fun i => ((List.range n).map f).getD i 0

theorem nfF_map (n : Nat) (f : Nat → Int) : (List.range n).map (nfF n f) = (List.range n).map f := by
  apply List.map_congr_left
  intro i hi
  exact getD_map (List.mem_range.1 hi)

def rowL (L : List It) : List Value := L.flatMap itW

theorem rowL_cons (t : It) (L : List It) : rowL (t :: L) = itW t ++ rowL L := by simp [rowL]

theorem rowL_append (L M : List It) : rowL (L ++ M) = rowL L ++ rowL M := by simp [rowL]

theorem rowL_len : ∀ L : List It, (rowL L).length = L.length * 3
  | [] => rfl
  | t :: L => by rw [rowL_cons, List.length_append, itW_len, rowL_len L, List.length_cons]; omega

theorem rowL_one (L : List It) : ∀ u ∈ rowL L, u.oneCell' = true := by
  intro u hu
  unfold rowL at hu
  rw [List.mem_flatMap] at hu
  obtain ⟨t, -, h⟩ := hu
  exact itW_one t u h

def dI : It := ⟨0, 0, none, 0, 0, 0, 0, fun _ => 0⟩

theorem itsW_rowL : ∀ L : List It, itsW (fun i => L.getD i dI) L.length = rowL L := by
  intro L
  have key : ∀ (n : Nat), n ≤ L.length → itsW (fun i => L.getD i dI) n = rowL (L.take n) := by
    intro n
    induction n with
    | zero => intro _; rfl
    | succ n ih =>
      intro h
      rw [itsW, ih (by omega), List.take_add_one, rowL_append]
      congr 1
      have : L[n]? = some (L.getD n dI) := by rw [List.getD_eq_getElem?_getD, List.getElem?_eq_getElem (by omega)]; rfl
      rw [this]
      simp [rowL]
  rw [key L.length (Nat.le_refl _), List.take_length]

/-- Bodies of one's own, apart from one another, at B or behind. -/
structure Bods (B : Nat) (W : World) (L : List It) : Prop where
  own : ∀ t ∈ L, BOwn W t.ad t.blk t.off t.len t.f
  up : ∀ t ∈ L, 0 < t.len → B ≤ t.blk
  nf : ∀ t ∈ L, Nf t
  apart : L.Pairwise (fun s t => 0 < s.len → 0 < t.len → s.blk ≠ t.blk)

theorem Bods.nil (B : Nat) (W : World) : Bods B W [] := ⟨fun _ h => by simp at h, fun _ h => by simp at h, fun _ h => by simp at h, List.Pairwise.nil⟩

theorem Bods.ext {B : Nat} {W W' : World} {L : List It} (h : Bods B W L) (e : Ext W W') : Bods B W' L := ⟨fun t ht => (h.own t ht).of_all e, h.up, h.nf, h.apart⟩

theorem Bods.low {B B' : Nat} {W : World} {L : List It} (h : Bods B W L) (e : B' ≤ B) : Bods B' W L := ⟨h.own, fun t ht h0 => Nat.le_trans e (h.up t ht h0), h.nf, h.apart⟩

theorem Bods.of_blk {B : Nat} {W W' : World} {L : List It} (h : Bods B W L) (e : ∀ t ∈ L, 0 < t.len → W'.heap[t.blk]? = W.heap[t.blk]?) : Bods B W' L :=
  ⟨fun t ht => ⟨⟨(h.own t ht).at', fun i hi => (World.cell?_of_block (a := ⟨t.blk, t.off + i, none⟩) (e t ht (by omega))).trans ((h.own t ht).cell i hi)⟩, fun i hi => (World.frozen?_of_block (a := ⟨t.blk, t.off + i, none⟩) (e t ht (by omega))).trans ((h.own t ht).free i hi)⟩, h.up, h.nf, h.apart⟩

theorem Bods.lt {B : Nat} {W : World} {L : List It} (h : Bods B W L) {t : It} (ht : t ∈ L) (h0 : 0 < t.len) : t.blk < W.heap.size := (h.own t ht).toBSeg.lt h0

theorem Bods.append {B B1 B2 : Nat} {W W2 : World} {L M : List It} (h : Bods B1 W L) (e : Ext W W2) (k : Bods B2 W2 M) (h1 : B ≤ B1) (h2 : B ≤ B2) (hs : W.heap.size ≤ B2) : Bods B W2 (L ++ M) := by
  refine ⟨fun t ht => ?_, fun t ht => ?_, fun t ht => ?_, ?_⟩
  · rcases List.mem_append.1 ht with ht | ht
    · exact (h.own t ht).of_all e
    · exact k.own t ht
  · rcases List.mem_append.1 ht with ht | ht
    · exact fun h0 => Nat.le_trans h1 (h.up t ht h0)
    · exact fun h0 => Nat.le_trans h2 (k.up t ht h0)
  · rcases List.mem_append.1 ht with ht | ht
    · exact h.nf t ht
    · exact k.nf t ht
  · rw [List.pairwise_append]
    refine ⟨h.apart, k.apart, fun s hs1 t ht h0 h3 => ?_⟩
    have a := h.lt hs1 h0
    have b := k.up t ht h3
    omega

/-- One that has no body. -/
def bare (tag kid : Int) : It := ⟨tag, kid, none, 0, 0, 0, 0, fun i => ([] : List Int).getD i 0⟩

theorem ct_bare (tag kid : Int) : ct (bare tag kid) = ⟨tag, kid, []⟩ := rfl

theorem Bods.bare {B : Nat} {W : World} {L : List It} (h : Bods B W L) (tag kid : Int) : Bods B W (Proofs.YtgdjaapjdmancaaGreatDoor.bare tag kid :: L) := by
  refine ⟨fun t ht => ?_, fun t ht => ?_, fun t ht => ?_, ?_⟩
  · rcases List.mem_cons.1 ht with rfl | ht
    · exact BOwn.nil _ _ _ _ _
    · exact h.own t ht
  · rcases List.mem_cons.1 ht with rfl | ht
    · exact fun h0 => absurd h0 (Nat.lt_irrefl _)
    · exact h.up t ht
  · rcases List.mem_cons.1 ht with rfl | ht
    · rfl
    · exact h.nf t ht
  · exact List.pairwise_cons.2 ⟨fun t _ h0 => absurd h0 (Nat.lt_irrefl _), h.apart⟩

/-- One body. -/
theorem Bods.one {B : Nat} {W : World} {a : Option Addr} {g off n cap : Nat} {f : Nat → Int} (tag : Int) (h : BOwn W a g off n f) (hg : B ≤ g) : Bods B W [⟨tag, 0, a, g, off, n, cap, nfF n f⟩] :=
  ⟨fun t ht => by rw [List.mem_singleton] at ht; subst ht; exact h.congr (fun i hi => (getD_map hi).symm), fun t ht _ => by rw [List.mem_singleton] at ht; subst ht; exact hg, fun t ht => by
    rw [List.mem_singleton] at ht
    subst ht
    show nfF n f = fun i => ((List.range n).map (nfF n f)).getD i 0
    rw [nfF_map]
    rfl, List.pairwise_singleton _ _⟩

theorem ct_one (tag : Int) (a : Option Addr) (g off n cap : Nat) (f : Nat → Int) : ct ⟨tag, 0, a, g, off, n, cap, nfF n f⟩ = ⟨tag, 0, (List.range n).map f⟩ := by
  show Ic.mk tag 0 _ = _
  rw [nfF_map]

/-- A list of items: the row is one's own, and so are the bodies. -/
structure LAcc (B : Nat) (W : World) (v : Value) (L : List It) : Prop where
  row : W.ownsRow B 60 3 v L.length (rowL L)
  bods : Bods B W L
  away : ∀ t ∈ L, 0 < t.len → v.ownBlock ≠ some t.blk

theorem LAcc.ext {B : Nat} {W W' : World} {v : Value} {L : List It} (h : LAcc B W v L) (e : Ext W W') : LAcc B W' v L := ⟨ownsRow_ext h.row e, h.bods.ext e, h.away⟩

theorem ownsRow_low {W : World} {B B' e s n : Nat} {v : Value} {xs : List Value} (h : W.ownsRow B e s v n xs) (hB : B' ≤ B) : W.ownsRow B' e s v n xs := by
  refine ⟨h.1, ?_⟩
  rcases h.2 with h0 | ⟨g, cap, cur, rfl, hb, rest⟩
  · exact .inl h0
  · exact .inr ⟨g, cap, cur, rfl, Nat.le_trans hB hb, rest⟩

theorem LAcc.low {B B' : Nat} {W : World} {v : Value} {L : List It} (h : LAcc B W v L) (e : B' ≤ B) : LAcc B' W v L := ⟨ownsRow_low h.row e, h.bods.low e, h.away⟩

theorem ownsRow_slc {W : World} {B e s m : Nat} {v : Value} {xs : List Value} (h : W.ownsRow B e s v m xs) : ∃ a cap, v = .slice a m cap := by
  rcases h.2 with ⟨rfl, rfl⟩ | ⟨g, cap, cur, rfl, _⟩
  · exact ⟨_, _, rfl⟩
  · exact ⟨_, _, rfl⟩

theorem Tryz.infoItm : (Tryz.prog.info? 60).map (fun i => (i.zero, i.size, i.bytes)) = some (some (.agg #[.int .i64 0, .slice none 0 0, .int .i64 0]), 3, 40) := by kernel_rfl

/-- The row of another list is read. -/
theorem row_cells {W : World} {B g n cap : Nat} {L : List It} (h : W.ownsRow B 60 3 (.slice (some ⟨g, 0, none⟩) n cap) n (rowL L)) : ∀ j u, (rowL L)[j]? = some u → W.cell? ((⟨g, 0, none⟩ : Addr).add j) = some u := by
  intro j u hj
  have hl : j < n * 3 := by
    have := (List.getElem?_eq_some_iff.1 hj).1
    rw [h.1] at this
    exact this
  have := World.ownsRow.cellAt h j hl
  rw [hj] at this
  have ha : (⟨g, 0, none⟩ : Addr).add j = ⟨g, j, none⟩ := by
    by_cases h0 : j = 0
    · subst h0; simp [Addr.add]
    · simp [Addr.add, h0]
  rw [ha]
  simpa using this

/-- An append of a list of items behind another one. -/
theorem wp_appL {o : Oper} {a0 : Act} {K : Act → World → Prop} {Q : Exit → Act → World → Prop} {W2 : World} (s x : Operand)
    (ho : o.op = .call { callee := .builtin .append, args := #[s, x], argTypes := #[41, 41] })
    (B B2 : Nat) (W : World) (v v2 : Value) (L M : List It) (hs : a0.eval s = v) (hA : LAcc B W v L) (e : Ext W W2) (hx : a0.eval x = v2) (hM : W2.ownsRow B2 60 3 v2 M.length (rowL M)) (hB2 : Bods B W2 (L ++ M)) (hnM : ∀ t ∈ M, 0 < t.len → v.ownBlock ≠ some t.blk)
    (hm : L.length + M.length ≤ 1048576) (hbase : B ≤ W.heap.size)
    (h : ∀ v' w', LAcc B w' v' (L ++ M) → (∀ S, (∀ k, v.ownBlock = some k → S ≤ k) → S ≤ W2.heap.size → Below S W2 w') → K (a0.put o.dst v') w') : o.wp Tryz.prog a0 W2 K Q := by
  obtain ⟨i0, hi, hz0, hz1, hz2⟩ := info_parts Tryz.infoItm
  have hWs := Below.size e
  rcases hM.2 with ⟨h0, h1⟩ | ⟨g, cap, cur, h0, -⟩
  · obtain rfl : M = [] := by cases M with | nil => rfl | cons _ _ => simp at h1
    have hr := run_append_nothing (P := Tryz.prog) B 41 o.type 60 i0 3 Tryz.underlying41 hi _ L.length 0 (rowL L) (ownsRow_ext hA.row e)
    unfold Oper.wp execOp
    simp only [ho, resolve, invoke, builtin, Sem.run_bind, Sem.run_pure, Result.andThen_ok, List.map_toArray, List.map_cons, List.map_nil, hs, hx, h0, hr]
    exact h v W2 (by rw [List.append_nil]; exact hA.ext e) (fun S _ _ => Below.refl _ _)
  · rw [h0] at hM
    obtain ⟨v', w', hr, h2, h3, h4, h5⟩ := run_append_own_at (P := Tryz.prog) W2 B 41 o.type 60 i0 (.agg #[.int .i64 0, .slice none 0 0, .int .i64 0]) 3 40 Tryz.underlying41 hi hz0 hz1 hz2 rfl (by decide) v L.length (rowL L) (ownsRow_ext hA.row e) ⟨g, 0, none⟩ M.length cap (rowL M) (rowL_len M) (row_cells hM) (rowL_one M) (by unfold maxLen; omega) (by omega) (by omega)
    unfold Oper.wp execOp
    simp only [ho, resolve, invoke, builtin, Sem.run_bind, Sem.run_pure, Result.andThen_ok, List.map_toArray, List.map_cons, List.map_nil, hs, hx, h0, hr]
    have hne : ∀ t ∈ L ++ M, 0 < t.len → v.ownBlock ≠ some t.blk := fun t ht h0 => by
      rcases List.mem_append.1 ht with ht | ht
      · exact hA.away t ht h0
      · exact hnM t ht h0
    refine h v' w' ⟨by rw [List.length_append, rowL_append]; exact h2, hB2.of_blk (fun t ht h0 => h3.block _ (hB2.lt ht h0) (fun hh => hne t ht h0 hh.symm)), fun t ht h0 hh => ?_⟩ (fun S hS hS2 => (Below.refl _ _).grown h3 hS2 hS)
    rcases h5 with h5 | h5
    · exact hne t ht h0 (by rw [← h5]; exact hh)
    · rw [h5] at hh
      simp only [Option.some.injEq] at hh
      have := hB2.lt ht h0
      omega

/-- What is made later lies apart. -/
theorem LAcc.later {B : Nat} {W W2 : World} {v : Value} {L M : List It} (hA : LAcc B W v L) (e : Ext W W2) (hb : Bods W.heap.size W2 M) (hB : B ≤ W.heap.size) : Bods B W2 (L ++ M) ∧ ∀ t ∈ M, 0 < t.len → v.ownBlock ≠ some t.blk :=
  ⟨hA.bods.append e hb (Nat.le_refl _) hB (Nat.le_refl _), fun t ht h0 hh => by
    have := (hA.row.lt _ hh).2
    have := hb.up t ht h0
    omega⟩

theorem wpList_appL {ops : Array Oper} {rest : List Oper} {o : Oper} {a0 : Act} {Q : Exit → Act → World → Prop} {W2 : World} (hgd : o.guard = none) (s x : Operand)
    (ho : o.op = .call { callee := .builtin .append, args := #[s, x], argTypes := #[41, 41] })
    (B B2 : Nat) (W : World) (v v2 : Value) (L M : List It) (hs : a0.eval s = v) (hA : LAcc B W v L) (e : Ext W W2) (hx : a0.eval x = v2) (hM : W2.ownsRow B2 60 3 v2 M.length (rowL M)) (hB2 : Bods B W2 (L ++ M)) (hnM : ∀ t ∈ M, 0 < t.len → v.ownBlock ≠ some t.blk)
    (hm : L.length + M.length ≤ 1048576) (hbase : B ≤ W.heap.size)
    (h : ∀ v' w', LAcc B w' v' (L ++ M) → (∀ S, (∀ k, v.ownBlock = some k → S ≤ k) → S ≤ W2.heap.size → Below S W2 w') → wpList Tryz.prog ops Q rest (a0.put o.dst v') w') : wpList Tryz.prog ops Q (o :: rest) a0 W2 :=
  wpList_plain hgd fun K hK => wp_appL s x ho B B2 W v v2 L M hs hA e hx hM hB2 hnM hm hbase fun v' w' h1 h2 => hK _ _ (h v' w' h1 h2)

/-- The walk stands at an append. -/
theorem stop_app {P : Program} {ops : Array Oper} {rest : List Oper} {o : Oper} {a0 : Act} {Q : Exit → Act → World → Prop} {W : World} {s x : Operand} {ts : Array TypeId}
    (ho : o.op = .call { callee := .builtin .append, args := #[s, x], argTypes := ts }) (h : Hid (wpList P ops Q (o :: rest) a0 W)) : wpList P ops Q (o :: rest) a0 W := h.out

/-- A row of one item that is built. -/
theorem ownsRow_it (w : World) (t : It) : (w.alloc (.cells #[.int .i64 t.tag, .slice t.ad t.len t.cap, .int .i64 t.kid] 60)).ownsRow w.heap.size 60 3 (.slice (some ⟨w.heap.size, 0, none⟩) 1 1) [t].length (rowL [t]) :=
  ⟨rfl, .inr ⟨w.heap.size, 1, #[.int .i64 t.tag, .slice t.ad t.len t.cap, .int .i64 t.kid], rfl, Nat.le_refl _, heap_alloc_new w _, Nat.le_refl _, by decide, by simp, by simp [rowL, itW]⟩⟩

theorem LAcc.it (w : World) (t : It) (B : Nat) (h : Bods B w [t]) (hB : B ≤ w.heap.size) : LAcc B (w.alloc (.cells #[.int .i64 t.tag, .slice t.ad t.len t.cap, .int .i64 t.kid] 60)) (.slice (some ⟨w.heap.size, 0, none⟩) 1 1) [t] :=
  ⟨ownsRow_low (ownsRow_it w t) hB, h.ext (Ext.alloc _ _), fun s hs h0 hh => by
    have := h.lt hs h0
    simp only [Value.ownBlock, Option.some.injEq] at hh
    omega⟩

theorem LAcc.nil (w : World) (B : Nat) (hB : B ≤ w.heap.size) : LAcc B (w.alloc (.cells #[] 60)) (.slice (some ⟨w.heap.size, 0, none⟩) 0 0) [] :=
  ⟨ownsRow_low (World.ownsRow_made (base := w.heap.size) (e := 60) (size := 3) w #[] 0 (Nat.le_refl _) (by simp) rfl) hB, Bods.nil _ _, fun _ h => by simp at h⟩

/-- A call that hands back a list of items that tell C. -/
def GivesIs (B : Nat) (w : World) (C : List Ic) (e : Ending) (w' : World) : Prop := ∃ v L, e = .returned v ∧ LAcc B w' v L ∧ L.map ct = C ∧ Ext w w'
end

section
set_option linter.unusedVariables false
set_option linter.unusedSimpArgs false

open Go.RowKit

/-- A new row of these items. -/
def GivesRw (W : World) (L : List It) (r : Ending) (w' : World) : Prop := ∃ u, r = .returned u ∧ w'.ownsRow W.heap.size 60 3 u L.length (rowL L) ∧ Ext W w'

/-- A piece whose items are L. -/
def ItsC (v : Value) (W : World) (L : List It) : Prop :=
  ∃ (tag : Int) (a : Option Addr) (n cap : Nat), (v = .iface 113 (.agg #[.int .i64 tag, .slice a n cap]) ∧ Calls Tryz.prog 142 #[.agg #[.int .i64 tag, .slice a n cap]] W (GivesRw W L)) ∨
    (v = .iface 98 (.agg #[.int .i64 tag, .slice a n cap]) ∧ Calls Tryz.prog 140 #[.agg #[.int .i64 tag, .slice a n cap]] W (GivesRw W L))

theorem item_any (tag kid : Int) (a : Option Addr) (n cap : Nat) (w : World) :
    Calls Tryz.prog 141 #[.agg #[.int .i64 tag], .slice a n cap, .int .i64 kid] w fun e w' => e = .returned (.agg #[.int .i64 tag, .slice a n cap, .int .i64 kid]) ∧ Ext w w' := by
  go_enter Tryz.func141, Tryz.ntmps141
  go_wp2
  refine bodyPost_ret (v := .agg #[.int .i64 tag, .slice a n cap, .int .i64 kid]) (by simp [results, Tryz.results141, go_sem]) rfl ⟨rfl, ?_⟩
  first | exact Ext.trans (Ext.alloc _ _) (Ext.alloc _ _) | exact (((Ext.trans (Ext.alloc _ _) (Ext.alloc _ _)).setCell (by simp) _).setCell (by simp) _).setCell (by simp) _

set_option maxHeartbeats 800000 in
theorem leafItems_any (tag : Int) (a : Option Addr) (g off n cap : Nat) (f : Nat → Int) (w : World) :
    Calls Tryz.prog 142 #[.agg #[.int .i64 tag, .slice a n cap]] w (GivesRw w [⟨tag, 0, a, g, off, n, cap, f⟩]) := by
  go_enter Tryz.func142, Tryz.ntmps142
  go_wp2_with fail
  refine (item_any tag 0 a n cap _).mono ?_
  rintro e w1 ⟨rfl, hE⟩
  have HE := hide (Ext.trans (Ext.alloc _ _) hE)
  clear hE
  go_wp2
  go_ret
  exact ⟨_, rfl, ownsRow_low (ownsRow_it w1 ⟨tag, 0, a, g, off, n, cap, f⟩) (Below.size HE.out), Ext.trans HE.out (Ext.alloc _ _)⟩

/-- Rows of items put behind each other. -/
theorem wpList_appRow {ops : Array Oper} {rest : List Oper} {o : Oper} {a0 : Act} {Q : Exit → Act → World → Prop} {W2 : World} (hgd : o.guard = none) (s x : Operand)
    (ho : o.op = .call { callee := .builtin .append, args := #[s, x], argTypes := #[41, 41] })
    (B B2 : Nat) (v v2 : Value) (L M : List It) (hs : a0.eval s = v) (hA : W2.ownsRow B 60 3 v L.length (rowL L)) (hx : a0.eval x = v2) (hM : W2.ownsRow B2 60 3 v2 M.length (rowL M))
    (hm : L.length + M.length ≤ 1048576) (hbase : B ≤ W2.heap.size)
    (h : ∀ v' w', w'.ownsRow B 60 3 v' (L ++ M).length (rowL (L ++ M)) → Below B W2 w' → wpList Tryz.prog ops Q rest (a0.put o.dst v') w') : wpList Tryz.prog ops Q (o :: rest) a0 W2 := by
  refine wpList_plain hgd fun K hK => ?_
  obtain ⟨i0, hi, hz0, hz1, hz2⟩ := info_parts Tryz.infoItm
  rcases hM.2 with ⟨h0, h1⟩ | ⟨g, cap, cur, h0, -⟩
  · obtain rfl : M = [] := by cases M with | nil => rfl | cons _ _ => simp at h1
    have hr := run_append_nothing (P := Tryz.prog) B 41 o.type 60 i0 3 Tryz.underlying41 hi _ L.length 0 (rowL L) hA
    unfold Oper.wp execOp
    simp only [ho, resolve, invoke, builtin, Sem.run_bind, Sem.run_pure, Result.andThen_ok, List.map_toArray, List.map_cons, List.map_nil, hs, hx, h0, hr]
    exact hK _ _ (h v W2 (by rw [List.append_nil]; exact hA) (Below.refl _ _))
  · rw [h0] at hM
    obtain ⟨v', w', hr, h2, h3, h4, h5⟩ := run_append_own_at (P := Tryz.prog) W2 B 41 o.type 60 i0 (.agg #[.int .i64 0, .slice none 0 0, .int .i64 0]) 3 40 Tryz.underlying41 hi hz0 hz1 hz2 rfl (by decide) v L.length (rowL L) hA ⟨g, 0, none⟩ M.length cap (rowL M) (rowL_len M) (row_cells hM) (rowL_one M) (by unfold maxLen; omega) (by omega) (by omega)
    unfold Oper.wp execOp
    simp only [ho, resolve, invoke, builtin, Sem.run_bind, Sem.run_pure, Result.andThen_ok, List.map_toArray, List.map_cons, List.map_nil, hs, hx, h0, hr]
    exact hK _ _ (h v' w' (by rw [List.length_append, rowL_append]; exact h2) ((Below.refl _ _).grown h3 hbase (fun k hk => (hA.lt k hk).1)))

/-- Cells of a row of single cells. -/
theorem row_cell1 {W : World} {B e n cap g : Nat} {xs : List Value} (h : W.ownsRow B e 1 (.slice (some ⟨g, 0, none⟩) n cap) n xs) {i : Nat} {x : Value} (hi : xs[i]? = some x) : W.cell? ⟨g, i, none⟩ = some x := by
  have hl : i < n * 1 := by
    have := (List.getElem?_eq_some_iff.1 hi).1
    rw [h.1] at this
    exact this
  have := World.ownsRow.cellAt h i hl
  rw [hi] at this
  simpa using this

theorem take_flat (P : List (Value × List It)) (j : Nat) (hj : j < P.length) : (P.take j).flatMap (·.2) ++ (P[j]).2 = (P.take (j + 1)).flatMap (·.2) := by
  rw [List.take_add_one, List.getElem?_eq_getElem hj, List.flatMap_append]
  simp

theorem flat_len (P : List (Value × List It)) (j : Nat) : ((P.take j).flatMap (·.2)).length ≤ (P.flatMap (·.2)).length := by
  have h := congrArg (fun L : List (Value × List It) => (L.flatMap (·.2)).length) (List.take_append_drop j P)
  simp only [List.flatMap_append, List.length_append] at h
  omega

theorem Tryz.methLeaf (tg : Int) (aa : Option Addr) (nn cc : Nat) (w : World) : (method 254 113 (.agg #[.int .i64 tg, .slice aa nn cc]) "loop.example/g00148/impl.items").run Tryz.prog w = .ok (142, .agg #[.int .i64 tg, .slice aa nn cc]) w := by kernel_rfl

theorem Tryz.methKnot (tg : Int) (aa : Option Addr) (nn cc : Nat) (w : World) : (method 254 98 (.agg #[.int .i64 tg, .slice aa nn cc]) "loop.example/g00148/impl.items").run Tryz.prog w = .ok (140, .agg #[.int .i64 tg, .slice aa nn cc]) w := by kernel_rfl

set_option maxHeartbeats 3200000 in
set_option maxRecDepth 100000 in
theorem knotItems_any (tag : Int) (P : List (Value × List It)) (B : Nat) (v : Value) (w : World) (hrow : w.ownsRow B 47 1 v P.length (P.map (·.1))) (hits : ∀ p ∈ P, ∀ W', Ext w W' → ItsC p.1 W' p.2) (hlen : (P.flatMap (·.2)).length ≤ 100000) (hP : P.length ≤ 100000) :
    Calls Tryz.prog 140 #[.agg #[.int .i64 tag, v]] w (GivesRw w (bare tag P.length :: P.flatMap (·.2))) := by
  obtain ⟨a, cap, rfl⟩ := ownsRow_slc hrow
  have Hr := hide hrow
  have Hi := hide hits
  have Hl := hide hlen
  obtain ⟨R, hR⟩ : ∃ R, P.flatMap (·.2) = R := ⟨_, rfl⟩
  have HR := hide hR
  rw [hR]
  obtain ⟨n, hn⟩ : ∃ n, P.length = n := ⟨_, rfl⟩
  have Hn := hide hn
  rw [hn] at hP ⊢
  clear hrow hits hR hn hlen
  go_enter Tryz.func140, Tryz.ntmps140
  go_wp2_with (at_builtin; refine stop_app rfl ?_)
  refine (item_any tag n none 0 0 _).mono ?_
  rintro e w1 ⟨rfl, hE⟩
  have HE := hide (Ext.trans (Ext.alloc _ _) hE)
  have HA := hide (ownsRow_it w1 (bare tag n))
  have k1 := (Below.cell (Ext.trans hE (Ext.alloc w1 (.cells #[.int .i64 tag, .slice none 0 0, .int .i64 (n : Int)] 60))) (p := ⟨w.heap.size, 1, none⟩) (by simp)).trans (World.cell?_alloc_new _ _ _ _)
  clear hE
  go_wp2_with (at_builtin; refine stop_app rfl ?_)
  rw [show (.cells #[.int .i64 tag, .slice none 0 0, .int .i64 (n : Int)] 60 : Obj) = .cells #[.int .i64 (bare tag n).tag, .slice (bare tag n).ad (bare tag n).len (bare tag n).cap, .int .i64 (bare tag n).kid] 60 from rfl]
  go_loopw [3, 16] (fun u k wr => ∃ (j : Nat), j ≤ n ∧ k = .int .i64 (j : Int) ∧ wr.ownsRow w1.heap.size 60 3 u (bare tag n :: (P.take j).flatMap (·.2)).length (rowL (bare tag n :: (P.take j).flatMap (·.2))) ∧ Ext w wr ∧ w1.heap.size ≤ wr.heap.size) (fun _ k _ => n - (intOf k).toNat)
  case atStart => exact ⟨0, Nat.zero_le _, rfl, HA.out, Ext.trans HE.out (Ext.alloc _ _), by simp⟩
  case round =>
    clear HA
    obtain ⟨j, hj, rfl, hA, hE, hw⟩ := hrel
    have Hw := hide hw
    clear hw
    have HA := hide hA
    have HX := hide hE
    clear hA hE
    by_cases hlt : j < n
    · have hjP : j < P.length := by rw [Hn.out]; exact hlt
      have hjk : (j : Int) < (n : Int) := by omega
      have hpj : (P.map (·.1))[j]? = some (P[j]).1 := by rw [List.getElem?_map, List.getElem?_eq_getElem hjP]; rfl
      have hrw := ownsRow_ext Hr.out HX.out
      rw [Hn.out] at hrw
      obtain ⟨g, rfl⟩ : ∃ g, a = some ⟨g, 0, none⟩ := by
        rcases hrw.2 with ⟨h, h2⟩ | ⟨g, cap', cur, h, -⟩
        · omega
        · simp only [Value.slice.injEq] at h
          exact ⟨g, h.1⟩
      have cj := row_cell1 hrw hpj
      have HIt := hide (Hi.out P[j] (List.getElem_mem hjP) wr HX.out)
      have HT : Hid ((bare tag n :: (P.take j).flatMap (·.2)) ++ (P[j]).2 = bare tag n :: (P.take (j + 1)).flatMap (·.2)) := by show _ = _; rw [List.cons_append, take_flat P j hjP]
      have HLj : Hid ((bare tag n :: (P.take j).flatMap (·.2)).length + (P[j]).2.length ≤ 1048576) := by
        have h1 := flat_len P (j + 1)
        rw [← take_flat P j hjP, List.length_append] at h1
        have := Hl.out
        show _ ≤ _
        rw [List.length_cons]
        omega
      clear hrw hpj
      generalize (P[j]).1 = vj at *
      generalize (P[j]).2 = Lj at *
      generalize bare tag n :: (P.take j).flatMap (·.2) = Aj at *
      have W1 : Hid (wrap64 ((j : Int) + 1) = (j : Int) + 1) := by show _ = _; unfold wrap64; omega
      obtain ⟨tg, aa, nn, cc, h | h⟩ := HIt.out
      · obtain ⟨rfl, hcl⟩ := h
        have HCl := hide hcl
        have hm := @Tryz.methLeaf tg aa nn cc
        clear hcl HIt
        go_wp2_with (at_builtin; refine stop_app rfl ?_)
        refine HCl.out.mono ?_
        rintro e2 w2 ⟨u2, rfl, h2, hE2⟩
        have H2 := hide h2
        have HE2 := hide hE2
        clear h2 hE2 hm cj
        go_wp2_with (at_builtin; refine stop_app rfl ?_)
        refine hide ?_
        refine wpList_appRow rfl _ _ rfl w1.heap.size wr.heap.size _ _ Aj Lj rfl (ownsRow_ext HA.out HE2.out) rfl H2.out HLj.out (by have := Below.size HE2.out; have := Hw.out; omega) ?_
        intro v' w3 h3 hB3
        have H3 := hide h3
        have HX3 : Hid (Ext w w3) := hide (Below.trans (Ext.trans HX.out HE2.out) (hB3.mono (by have := Below.size HE.out; omega)))
        have Hw3 : Hid (w1.heap.size ≤ w3.heap.size) := by
          have := Below.size hB3
          have := Below.size HE2.out
          have := Hw.out
          show _ ≤ _
          omega
        clear h3 hB3
        go_wp2
        refine ⟨⟨j + 1, by omega, by (try rw [W1.out]); congr 1, by rw [← HT.out]; exact H3.out, HX3.out, Hw3.out⟩, ?_⟩
        try rw [W1.out]
        show n - ((j : Int) + 1).toNat < n - ((j : Int)).toNat
        omega
      · obtain ⟨rfl, hcl⟩ := h
        have HCl := hide hcl
        have hm := @Tryz.methKnot tg aa nn cc
        clear hcl HIt
        go_wp2_with (at_builtin; refine stop_app rfl ?_)
        refine HCl.out.mono ?_
        rintro e2 w2 ⟨u2, rfl, h2, hE2⟩
        have H2 := hide h2
        have HE2 := hide hE2
        clear h2 hE2 hm cj
        go_wp2_with (at_builtin; refine stop_app rfl ?_)
        refine hide ?_
        refine wpList_appRow rfl _ _ rfl w1.heap.size wr.heap.size _ _ Aj Lj rfl (ownsRow_ext HA.out HE2.out) rfl H2.out HLj.out (by have := Below.size HE2.out; have := Hw.out; omega) ?_
        intro v' w3 h3 hB3
        have H3 := hide h3
        have HX3 : Hid (Ext w w3) := hide (Below.trans (Ext.trans HX.out HE2.out) (hB3.mono (by have := Below.size HE.out; omega)))
        have Hw3 : Hid (w1.heap.size ≤ w3.heap.size) := by
          have := Below.size hB3
          have := Below.size HE2.out
          have := Hw.out
          show _ ≤ _
          omega
        clear h3 hB3
        go_wp2
        refine ⟨⟨j + 1, by omega, by (try rw [W1.out]); congr 1, by rw [← HT.out]; exact H3.out, HX3.out, Hw3.out⟩, ?_⟩
        try rw [W1.out]
        show n - ((j : Int) + 1).toNat < n - ((j : Int)).toNat
        omega
    · obtain rfl : j = n := by omega
      have hjk : ¬ (j : Int) < (j : Int) := by omega
      have HT : Hid ((P.take j).flatMap (·.2) = R) := by show _ = _; rw [← Hn.out, List.take_length]; exact HR.out
      rw [HT.out] at HA
      generalize bare tag j :: R = AR at *
      go_wp2
      go_ret
      exact ⟨_, rfl, ownsRow_low HA.out (Below.size HE.out), HX.out⟩
end

section
set_option linter.unusedVariables false
set_option linter.unusedSimpArgs false

open Go.RowKit

/-- Turned about up to place i from each end. -/
def revF (f : Nat → Int) (n i : Nat) (k : Nat) : Int := if k < i ∨ n - i ≤ k then f (n - 1 - k) else f k

set_option maxHeartbeats 1600000 in
set_option maxRecDepth 100000 in
theorem rev_any (a : Option Addr) (g off n cap : Nat) (f : Nat → Int) (w : World) (hs : BOwn w a g off n f) (hn : n ≤ 1048576) :
    Calls Tryz.prog 95 #[.slice a n cap] w fun e w' => e = .returned (.tuple #[]) ∧ BOwn w' a g off n (fun i => f (n - 1 - i)) ∧ Touch g w w' := by
  go_enter Tryz.func95, Tryz.ntmps95
  go_wp2
  go_loopw [2, 3] (fun s2 s3 wr => ∃ i : Nat, 2 * i ≤ n + 1 ∧ s2 = .int .i64 i ∧ s3 = .int .i64 ((n : Int) - 1 - i) ∧ BOwn wr a g off n (revF f n i) ∧ Touch g w wr) (fun s2 _ _ => n - (intOf s2).toNat)
  case atStart => exact ⟨0, by omega, rfl, by go_num, hs.congr (fun k hk => by unfold revF; rw [if_neg (by omega)]), Touch.refl _ _⟩
  case round =>
    obtain ⟨i, hi, rfl, rfl, hO, hT⟩ := hrel
    by_cases hlt : (i : Int) < (n : Int) - 1 - i
    · obtain ⟨j, hj⟩ : ∃ j, n - 1 - i = j := ⟨_, rfl⟩
      have hjz : (n : Int) - 1 - i = (j : Int) := by omega
      have hij : (i : Int) < j := by omega
      obtain rfl := hs.at' (by omega)
      have ci := hO.cell i (by omega)
      have fi := hO.free i (by omega)
      have cj := hO.cell j (by omega)
      have fj := hO.free j (by omega)
      have hi' : (i : Int) < n := by omega
      have hj' : (j : Int) < n := by omega
      have HO := hide hO
      have HT := hide hT
      have Hj := hide hj
      have HC := hide ((hO.set (show i < n by omega) (revF f n i j)).set (show j < n by omega) (revF f n i i))
      have hT2 := hide ((hT.set (off + i) (.int .u8 (revF f n i j))).set (off + j) (.int .u8 (revF f n i i)))
      rw [hjz]
      clear hO hT hs hj hjz hlt
      go_wp2_with fail
      go_region
      go_wp2
      go_roundw
      case rel =>
        have h1 := Hj.out
        refine ⟨i + 1, by omega, by go_num, by go_num, (HC.out.congr (fun k hk => ?_)).of_all (Below.drew (Below.refl _ _)), hT2.out.drew 1⟩
        unfold revF
        by_cases e1 : k = j
        · subst e1
          rw [if_pos rfl, if_neg (by omega), if_pos (by omega)]
          congr 1; omega
        · rw [if_neg e1]
          by_cases e2 : k = i
          · subst e2
            rw [if_pos rfl, if_neg (by omega), if_pos (by omega)]
            congr 1; omega
          · rw [if_neg e2]
            by_cases e3 : k < i ∨ n - i ≤ k
            · rw [if_pos e3, if_pos (by omega)]
            · rw [if_neg e3, if_neg (by omega)]
      case measure => simp [intOf]; omega
    · go_wp2
      go_end0
      refine ⟨rfl, hO.congr (fun k hk => ?_), hT⟩
      unfold revF
      split
      · rfl
      · congr 1; omega
end

section
set_option linter.unusedVariables false
set_option linter.unusedSimpArgs false

open Go.RowKit

/-- A new list of bytes, one's own. -/
def GivesBi (w : World) (M : Nat) (F : Nat → Int) (e : Ending) (w' : World) : Prop :=
  ∃ a g cap, e = .returned (.slice a M cap) ∧ w.heap.size ≤ g ∧ BOwn w' a g 0 M F ∧ Below w.heap.size w w'

/-- One byte is enough for it. -/
def small (n : Int) : Bool := decide (-128 ≤ n) && decide (n ≤ 127)

/-- What is left of it without its k lowest bytes. -/
def hi8 (n : Int) : Nat → Int
  | 0 => n
  | k + 1 => hi8 n k / 256

/-- Its bytes, the lowest first. -/
def ib (n : Int) (k : Nat) : Int := hi8 n k % 256

/-- L bytes and one more are just enough for it. -/
structure IsLen (n : Int) (L : Nat) : Prop where
  yes : small (hi8 n L) = true
  no : ∀ j, j < L → small (hi8 n j) = false
  le : L ≤ 7

def ilen (n : Int) : Nat := if small n then 0 else if small (hi8 n 1) then 1 else if small (hi8 n 2) then 2 else if small (hi8 n 3) then 3 else if small (hi8 n 4) then 4 else if small (hi8 n 5) then 5 else if small (hi8 n 6) then 6 else 7

theorem hi8_bound (n : Int) (h0 : -9223372036854775808 ≤ n) (h1 : n ≤ 9223372036854775807) (k : Nat) : -9223372036854775808 ≤ hi8 n k ∧ hi8 n k ≤ 9223372036854775807 := by
  induction k with
  | zero => exact ⟨h0, h1⟩
  | succ k ih => simp only [hi8]; omega

theorem ilen_is (n : Int) (h0 : -9223372036854775808 ≤ n) (h1 : n ≤ 9223372036854775807) : IsLen n (ilen n) := by
  have e7 : small (hi8 n 7) = true := by
    have : hi8 n 7 = n / 256 / 256 / 256 / 256 / 256 / 256 / 256 := rfl
    simp only [this, small, Bool.and_eq_true, decide_eq_true_eq]
    omega
  have lt (j L : Nat) (h : j < L) (hL : L ≤ 7) : j = 0 ∨ j = 1 ∨ j = 2 ∨ j = 3 ∨ j = 4 ∨ j = 5 ∨ j = 6 := by omega
  unfold ilen
  have s0 : small n = small (hi8 n 0) := rfl
  rw [s0]
  cases c0 : small (hi8 n 0)
  · cases c1 : small (hi8 n 1)
    · cases c2 : small (hi8 n 2)
      · cases c3 : small (hi8 n 3)
        · cases c4 : small (hi8 n 4)
          · cases c5 : small (hi8 n 5)
            · cases c6 : small (hi8 n 6)
              · exact ⟨e7, fun j hj => by have : j < 7 := hj; rcases lt j 7 this (by omega) with rfl | rfl | rfl | rfl | rfl | rfl | rfl <;> assumption, by simp⟩
              · exact ⟨c6, fun j hj => by have : j < 6 := hj; rcases lt j 6 this (by omega) with rfl | rfl | rfl | rfl | rfl | rfl | rfl <;> first | assumption | omega, by simp⟩
            · exact ⟨c5, fun j hj => by have : j < 5 := hj; rcases lt j 5 this (by omega) with rfl | rfl | rfl | rfl | rfl | rfl | rfl <;> first | assumption | omega, by simp⟩
          · exact ⟨c4, fun j hj => by have : j < 4 := hj; rcases lt j 4 this (by omega) with rfl | rfl | rfl | rfl | rfl | rfl | rfl <;> first | assumption | omega, by simp⟩
        · exact ⟨c3, fun j hj => by have : j < 3 := hj; rcases lt j 3 this (by omega) with rfl | rfl | rfl | rfl | rfl | rfl | rfl <;> first | assumption | omega, by simp⟩
      · exact ⟨c2, fun j hj => by have : j < 2 := hj; rcases lt j 2 this (by omega) with rfl | rfl | rfl | rfl | rfl | rfl | rfl <;> first | assumption | omega, by simp⟩
    · exact ⟨c1, fun j hj => by have : j < 1 := hj; rcases lt j 1 this (by omega) with rfl | rfl | rfl | rfl | rfl | rfl | rfl <;> first | assumption | omega, by simp⟩
  · exact ⟨c0, fun j hj => by have : j < 0 := hj; omega, by simp⟩

theorem small_true {n : Int} (h : small n = true) : -128 ≤ n ∧ n ≤ 127 := by simpa [small] using h

theorem small_false {n : Int} (h : small n = false) : n < -128 ∨ 127 < n := by
  simp [small] at h
  omega

theorem bseg_one (w : World) (x : Int) : BSeg (w.alloc (.cells #[.int .u8 x] 5)) (some ⟨w.heap.size, 0, none⟩) w.heap.size 0 1 (fun _ => x) := ⟨fun _ => rfl, fun i hi => by
    have := Blk.alloc w [.int .u8 x] 5
    have e : i = 0 := by omega
    subst e
    exact (this 0 _ rfl).1⟩

theorem owns_one8 (w : World) (x : Int) : (w.alloc (.cells #[.int .u8 x] 5)).ownsRow w.heap.size 5 1 (.slice (some ⟨w.heap.size, 0, none⟩) 1 1) 1 (byts (fun _ => x) 1) :=
  ⟨rfl, .inr ⟨w.heap.size, 1, #[.int .u8 x], rfl, Nat.le_refl _, heap_alloc_new w _, Nat.le_refl _, by decide, by simp, by simp [byts]⟩⟩

set_option maxHeartbeats 1600000 in
set_option maxRecDepth 100000 in
theorem implIntBytes_any (n : Int) (L : Nat) (hL : IsLen n L) (w : World) (h0 : -9223372036854775808 ≤ n) (h1 : n ≤ 9223372036854775807) :
    Calls Tryz.prog 80 #[.int .i64 n] w fun e w' => GivesBi w (L + 1) (fun i => ib n (L - i)) e w' := by
  have HL := hide hL
  have HO := hide (owns_one8 w (n % 256))
  have HE := hide (Ext.alloc w (.cells #[.int .u8 (n % 256)] 5))
  clear hL
  go_enter Tryz.func80, Tryz.ntmps80
  go_wp2
  go_loopw [0, 3] (fun x v wr => ∃ j : Nat, j ≤ L ∧ x = .int .i64 (hi8 n j) ∧ wr.ownsRow w.heap.size 5 1 v (j + 1) (byts (ib n) (j + 1)) ∧ Ext w wr) (fun _ v _ => 8 - (match v with | .slice _ n _ => n | _ => 0))
  case atStart => exact ⟨0, by omega, rfl, HO.out, HE.out⟩
  case round =>
    clear HO HE
    obtain ⟨j, hj, rfl, hO, hE⟩ := hrel
    obtain ⟨hb0, hb1⟩ := hi8_bound n h0 h1 j
    by_cases hs : small (hi8 n j) = true
    · have e : j = L := by
        have := HL.out.no
        by_cases hh : j < L
        · have := this j hh; rw [hs] at this; cases this
        · omega
      subst e
      have HJ := hide HL.out.le
      obtain ⟨s0, s1⟩ := small_true hs
      have HO := hide hO
      have HE := hide hE
      have Hs := hide hs
      clear hO hE hs HL
      obtain ⟨ya, yg, yc, rfl, hyg, -, -, hyB⟩ := owns_seg HO.out
      have HyB := hide hyB
      have Hyg := hide hyg
      clear hyB hyg HO
      generalize hi8 n j = x at *
      have hq : x / 128 = 0 ∨ x / 128 = -1 := by omega
      rcases hq with hq | hq <;> (
        go_wp2_with fail
        refine (rev_any ya yg 0 (j + 1) yc (ib n) wr HyB.out (by have := HJ.out; omega)).mono ?_
        rintro e w1 ⟨rfl, hr, hT⟩
        have HR := hide hr
        have HB := hide (below_touch HE.out hT Hyg.out)
        clear hr hT
        go_wp2
        go_ret
        exact ⟨_, _, _, rfl, Hyg.out, HR.out.congr (fun i hi => by rw [show j + 1 - 1 - i = j - i by omega]), HB.out⟩)
    · have hs' : small (hi8 n j) = false := by simpa using hs
      have hh : j < L := by
        have h2 := HL.out.yes
        by_cases e : j = L
        · subst e; exact absurd h2 hs
        · omega
      have s0 := small_false hs'
      have HO := hide (hO.alloc (.cells #[.int .u8 (ib n (j + 1))] 5))
      have HE := hide hE
      have Hsz := hide (Below.size hE)
      have HJ := hide (Nat.lt_of_lt_of_le hh HL.out.le)
      have H8 : Hid (hi8 n (j + 1) = hi8 n j / 256) := rfl
      have q0 : (hi8 n j / 128 != 0) = true := by simp; omega
      have q1 : (hi8 n j / 128 != -1) = true := by simp; omega
      obtain ⟨y, hy⟩ : ∃ y, ib n (j + 1) = y := ⟨_, rfl⟩
      have hy1 : hi8 n j / 256 % 256 = y := by rw [← hy]; rfl
      have HB := hide (bseg_one wr y)
      rw [hy] at HO
      have Hy := hide hy
      have HO1 := hide hO
      clear hO hE hs hs' hy
      go_wp2_with (at_builtin; refine wpList_append_bs rfl _ _ rfl w.heap.size _ (j + 1) _ rfl HO.out _ wr.heap.size 0 1 1 (fun _ => y) rfl HB.out (by have := HJ.out; omega) (by have := Hsz.out; simp; omega) ?_)
      intro v' w1 h2 h3
      rw [byts_append] at h2
      have H2 : Hid (w1.ownsRow w.heap.size 5 1 v' (j + 1 + 1) (byts (ib n) (j + 1 + 1))) := hide (owns_congr h2 (fun i hi => by
        unfold catF
        split
        · rfl
        · rw [← Hy.out, show i = j + 1 by omega]))
      have H3 : Hid (Ext w w1) := hide (Below.trans (Ext.trans HE.out (Ext.alloc _ _)) h3)
      clear h2 h3 HO HB
      go_wp2
      go_roundw
      case rel => exact ⟨j + 1, by omega, by rw [H8.out], H2.out, H3.out⟩
      case measure =>
        obtain ⟨_, _, _, rfl, -⟩ := owns_seg H2.out
        obtain ⟨_, _, _, rfl, -⟩ := owns_seg HO1.out
        have := HJ.out
        simp
        omega

set_option maxHeartbeats 1600000 in
set_option maxRecDepth 100000 in
theorem specIntBytes_any (n : Int) (L : Nat) (hL : IsLen n L) (w : World) (h0 : -9223372036854775808 ≤ n) (h1 : n ≤ 9223372036854775807) :
    Calls Tryz.prog 66 #[.int .i64 n] w fun e w' => GivesBi w (L + 1) (fun i => ib n (L - i)) e w' := by
  have HL := hide hL
  have HO := hide (owns_one8 w (n % 256))
  have HE := hide (Ext.alloc w (.cells #[.int .u8 (n % 256)] 5))
  clear hL
  go_enter Tryz.func66, Tryz.ntmps66
  go_wp2
  go_loopw [0, 3] (fun x v wr => ∃ j : Nat, j ≤ L ∧ x = .int .i64 (hi8 n j) ∧ wr.ownsRow w.heap.size 5 1 v (j + 1) (byts (fun i => ib n (j - i)) (j + 1)) ∧ Ext w wr) (fun _ v _ => 8 - (match v with | .slice _ n _ => n | _ => 0))
  case atStart => exact ⟨0, by omega, rfl, owns_congr HO.out (fun i hi => by rw [show 0 - i = 0 by omega]; rfl), HE.out⟩
  case round =>
    clear HO HE
    obtain ⟨j, hj, rfl, hO, hE⟩ := hrel
    obtain ⟨hb0, hb1⟩ := hi8_bound n h0 h1 j
    by_cases hs : small (hi8 n j) = true
    · have e : j = L := by
        have := HL.out.no
        by_cases hh : j < L
        · have := this j hh; rw [hs] at this; cases this
        · omega
      subst e
      have HJ := hide HL.out.le
      obtain ⟨s0, s1⟩ := small_true hs
      have HO := hide hO
      have HE := hide hE
      have Hs := hide hs
      clear hO hE hs HL
      obtain ⟨ya, yg, yc, rfl, hyg, -, -, hyB⟩ := owns_seg HO.out
      have HyB := hide hyB
      have Hyg := hide hyg
      clear hyB hyg HO
      generalize hi8 n j = x at *
      go_wp2
      go_ret
      exact ⟨_, _, _, rfl, Hyg.out, HyB.out, HE.out⟩
    · have hs' : small (hi8 n j) = false := by simpa using hs
      have hh : j < L := by
        have h2 := HL.out.yes
        by_cases e : j = L
        · subst e; exact absurd h2 hs
        · omega
      have s0 := small_false hs'
      obtain ⟨ya, yg, yc, rfl, hyg, -, -, hyB⟩ := owns_seg hO
      have HE := hide hE
      have Hsz := hide (Below.size hE)
      have HJ := hide (Nat.lt_of_lt_of_le hh HL.out.le)
      have H8 : Hid (hi8 n (j + 1) = hi8 n j / 256) := rfl
      have q0 : 127 < hi8 n j ∨ ¬ 127 < hi8 n j ∧ hi8 n j < -128 := by omega
      obtain ⟨y, hy⟩ : ∃ y, ib n (j + 1) = y := ⟨_, rfl⟩
      have hy1 : hi8 n j / 256 % 256 = y := by rw [← hy]; rfl
      have HB := hide (hyB.toBSeg.of_all (Ext.alloc wr (.cells #[.int .u8 y] 5)))
      have HO := hide (owns_mono (owns_one8 wr y) (Below.size hE))
      have Hy := hide hy
      clear hO hE hs hs' hy hyg hyB s0
      rcases q0 with q0 | ⟨q0, q1⟩ <;> (
        go_wp2_with (at_builtin; refine wpList_append_bs rfl _ _ rfl w.heap.size _ 1 (byts (fun _ => y) 1) rfl HO.out _ yg 0 (j + 1) yc (fun i => ib n (j - i)) rfl HB.out (by have := HJ.out; omega) (by have := Hsz.out; simp; omega) ?_)
        intro v' w1 h2 h3
        rw [byts_append] at h2
        have H2 : Hid (w1.ownsRow w.heap.size 5 1 v' (j + 1 + 1) (byts (fun i => ib n (j + 1 - i)) (j + 1 + 1))) := hide (by
          rw [show j + 1 + 1 = 1 + (j + 1) by omega]
          refine owns_congr h2 (fun i hi => ?_)
          unfold catF
          split
          · rw [← Hy.out, show j + 1 - i = j + 1 by omega]
          · show ib n (j - (i - 1)) = _
            rw [show j - (i - 1) = j + 1 - i by omega])
        have H3 : Hid (Ext w w1) := hide (Below.trans (Ext.trans HE.out (Ext.alloc _ _)) h3)
        clear h2 h3 HO HB
        go_wp2
        go_roundw
        case rel => exact ⟨j + 1, by omega, by rw [H8.out], H2.out, H3.out⟩
        case measure =>
          obtain ⟨_, _, _, rfl, -⟩ := owns_seg H2.out
          have := HJ.out
          simp
          omega)
end

section
set_option linter.unusedVariables false
set_option linter.unusedSimpArgs false

open Go.RowKit

/-- The bytes of a number. -/
def ibL (n : Int) : List Int := (List.range (ilen n + 1)).map (fun i => ib n (ilen n - i))

def intC (n : Int) : Ic := ⟨2, 0, ibL n⟩

theorem l10Item_any (tag : Int) (a : Option Addr) (g off n cap : Nat) (f : Nat → Int) (B : Nat) (w : World) (h : BOwn w a g off n f) (hg : B ≤ g) (hB : B ≤ w.heap.size) :
    Calls Tryz.prog 33 #[.int .i64 tag, .slice a n cap] w fun e w' => GivesIs B w [⟨tag, 0, (List.range n).map f⟩] e w' := by
  have H := hide (LAcc.it w _ B (Bods.one (cap := cap) tag h hg) hB)
  clear h
  go_enter Tryz.func33, Tryz.ntmps33
  go_wp2
  go_ret
  exact ⟨_, _, rfl, H.out, by rw [List.map_cons, ct_one]; rfl, Ext.alloc _ _⟩

theorem l10Int_any (n : Int) (w : World) (h0 : -9223372036854775808 ≤ n) (h1 : n ≤ 9223372036854775807) :
    Calls Tryz.prog 40 #[.int .i64 n] w fun e w' => GivesIs w.heap.size w [intC n] e w' := by
  have HI := hide (specIntBytes_any n (ilen n) (ilen_is n h0 h1) w h0 h1)
  have HB : Hid (intC n = ⟨2, 0, (List.range (ilen n + 1)).map (fun i => ib n (ilen n - i))⟩) := rfl
  generalize intC n = C at *
  generalize ilen n + 1 = M at *
  generalize (fun i => ib n (ilen n - i)) = F at *
  go_enter Tryz.func40, Tryz.ntmps40
  go_wp2_with fail
  refine HI.out.mono ?_
  rintro e w1 ⟨a, g, cap, rfl, hg, hO, hE⟩
  have HE := hide hE
  have HO := hide hO
  clear hE hO HI
  go_wp2_with fail
  refine (l10Item_any 2 a g 0 M cap F w.heap.size w1 HO.out hg (Below.size HE.out)).mono ?_
  rintro e w2 ⟨v, L, rfl, hA, hc, hE2⟩
  have HA := hide hA
  have HC := hide hc
  have HE2 := hide hE2
  clear hA hc hE2
  go_wp2
  go_ret
  exact ⟨_, _, rfl, HA.out, by rw [HB.out]; exact HC.out, Ext.trans HE.out HE2.out⟩

/-- Many items behind one that is made of them. -/
theorem l10Made_any (tag kid : Int) (v2 : Value) (M : List It) (B : Nat) (w : World) (hM : LAcc B w v2 M) (hm : M.length ≤ 100000) (hB : B ≤ w.heap.size) :
    Calls Tryz.prog 32 #[.int .i64 tag, .int .i64 kid, v2] w fun e w' => GivesIs B w (⟨tag, kid, []⟩ :: M.map ct) e w' := by
  obtain ⟨a2, c2, hv2⟩ := ownsRow_slc hM.row
  have H := hide (LAcc.it w (bare tag kid) B ((Bods.nil _ _).bare tag kid) hB)
  have HM := hide hM
  have HB := hide (hM.bods.bare tag kid)
  have hsw : ∀ t ∈ M, 0 < t.len → t.blk < w.heap.size := fun t ht h0 => hM.bods.lt ht h0
  have Hsw := hide hsw
  clear hsw
  subst hv2
  clear hM
  go_enter Tryz.func32, Tryz.ntmps32
  go_wp2_with (at_builtin; refine stop_app rfl ?_)
  refine hide ?_
  refine wpList_appL rfl _ _ rfl B B _ _ _ [bare tag kid] M rfl H.out (Ext.refl _) rfl (ownsRow_ext HM.out.row (Ext.alloc _ _)) (HB.out.ext (Ext.alloc _ _)) (fun t ht h0 hh => ?_) (by simp; omega) (by simp; omega) ?_
  · have := Hsw.out t ht h0
    have e2 : w.heap.size = t.blk := by simpa [Act.eval, Value.ownBlock] using hh
    omega
  intro v' w1 hA hE
  have HA := hide hA
  have HE : Hid (Ext w w1) := hide (Below.trans (Ext.alloc _ _) (hE w.heap.size (fun k hk => by
    have e2 : w.heap.size = k := by simpa [Act.eval, Value.ownBlock] using hk
    omega) (by simp)))
  clear hA hE
  go_wp2
  go_ret
  exact ⟨_, _, rfl, HA.out, rfl, HE.out⟩
end

end Go.Proofs.YtgdjaapjdmancaaGreatDoor
