/- Lists of numbers that are one's own: cut, read. Nothing of the program. A list of items whose fields are set one by one. -/
import Derived.Test.YtkogbinfhoiggaaGreatDoorCx11
import Derived.Test.YtkogbinfhoiggaaGreatDoorCx05
namespace Go.Proofs.YtkogbinfhoiggaaGreatDoor
set_option linter.unusedVariables false
set_option linter.unusedSimpArgs false
section
open Go.RowKit
theorem owns_take {w : World} {B g cap : Nat} {L : List Int} (A : Nat) (hA : A ≤ L.length) (h : w.ownsRow B 3 1 (.slice (some ⟨g, 0, none⟩) L.length cap) L.length (iys L)) : w.ownsRow B 3 1 (.slice (some ⟨g, 0, none⟩) (L.take A).length cap) (L.take A).length (iys (L.take A)) := by
 rcases h.2 with ⟨h0, _⟩ | ⟨g', cap', cur, hv, hb, hg, h1, h2, h3, h4⟩
 ·simp at h0
 ·simp only [Value.slice.injEq, Option.some.injEq, Addr.mk.injEq] at hv
  obtain ⟨⟨rfl, -, -⟩, -, rfl⟩ := hv
  have hl : (L.take A).length = A := by rw [List.length_take]; omega
  refine ⟨by simp [iys], .inr ⟨g, cap, cur, rfl, hb, hg, by omega, h2, h3, ?_⟩⟩
  have h5 : cur.toList.take L.length = iys L := by simpa using h4
  have h6 : (cur.toList.take L.length).take A = cur.toList.take A := by rw [List.take_take, Nat.min_eq_left hA]
  rw [Nat.mul_one, hl, ← h6, h5]
  simp [iys, List.map_take]
theorem owns_cells {w : World} {B g cap : Nat} {L : List Int} (h : w.ownsRow B 3 1 (.slice (some ⟨g, 0, none⟩) L.length cap) L.length (iys L)) : B ≤ g ∧ g < w.heap.size ∧ L.length ≤ cap ∧ cap ≤ 9223372036854775807 ∧ ∀ i, i < L.length → w.cell? ⟨g, i, none⟩ = some (.int .i64 (L.getD i 0)) := by
 have h' := h
 rcases h.2 with ⟨h0, _⟩ | ⟨g', cap', cur, hv, hb, hg, h1, h2, h3, h4⟩
 ·simp at h0
 ·simp only [Value.slice.injEq, Option.some.injEq, Addr.mk.injEq] at hv
  obtain ⟨⟨rfl, -, -⟩, -, rfl⟩ := hv
  refine ⟨hb, (Array.getElem?_eq_some_iff.1 hg).1, h1, by unfold maxLen at h2; omega, fun i hi => ?_⟩
  rw [World.ownsRow.cellAt h' i (by simpa using hi)]
  simp [iys, hi]
theorem iowns_ext0 {w w' : World} {b : Nat} {v : Value} {n : Nat} {xs : List Value} (h : w.ownsRow b 3 1 v n xs) (he : Ext w w') : w'.ownsRow b 3 1 v n xs := by
 refine ⟨h.1, ?_⟩
 rcases h.2 with h | ⟨g, cap, cur, hv, hg, hr, hr'⟩
 ·exact .inl h
 ·refine .inr ⟨g, cap, cur, hv, hg, ?_, hr'⟩
  rw [Below.block he g (Array.getElem?_eq_some_iff.1 hr).1]; exact hr
theorem wp_app1 {o : Oper} {a0 : Act} {K : Act → World → Prop} {Q : Exit → Act → World → Prop} {w : World} (s x : Operand)
  (ho : o.op = .call { callee := .builtin .append, args := #[s, x], argTypes := #[24, 24] })
  (base g cap : Nat) (L : List Int) (hs : a0.eval s = .slice (some ⟨g, 0, none⟩) L.length cap) (hown : w.ownsRow base 3 1 (.slice (some ⟨g, 0, none⟩) L.length cap) L.length (iys L))
  (b : Nat) (z : Int) (hx : a0.eval x = .slice (some ⟨b, 0, none⟩) 1 1) (hc : w.cell? ⟨b, 0, none⟩ = some (.int .i64 z)) (hlen : L.length ≤ 1048576) (hbase : base ≤ w.heap.size)
  (h : ∀ g' cap' w', w'.ownsRow base 3 1 (.slice (some ⟨g', 0, none⟩) (L ++ [z]).length cap') (L ++ [z]).length (iys (L ++ [z])) → w.grownBy w' (some g) → (g' = g ∨ g' = w.heap.size) → K (a0.put o.dst (.slice (some ⟨g', 0, none⟩) (L ++ [z]).length cap')) w') : o.wp Tryz.prog a0 w K Q := by
 obtain ⟨i0, hi, hz0, hz1, hz2⟩ := info_parts Tryz.info3
 obtain ⟨v', w', hr, h2, h3, h4, h5⟩ := run_append_own_at (P := Tryz.prog) w base 24 o.type 3 i0 (.int .i64 0) 1 8 Tryz.underlying24 hi hz0 hz1 hz2 rfl (by decide) _ L.length (iys L) hown ⟨b, 0, none⟩ 1 1 [.int .i64 z] rfl (by
  intro j u hj
  cases j with
  | zero => simp at hj; subst hj; simpa [Addr.add] using hc
  | succ j => simp at hj) (iys_one z) (by unfold maxLen; omega) (by omega) hbase
 have h2' : w'.ownsRow base 3 1 v' (L ++ [z]).length (iys (L ++ [z])) := by simpa [iys] using h2
 rcases h2'.2 with ⟨h0, h1⟩ | ⟨g', cap', cur, rfl, hrest⟩
 ·simp at h1
 ·unfold Oper.wp execOp
  simp only [ho, resolve, invoke, builtin, Sem.run_bind, Sem.run_pure, Result.andThen_ok, List.map_toArray, List.map_cons, List.map_nil, hs, hx, hr]
  refine h g' cap' w' h2' h3 ?_
  simpa [Value.ownBlock] using h5
theorem grw_grown {X : Nat → Prop} {w w' : World} {g : Nat} (h : w.grownBy w' (some g)) (hX : X g) : Grw X w w' := ⟨h.os, h.tape, h.output, h.size, fun k hk hn => h.block k hk (by simp; rintro rfl; exact hn hX)⟩
theorem rowL_at (A C : List It) (t : It) : rowL (A ++ t :: C) = rowL A ++ (itW t ++ rowL C) := by rw [rowL_append, rowL_cons]
theorem set_app (A X C : List Value) (n j : Nat) (h : A.length = n) (hj : j < X.length) (u : Value) : (A ++ (X ++ C)).set (n + j) u = A ++ (X.set j u ++ C) := by
 subst h
 rw [List.set_append_right _ _ (by omega), Nat.add_sub_cancel_left, List.set_append_left _ _ hj]
theorem slc_at {W : World} {B e s n : Nat} {v : Value} {xs : List Value} (h : W.ownsRow B e s v n xs) (hn : 0 < n) : ∃ g cap, v = .slice (some ⟨g, 0, none⟩) n cap ∧ B ≤ g ∧ g < W.heap.size := by
 rcases h.2 with ⟨_, h0⟩ | ⟨g, cap, cur, h0, hb, hg, _⟩
 ·omega
 ·exact ⟨g, cap, h0, hb, (Array.getElem?_eq_some_iff.1 hg).1⟩
theorem LAcc.swap {B : Nat} {W W' : World} {g n cap : Nat} {A C : List It} {t t' : It} (h : LAcc B W (.slice (some ⟨g, 0, none⟩) n cap) (A ++ t :: C))
  (hrow : W'.ownsRow B 40 3 (.slice (some ⟨g, 0, none⟩) n cap) (A ++ t' :: C).length (rowL (A ++ t' :: C)))
  (hk : ∀ k, k < W.heap.size → k ≠ g → W'.heap[k]? = W.heap[k]?)
  (h1 : BOwn W' t'.ad t'.blk t'.off t'.len t'.f) (h2 : 0 < t'.len → B ≤ t'.blk ∧ t'.blk ≠ g) (h3 : Nf t') (h4 : 0 < t'.len → ∀ s ∈ A ++ C, 0 < s.len → s.blk ≠ t'.blk) : LAcc B W' (.slice (some ⟨g, 0, none⟩) n cap) (A ++ t' :: C) := by
 have mem : ∀ s ∈ A ++ C, s ∈ A ++ t :: C := fun s hs => by
  rcases List.mem_append.1 hs with hs | hs
  ·exact List.mem_append.2 (.inl hs)
  ·exact List.mem_append.2 (.inr (List.mem_cons.2 (.inr hs)))
 have cas : ∀ s ∈ A ++ t' :: C, s = t' ∨ s ∈ A ++ C := fun s hs => by
  rcases List.mem_append.1 hs with hs | hs
  ·exact .inr (List.mem_append.2 (.inl hs))
  ·rcases List.mem_cons.1 hs with rfl | hs
   ·exact .inl rfl
   ·exact .inr (List.mem_append.2 (.inr hs))
 refine ⟨hrow, ⟨fun s hs => ?_, fun s hs h0 => ?_, fun s hs => ?_, ?_⟩, fun s hs h0 => ?_⟩
 ·rcases cas s hs with rfl | hs
  ·exact h1
  ·have ho := h.bods.own s (mem s hs)
   have e : 0 < s.len → W'.heap[s.blk]? = W.heap[s.blk]? := fun h0 => hk _ (ho.toBSeg.lt h0) (fun e => h.away s (mem s hs) h0 (by simp [Value.ownBlock, e]))
   exact ⟨⟨ho.at', fun i hi => (World.cell?_of_block (a := ⟨s.blk, s.off + i, none⟩) (e (by omega))).trans (ho.cell i hi)⟩, fun i hi => (World.frozen?_of_block (a := ⟨s.blk, s.off + i, none⟩) (e (by omega))).trans (ho.free i hi)⟩
 ·rcases cas s hs with rfl | hs
  ·exact (h2 h0).1
  ·exact h.bods.up s (mem s hs) h0
 ·rcases cas s hs with rfl | hs
  ·exact h3
  ·exact h.bods.nf s (mem s hs)
 ·have hp := h.bods.apart
  rw [List.pairwise_append, List.pairwise_cons] at hp ⊢
  refine ⟨hp.1, ⟨fun s hs k1 k2 => ?_, hp.2.1.2⟩, fun s hs u hu k1 k2 => ?_⟩
  ·exact (h4 k1 s (List.mem_append.2 (.inr hs)) k2).symm
  ·rcases List.mem_cons.1 hu with rfl | hu
   ·exact h4 k2 s (List.mem_append.2 (.inl hs)) k1
   ·exact hp.2.2 s hs u (List.mem_cons.2 (.inr hu)) k1 k2
 ·rcases cas s hs with rfl | hs
  ·have := (h2 h0).2
   simp [Value.ownBlock]
   exact fun e => this e.symm
  ·exact h.away s (mem s hs) h0
theorem LAcc.len_n {B : Nat} {W : World} {a : Option Addr} {n cap : Nat} {L : List It} (h : LAcc B W (.slice a n cap) L) : n = L.length := by
 rcases h.row.2 with ⟨h0, h1⟩ | ⟨g, c, cur, h0, _⟩
 ·simp only [Value.slice.injEq] at h0; omega
 ·simp only [Value.slice.injEq] at h0; exact h0.2.1
theorem LAcc.setKid {B : Nat} {W : World} {g n cap : Nat} {A C : List It} {t : It} (h : LAcc B W (.slice (some ⟨g, 0, none⟩) n cap) (A ++ t :: C)) (k : Int) :
  LAcc B (W.setCell ⟨g, 3 * A.length + 2, none⟩ (.int .i64 k)) (.slice (some ⟨g, 0, none⟩) n cap) (A ++ ⟨t.tag, k, t.ad, t.blk, t.off, t.len, t.cap, t.f⟩ :: C) := by
 have hn := h.len_n
 have hr := h.row
 rw [← hn] at hr
 have hst := (World.ownsRow.stored hr (3 * A.length + 2) (.int .i64 k)).1
 rw [rowL_at, set_app (rowL A) (itW t) (rowL C) (3 * A.length) 2 (by rw [rowL_len]; omega) (by simp [itW])] at hst
 have ht : t ∈ A ++ t :: C := List.mem_append.2 (.inr (List.mem_cons.2 (.inl rfl)))
 have ho := h.bods.own t ht
 have hs : ∀ b, b ≠ g → (W.setCell ⟨g, 3 * A.length + 2, none⟩ (.int .i64 k)).heap[b]? = W.heap[b]? := fun b hb => Below.heap_setCell _ _ _ _ (by show b ≠ g; exact hb)
 refine h.swap (t' := ⟨t.tag, k, t.ad, t.blk, t.off, t.len, t.cap, t.f⟩) (by
  have hl : (A ++ ⟨t.tag, k, t.ad, t.blk, t.off, t.len, t.cap, t.f⟩ :: C).length = n := by rw [hn]; simp
  rw [hl, rowL_at]
  exact hst) (fun b _ hb => hs b hb) ?_ (fun h0 => ⟨h.bods.up t ht h0, fun e => h.away t ht h0 (by simp [Value.ownBlock, ← e])⟩) (h.bods.nf t ht) (fun h0 s hs2 k1 => ?_)
 ·have e : 0 < t.len → (W.setCell ⟨g, 3 * A.length + 2, none⟩ (.int .i64 k)).heap[t.blk]? = W.heap[t.blk]? := fun h0 => hs _ (fun e => h.away t ht h0 (by simp [Value.ownBlock, ← e]))
  exact ⟨⟨ho.at', fun i hi => (World.cell?_of_block (a := ⟨t.blk, t.off + i, none⟩) (e (by have : i < t.len := hi; omega))).trans (ho.cell i hi)⟩, fun i hi => (World.frozen?_of_block (a := ⟨t.blk, t.off + i, none⟩) (e (by have : i < t.len := hi; omega))).trans (ho.free i hi)⟩
 ·have hp := h.bods.apart
  rw [List.pairwise_append, List.pairwise_cons] at hp
  rcases List.mem_append.1 hs2 with hs2 | hs2
  ·exact hp.2.2 s hs2 t (List.mem_cons.2 (.inl rfl)) k1 h0
  ·exact (hp.2.1.1 s hs2 h0 k1).symm
theorem LAcc.setBody {B : Nat} {W W2 : World} {g n cap : Nat} {A C : List It} {t : It} (h : LAcc B W (.slice (some ⟨g, 0, none⟩) n cap) (A ++ t :: C)) (e : Ext W W2) {a : Option Addr} {b m c : Nat} {f : Nat → Int}
  (hb : BOwn W2 a b 0 m f) (hl : 0 < m → W.heap.size ≤ b) (hB : B ≤ W.heap.size) :
  LAcc B (W2.setCell ⟨g, 3 * A.length + 1, none⟩ (.slice a m c)) (.slice (some ⟨g, 0, none⟩) n cap) (A ++ ⟨t.tag, t.kid, a, b, 0, m, c, nfF m f⟩ :: C) := by
 have h2 := h.ext e
 have hn := h2.len_n
 have hr := h2.row
 rw [← hn] at hr
 have hst := (World.ownsRow.stored hr (3 * A.length + 1) (.slice a m c)).1
 rw [rowL_at, set_app (rowL A) (itW t) (rowL C) (3 * A.length) 1 (by rw [rowL_len]; omega) (by simp [itW])] at hst
 have hg : g < W.heap.size := by
  have hr0 := h.row
  obtain ⟨g', c', h0, _, h1⟩ := slc_at hr0 (by simp; omega)
  injection h0 with e1
  injection e1 with e1
  injection e1 with e1
  rw [e1]
  exact h1
 have hs : ∀ k, k ≠ g → (W2.setCell ⟨g, 3 * A.length + 1, none⟩ (.slice a m c)).heap[k]? = W2.heap[k]? := fun k hk => Below.heap_setCell _ _ _ _ (by show k ≠ g; exact hk)
 have hbg : 0 < m → b ≠ g := fun h0 => by have := hl h0; omega
 refine h2.swap (t' := ⟨t.tag, t.kid, a, b, 0, m, c, nfF m f⟩) (by
  have hl : (A ++ ⟨t.tag, t.kid, a, b, 0, m, c, nfF m f⟩ :: C).length = n := by rw [hn]; simp
  rw [hl, rowL_at]
  exact hst) (fun k _ hk => hs k hk) ?_ (fun h0 => ⟨Nat.le_trans hB (hl h0), hbg h0⟩) ?_ (fun h0 s hs2 k1 => ?_)
 ·have e : 0 < m → (W2.setCell ⟨g, 3 * A.length + 1, none⟩ (.slice a m c)).heap[b]? = W2.heap[b]? := fun h0 => hs _ (hbg h0)
  exact ⟨⟨hb.at', fun i hi => (World.cell?_of_block (a := ⟨b, 0 + i, none⟩) (e (by have : i < m := hi; omega))).trans (by rw [hb.cell i hi]; show _ = some (Value.int .u8 (nfF m f i)); unfold nfF; rw [getD_map hi])⟩, fun i hi => (World.frozen?_of_block (a := ⟨b, 0 + i, none⟩) (e (by have : i < m := hi; omega))).trans (hb.free i hi)⟩
 ·have := (Bods.one (B := b) (cap := c) t.tag hb (Nat.le_refl _)).nf _ (List.mem_singleton.2 rfl)
  exact this
 ·have hm : s ∈ A ++ t :: C := by
   rcases List.mem_append.1 hs2 with hs2 | hs2
   ·exact List.mem_append.2 (.inl hs2)
   ·exact List.mem_append.2 (.inr (List.mem_cons.2 (.inr hs2)))
  have := h.bods.lt hm k1
  have := hl h0
  show s.blk ≠ b
  omega
theorem ownsRow_of_blk {W W' : World} {B e s n : Nat} {v : Value} {xs : List Value} (h : W.ownsRow B e s v n xs) (hk : ∀ g, v.ownBlock = some g → W'.heap[g]? = W.heap[g]?) : W'.ownsRow B e s v n xs := by
 refine ⟨h.1, ?_⟩
 rcases h.2 with h0 | ⟨g, cap, cur, rfl, hb, hg, rest⟩
 ·exact .inl h0
 ·exact .inr ⟨g, cap, cur, rfl, hb, by rw [hk g rfl]; exact hg, rest⟩
theorem LAcc.of_blk {B : Nat} {W W' : World} {v : Value} {L : List It} (h : LAcc B W v L) (h1 : ∀ g, v.ownBlock = some g → W'.heap[g]? = W.heap[g]?) (h2 : ∀ t ∈ L, 0 < t.len → W'.heap[t.blk]? = W.heap[t.blk]?) : LAcc B W' v L :=
 ⟨ownsRow_of_blk h.row h1, h.bods.of_blk h2, h.away⟩
theorem grow_ext {a b : World} {o : Option Nat} (h : Ext a b) : a.grownBy b o := ⟨h.os, h.tape, h.output, Below.size h, fun q hq _ => Below.block h q hq⟩
theorem wp_appG {o : Oper} {a0 : Act} {K : Act → World → Prop} {Q : Exit → Act → World → Prop} {W2 : World} (s x : Operand)
  (ho : o.op = .call { callee := .builtin .append, args := #[s, x], argTypes := #[35, 35] })
  (B B2 : Nat) (W : World) (v v2 : Value) (L M : List It) (hs : a0.eval s = v) (hA : LAcc B W v L) (e : Ext W W2) (hx : a0.eval x = v2) (hM : W2.ownsRow B2 40 3 v2 M.length (rowL M)) (hB2 : Bods B W2 (L ++ M)) (hnM : ∀ t ∈ M, 0 < t.len → v.ownBlock ≠ some t.blk)
  (hm : L.length + M.length ≤ 1048576) (hbase : B ≤ W.heap.size)
  (h : ∀ v' w', LAcc B w' v' (L ++ M) → W2.grownBy w' v.ownBlock → (v'.ownBlock = v.ownBlock ∨ v'.ownBlock = some W2.heap.size) → K (a0.put o.dst v') w') : o.wp Tryz.prog a0 W2 K Q := by
 obtain ⟨i0, hi, hz0, hz1, hz2⟩ := info_parts Tryz.infoItm
 have hWs := Below.size e
 rcases hM.2 with ⟨h0, h1⟩ | ⟨g, cap, cur, h0, -⟩
 ·obtain rfl : M = [] := by cases M with | nil => rfl | cons _ _ => simp at h1
  have hr := run_append_nothing (P := Tryz.prog) B 35 o.type 40 i0 3 Tryz.underlying35 hi _ L.length 0 (rowL L) (ownsRow_ext hA.row e)
  unfold Oper.wp execOp
  simp only [ho, resolve, invoke, builtin, Sem.run_bind, Sem.run_pure, Result.andThen_ok, List.map_toArray, List.map_cons, List.map_nil, hs, hx, h0, hr]
  exact h v W2 (by rw [List.append_nil]; exact hA.ext e) ⟨rfl, rfl, rfl, Nat.le_refl _, fun _ _ _ => rfl⟩ (.inl rfl)
 ·rw [h0] at hM
  obtain ⟨v', w', hr, h2, h3, h4, h5⟩ := run_append_own_at (P := Tryz.prog) W2 B 35 o.type 40 i0 (.agg #[.int .i64 0, .slice none 0 0, .int .i64 0]) 3 40 Tryz.underlying35 hi hz0 hz1 hz2 rfl (by decide) v L.length (rowL L) (ownsRow_ext hA.row e) ⟨g, 0, none⟩ M.length cap (rowL M) (rowL_len M) (row_cells hM) (rowL_one M) (by unfold maxLen; omega) (by omega) (by omega)
  unfold Oper.wp execOp
  simp only [ho, resolve, invoke, builtin, Sem.run_bind, Sem.run_pure, Result.andThen_ok, List.map_toArray, List.map_cons, List.map_nil, hs, hx, h0, hr]
  have hne : ∀ t ∈ L ++ M, 0 < t.len → v.ownBlock ≠ some t.blk := fun t ht h0 => by
   rcases List.mem_append.1 ht with ht | ht
   ·exact hA.away t ht h0
   ·exact hnM t ht h0
  refine h v' w' ⟨by rw [List.length_append, rowL_append]; exact h2, hB2.of_blk (fun t ht h0 => h3.block _ (hB2.lt ht h0) (fun hh => hne t ht h0 hh.symm)), fun t ht h0 hh => ?_⟩ h3 h5
  rcases h5 with h5 | h5
  ·exact hne t ht h0 (by rw [← h5]; exact hh)
  ·rw [h5] at hh
   simp only [Option.some.injEq] at hh
   have := hB2.lt ht h0
   omega
theorem wpList_appG {ops : Array Oper} {rest : List Oper} {o : Oper} {a0 : Act} {Q : Exit → Act → World → Prop} {W2 : World} (hgd : o.guard = none) (s x : Operand)
  (ho : o.op = .call { callee := .builtin .append, args := #[s, x], argTypes := #[35, 35] })
  (B B2 : Nat) (W : World) (v v2 : Value) (L M : List It) (hs : a0.eval s = v) (hA : LAcc B W v L) (e : Ext W W2) (hx : a0.eval x = v2) (hM : W2.ownsRow B2 40 3 v2 M.length (rowL M)) (hB2 : Bods B W2 (L ++ M)) (hnM : ∀ t ∈ M, 0 < t.len → v.ownBlock ≠ some t.blk)
  (hm : L.length + M.length ≤ 1048576) (hbase : B ≤ W.heap.size)
  (h : ∀ v' w', LAcc B w' v' (L ++ M) → W2.grownBy w' v.ownBlock → (v'.ownBlock = v.ownBlock ∨ v'.ownBlock = some W2.heap.size) → wpList Tryz.prog ops Q rest (a0.put o.dst v') w') : wpList Tryz.prog ops Q (o :: rest) a0 W2 :=
 wpList_plain hgd fun K hK => wp_appG s x ho B B2 W v v2 L M hs hA e hx hM hB2 hnM hm hbase fun v' w' h1 h2 h3 => hK _ _ (h v' w' h1 h2 h3)
end
end Go.Proofs.YtkogbinfhoiggaaGreatDoor
