/- A list of items: one's Tag is set, one's body grows. -/
import Derived.Test.YtmcdikbcmikihaaDoorSq09
namespace Go.Proofs.YtmcdikbcmikihaaDoor

section
set_option linter.unusedVariables false
set_option linter.unusedSimpArgs false

open Go.RowKit

/-- Its Tag is set. -/
theorem LAcc.setTag {B : Nat} {W : World} {g n cap : Nat} {A C : List It} {t : It} (h : LAcc B W (.slice (some ⟨g, 0, none⟩) n cap) (A ++ t :: C)) (k : Int) :
    LAcc B (W.setCell ⟨g, A.length * 3, none⟩ (.int .i64 k)) (.slice (some ⟨g, 0, none⟩) n cap) (A ++ ⟨k, t.kid, t.ad, t.blk, t.off, t.len, t.cap, t.f⟩ :: C) := by
  have hn := h.len_n
  have hr := h.row
  rw [← hn] at hr
  have hst := (World.ownsRow.stored hr (A.length * 3) (.int .i64 k)).1
  have hsa := set_app (rowL A) (itW t) (rowL C) (A.length * 3) 0 (by rw [rowL_len]) (by simp [itW]) (.int .i64 k)
  rw [Nat.add_zero] at hsa
  rw [rowL_at, hsa] at hst
  have ht : t ∈ A ++ t :: C := List.mem_append.2 (.inr (List.mem_cons.2 (.inl rfl)))
  have ho := h.bods.own t ht
  have hs : ∀ b, b ≠ g → (W.setCell ⟨g, A.length * 3, none⟩ (.int .i64 k)).heap[b]? = W.heap[b]? := fun b hb => Below.heap_setCell _ _ _ _ (by show b ≠ g; exact hb)
  refine h.swap (t' := ⟨k, t.kid, t.ad, t.blk, t.off, t.len, t.cap, t.f⟩) (by
    have hl : (A ++ ⟨k, t.kid, t.ad, t.blk, t.off, t.len, t.cap, t.f⟩ :: C).length = n := by rw [hn]; simp
    rw [hl, rowL_at]
    exact hst) (fun b _ hb => hs b hb) ?_ (fun h0 => ⟨h.bods.up t ht h0, fun e => h.away t ht h0 (by simp [Value.ownBlock, ← e])⟩) (h.bods.nf t ht) (fun h0 s hs2 k1 => ?_)
  · have e : 0 < t.len → (W.setCell ⟨g, A.length * 3, none⟩ (.int .i64 k)).heap[t.blk]? = W.heap[t.blk]? := fun h0 => hs _ (fun e => h.away t ht h0 (by simp [Value.ownBlock, ← e]))
    exact ⟨⟨ho.at', fun i hi => (World.cell?_of_block (a := ⟨t.blk, t.off + i, none⟩) (e (by have : i < t.len := hi; omega))).trans (ho.cell i hi)⟩, fun i hi => (World.frozen?_of_block (a := ⟨t.blk, t.off + i, none⟩) (e (by have : i < t.len := hi; omega))).trans (ho.free i hi)⟩
  · have hp := h.bods.apart
    rw [List.pairwise_append, List.pairwise_cons] at hp
    rcases List.mem_append.1 hs2 with hs2 | hs2
    · exact hp.2.2 s hs2 t (List.mem_cons.2 (.inl rfl)) k1 h0
    · exact (hp.2.1.1 s hs2 h0 k1).symm

/-- An append of bytes to a list of one's own, and what may have turned by it. -/
theorem wp_appB {o : Oper} {a0 : Act} {K : Act → World → Prop} {Q : Exit → Act → World → Prop} {w : World} (s x : Operand)
    (ho : o.op = .call { callee := .builtin .append, args := #[s, x], argTypes := #[22, 22] })
    (base : Nat) (v : Value) (n : Nat) (f : Nat → Int) (hs : a0.eval s = v) (hown : w.ownsRow base 5 1 v n (byts f n))
    (b m c : Nat) (g : Nat → Int) (hx : a0.eval x = .slice (some ⟨b, 0, none⟩) m c) (hB : BSeg w (some ⟨b, 0, none⟩) b 0 m g) (hlen : n + m ≤ 1099511627776) (hbase : base ≤ w.heap.size)
    (h : ∀ v' w', w'.ownsRow base 5 1 v' (n + m) (byts (catF f n g) (n + m)) → w.grownBy w' v.ownBlock → (v'.ownBlock = v.ownBlock ∨ v'.ownBlock = some w.heap.size) → K (a0.put o.dst v') w') : o.wp Tryd.prog a0 w K Q := by
  obtain ⟨i0, hi, hz0, hz1, hz2⟩ := info_parts Tryd.info5
  obtain ⟨v', w', hr, h2, h3, -, h5⟩ := run_append_own_at (P := Tryd.prog) w base 22 o.type 5 i0 (.int .u8 0) 1 1 Tryd.underlying22 hi hz0 hz1 hz2 rfl (by decide) v n (byts f n) hown ⟨b, 0, none⟩ m c (byts g m) (by rw [byts_length, Nat.mul_one]) (fun j u hj => by
    have hjm : j < m := by have := (List.getElem?_eq_some_iff.1 hj).1; rwa [byts_length] at this
    rw [show (byts g m)[j]? = some (.int .u8 (g j)) by simp [byts, hjm]] at hj
    obtain rfl := Option.some.inj hj
    have e : Addr.add ⟨b, 0, none⟩ j = ⟨b, 0 + j, none⟩ := by
      by_cases h0 : j = 0
      · subst h0; simp [Addr.add]
      · simp [Addr.add, h0]
    rw [e]
    exact hB.cell j hjm) (byts_one g m) (by unfold maxLen; omega) (by omega) hbase
  unfold Oper.wp execOp
  simp only [ho, resolve, invoke, builtin, Sem.run_bind, Sem.run_pure, Result.andThen_ok, List.map_toArray, List.map_cons, List.map_nil, hs, hx, hr]
  rw [byts_append] at h2
  exact h v' w' h2 h3 h5

theorem wpList_appB {ops : Array Oper} {rest : List Oper} {o : Oper} {a0 : Act} {Q : Exit → Act → World → Prop} {w : World} (hgd : o.guard = none) (s x : Operand)
    (ho : o.op = .call { callee := .builtin .append, args := #[s, x], argTypes := #[22, 22] })
    (base : Nat) (v : Value) (n : Nat) (f : Nat → Int) (hs : a0.eval s = v) (hown : w.ownsRow base 5 1 v n (byts f n))
    (b m c : Nat) (g : Nat → Int) (hx : a0.eval x = .slice (some ⟨b, 0, none⟩) m c) (hB : BSeg w (some ⟨b, 0, none⟩) b 0 m g) (hlen : n + m ≤ 1099511627776) (hbase : base ≤ w.heap.size)
    (h : ∀ v' w', w'.ownsRow base 5 1 v' (n + m) (byts (catF f n g) (n + m)) → w.grownBy w' v.ownBlock → (v'.ownBlock = v.ownBlock ∨ v'.ownBlock = some w.heap.size) → wpList Tryd.prog ops Q rest (a0.put o.dst v') w') : wpList Tryd.prog ops Q (o :: rest) a0 w :=
  wpList_plain hgd fun K hK => wp_appB s x ho base v n f hs hown b m c g hx hB hlen hbase fun v' w' h1 h2 h3 => hK _ _ (h v' w' h1 h2 h3)

/-- Two bodies with room lie apart: neither has the other's block. -/
theorem Rm.apart {B : Nat} {W : World} {s t : It} (hs : Rm B W s) (ht : Rm B W t) (so : BOwn W s.ad s.blk s.off s.len s.f) (to : BOwn W t.ad t.blk t.off t.len t.f) (h0 : 0 < s.len) (hap : 0 < t.len → s.blk ≠ t.blk) : (Value.slice t.ad t.len t.cap).ownBlock ≠ some s.blk := by
  intro h
  by_cases h1 : 0 < t.len
  · have := to.at' h1
    rw [this] at h
    simp only [Value.ownBlock, Option.some.injEq] at h
    exact hap h1 h.symm
  · have hc := ht.cap0 (by omega)
    have hc0 := so.cell 0 h0
    rcases ht.row.2 with ⟨e, -⟩ | ⟨g, c, cur, e, -, hg, -, -, hsz, -⟩
    · rw [e] at h; cases h
    · rw [e] at h
      simp only [Value.ownBlock, Option.some.injEq] at h
      simp only [Value.slice.injEq] at e
      rw [← h] at hc0
      have hz : cur.size = 0 := by rw [hsz, ← e.2.2, hc]
      have : W.cell? ⟨g, s.off + 0, none⟩ = none := by
        unfold World.cell?
        simp [hg, hz]
      rw [this] at hc0
      cases hc0

/-- One item is another one, its body one's own; the old body's block may have turned too. -/
theorem LAr.swapB {B : Nat} {W W' : World} {g n cap : Nat} {A C : List It} {t t' : It} (h : LAr B W (.slice (some ⟨g, 0, none⟩) n cap) (A ++ t :: C))
    (hrow : W'.ownsRow B 55 3 (.slice (some ⟨g, 0, none⟩) n cap) (A ++ t' :: C).length (rowL (A ++ t' :: C)))
    (hk : ∀ k, k < W.heap.size → k ≠ g → (Value.slice t.ad t.len t.cap).ownBlock ≠ some k → W'.heap[k]? = W.heap[k]?)
    (h1 : BOwn W' t'.ad t'.blk t'.off t'.len t'.f) (h2 : 0 < t'.len → B ≤ t'.blk ∧ t'.blk ≠ g) (h3 : Nf t') (h4 : 0 < t'.len → (Value.slice t.ad t.len t.cap).ownBlock = some t'.blk ∨ W.heap.size ≤ t'.blk) : LAcc B W' (.slice (some ⟨g, 0, none⟩) n cap) (A ++ t' :: C) := by
  have mem : ∀ s ∈ A ++ C, s ∈ A ++ t :: C := fun s hs => by
    rcases List.mem_append.1 hs with hs | hs
    · exact List.mem_append.2 (.inl hs)
    · exact List.mem_append.2 (.inr (List.mem_cons.2 (.inr hs)))
  have ht : t ∈ A ++ t :: C := List.mem_append.2 (.inr (List.mem_cons.2 (.inl rfl)))
  have hp := h.bods.apart
  rw [List.pairwise_append, List.pairwise_cons] at hp
  have ap : ∀ s ∈ A ++ C, 0 < s.len → 0 < t.len → s.blk ≠ t.blk := fun s hs k1 k2 => by
    rcases List.mem_append.1 hs with hs | hs
    · exact hp.2.2 s hs t (List.mem_cons.2 (.inl rfl)) k1 k2
    · exact (hp.2.1.1 s hs k2 k1).symm
  have nob : ∀ s ∈ A ++ C, 0 < s.len → (Value.slice t.ad t.len t.cap).ownBlock ≠ some s.blk := fun s hs k1 => (h.rm s (mem s hs)).apart (h.rm t ht) (h.bods.own s (mem s hs)) (h.bods.own t ht) k1 (ap s hs k1)
  have cas : ∀ s ∈ A ++ t' :: C, s = t' ∨ s ∈ A ++ C := fun s hs => by
    rcases List.mem_append.1 hs with hs | hs
    · exact .inr (List.mem_append.2 (.inl hs))
    · rcases List.mem_cons.1 hs with rfl | hs
      · exact .inl rfl
      · exact .inr (List.mem_append.2 (.inr hs))
  have far : ∀ s ∈ A ++ C, 0 < s.len → 0 < t'.len → s.blk ≠ t'.blk := fun s hs k1 k2 e => by
    rcases h4 k2 with h5 | h5
    · exact nob s hs k1 (by rw [e]; exact h5)
    · have := h.bods.lt (mem s hs) k1
      omega
  refine ⟨hrow, ⟨fun s hs => ?_, fun s hs h0 => ?_, fun s hs => ?_, ?_⟩, fun s hs h0 => ?_⟩
  · rcases cas s hs with rfl | hs
    · exact h1
    · have ho := h.bods.own s (mem s hs)
      have e : 0 < s.len → W'.heap[s.blk]? = W.heap[s.blk]? := fun h0 => hk _ (ho.toBSeg.lt h0) (fun e => h.away s (mem s hs) h0 (by simp [Value.ownBlock, e])) (nob s hs h0)
      exact ⟨⟨ho.at', fun i hi => (World.cell?_of_block (a := ⟨s.blk, s.off + i, none⟩) (e (by omega))).trans (ho.cell i hi)⟩, fun i hi => (World.frozen?_of_block (a := ⟨s.blk, s.off + i, none⟩) (e (by omega))).trans (ho.free i hi)⟩
  · rcases cas s hs with rfl | hs
    · exact (h2 h0).1
    · exact h.bods.up s (mem s hs) h0
  · rcases cas s hs with rfl | hs
    · exact h3
    · exact h.bods.nf s (mem s hs)
  · rw [List.pairwise_append, List.pairwise_cons]
    refine ⟨hp.1, ⟨fun s hs k1 k2 => ?_, hp.2.1.2⟩, fun s hs u hu k1 k2 => ?_⟩
    · exact (far s (List.mem_append.2 (.inr hs)) k2 k1).symm
    · rcases List.mem_cons.1 hu with rfl | hu
      · exact far s (List.mem_append.2 (.inl hs)) k1 k2
      · exact hp.2.2 s hs u (List.mem_cons.2 (.inr hu)) k1 k2
  · rcases cas s hs with rfl | hs
    · have := (h2 h0).2
      simp [Value.ownBlock]
      exact fun e => this e.symm
    · exact h.away s (mem s hs) h0

/-- Its body has grown. -/
theorem LAr.growBody {B : Nat} {W W3 : World} {X : Obj} {g n cap : Nat} {A C : List It} {t : It} (h : LAr B W (.slice (some ⟨g, 0, none⟩) n cap) (A ++ t :: C)) (hB : B ≤ W.heap.size)
    {a' : Option Addr} {m c' : Nat} {F : Nat → Int} (hO : W3.ownsRow B 5 1 (.slice a' m c') m (byts F m)) (hm : 0 < m) (hG : (W.alloc X).grownBy W3 (Value.slice t.ad t.len t.cap).ownBlock)
    (h5 : (Value.slice a' m c').ownBlock = (Value.slice t.ad t.len t.cap).ownBlock ∨ (Value.slice a' m c').ownBlock = some (W.alloc X).heap.size) :
    ∃ b, LAcc B (W3.setCell ⟨g, A.length * 3 + 1, none⟩ (.slice a' m c')) (.slice (some ⟨g, 0, none⟩) n cap) (A ++ ⟨t.tag, t.kid, a', b, 0, m, c', nfF m F⟩ :: C) := by
  have ht : t ∈ A ++ t :: C := List.mem_append.2 (.inr (List.mem_cons.2 (.inl rfl)))
  have hr0 := h.row
  obtain ⟨g', c0, h0, -, hgl⟩ := slc_at hr0 (by simp; omega)
  injection h0 with e1
  injection e1 with e1
  injection e1 with e1
  subst e1
  have hng : (Value.slice t.ad t.len t.cap).ownBlock ≠ some g := fun e => (h.rm t ht).away h.row e rfl
  have hgs : W3.heap[g]? = W.heap[g]? := (hG.block g (by simp; omega) (fun e => hng e.symm)).trans (Below.block (Ext.alloc W X) g hgl)
  have hn := h.toLAcc.len_n
  have hr := ownsRow_of_blk (W' := W3) h.row (fun q hq => by
    have : g = q := by simpa [Value.ownBlock] using hq
    rw [← this]
    exact hgs)
  rw [← hn] at hr
  have hst := (World.ownsRow.stored hr (A.length * 3 + 1) (.slice a' m c')).1
  rw [rowL_at, set_app (rowL A) (itW t) (rowL C) (A.length * 3) 1 (by rw [rowL_len]) (by simp [itW])] at hst
  obtain ⟨xa, xg, xc, hx, hxB, -, -, hxO⟩ := owns_seg hO
  simp only [Value.slice.injEq, true_and] at hx
  obtain ⟨hxa, hxc⟩ := hx
  subst hxa
  subst hxc
  have hat := hxO.at' hm
  subst hat
  have h6 : (Value.slice t.ad t.len t.cap).ownBlock = some xg ∨ W.heap.size < xg := by
    rcases h5 with h5 | h5
    · exact .inl h5.symm
    · refine .inr ?_
      have h7 : xg = (W.alloc X).heap.size := by simpa [Value.ownBlock] using h5
      rw [h7]
      simp
  have hxg : xg ≠ g := fun e => by
    rcases h6 with h6 | h6
    · exact hng (by rw [← e]; exact h6)
    · omega
  have hs : ∀ b, b ≠ g → (W3.setCell ⟨g, A.length * 3 + 1, none⟩ (.slice (some ⟨xg, 0, none⟩) m c')).heap[b]? = W3.heap[b]? := fun b hb => Below.heap_setCell _ _ _ _ (by show b ≠ g; exact hb)
  refine ⟨xg, h.swapB (t' := ⟨t.tag, t.kid, some ⟨xg, 0, none⟩, xg, 0, m, c', nfF m F⟩) (by
    have hl : (A ++ (⟨t.tag, t.kid, some ⟨xg, 0, none⟩, xg, 0, m, c', nfF m F⟩ : It) :: C).length = n := by rw [hn]; simp
    rw [hl, rowL_at]
    exact hst) (fun k hk hkg hko => (hs k hkg).trans ((hG.block k (by simp; omega) (fun e => hko e.symm)).trans (Below.block (Ext.alloc W X) k hk))) ?_ (fun _ => ⟨hxB, hxg⟩) ?_ (fun _ => h6.imp id Nat.le_of_lt)⟩
  · have e : W3.heap[xg]? = (W3.setCell ⟨g, A.length * 3 + 1, none⟩ (.slice (some ⟨xg, 0, none⟩) m c')).heap[xg]? := (hs xg hxg).symm
    exact ⟨⟨fun _ => rfl, fun i hi => (World.cell?_of_block (a := ⟨xg, 0 + i, none⟩) e.symm).trans (by rw [hxO.cell i hi]; show _ = some (Value.int .u8 (nfF m F i)); unfold nfF; rw [getD_map hi])⟩, fun i hi => (World.frozen?_of_block (a := ⟨xg, 0 + i, none⟩) e.symm).trans (hxO.free i hi)⟩
  · have := (Bods.one (B := xg) (cap := c') t.tag hxO (Nat.le_refl _)).nf _ (List.mem_singleton.2 rfl)
    exact this
end

end Go.Proofs.YtmcdikbcmikihaaDoor
