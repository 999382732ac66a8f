/- Walks: the model draws a tree (l7DrawTree); written by mkdt.py. -/
import Derived.Test.YtmcdikbcmikihaaDoorSq05
import Derived.Test.YtmcdikbcmikihaaDoorSq08
namespace Go.Proofs.YtmcdikbcmikihaaDoor

section
set_option linter.unusedVariables false
set_option linter.unusedSimpArgs false

open Go.RowKit

/-- An item that is drawn: few bytes, few kids. -/
structure Dri (t : It) : Prop where
  len : t.len ≤ 4000
  rng : ∀ i, i < t.len → 0 ≤ t.f i ∧ t.f i < 256
  kid : -1 ≤ t.kid ∧ t.kid ≤ 1000

/-- How many items a tree has at most. -/
def ndD : Nat → Nat
  | 0 => 1
  | d + 1 => 1 + 3 * ndD d

theorem ndD_pos (d : Nat) : 0 < ndD d := by cases d <;> simp [ndD] <;> omega

/-- An item without kids, as it is drawn. -/
def Lfy (t : It) : Prop := t.kid = 0 ∧ t.tag ∈ ([1, 2, 3, 4, 5, 6, 12, 128, 130] : List Int) ∧ t.len ≤ 256

/-- A tree that is drawn. -/
def IsT : Nat → List It → Prop
  | 0, M => ∃ t, M = [t] ∧ Lfy t
  | d + 1, M => (∃ t, M = [t] ∧ Lfy t) ∨ ∃ (tag : Int) (Ms : List (List It)), tag ∈ ([48, 49, 160, 163] : List Int) ∧ Ms.length ≤ 3 ∧ M = bare tag (Ms.length : Int) :: Ms.flatten ∧ ∀ X ∈ Ms, IsT d X

/-- Some trees one behind the other. -/
def IsF (d kd : Nat) (M : List It) : Prop := ∃ Ms : List (List It), Ms.length = kd ∧ M = Ms.flatten ∧ ∀ X ∈ Ms, IsT d X

theorem IsF.nil (d : Nat) : IsF d 0 [] := ⟨[], rfl, rfl, fun X h => absurd h List.not_mem_nil⟩

theorem IsF.add {d kd : Nat} {M M2 : List It} (h : IsF d kd M) (k : IsT d M2) : IsF d (kd + 1) (M ++ M2) := by
  obtain ⟨Ms, h1, h2, h3⟩ := h
  refine ⟨Ms ++ [M2], by rw [List.length_append, h1]; rfl, by rw [List.flatten_append, ← h2]; simp, fun X hX => ?_⟩
  rcases List.mem_append.1 hX with hX | hX
  · exact h3 X hX
  · rw [List.mem_singleton.1 hX]; exact k

theorem isT_leaf {t : It} (h : Lfy t) : ∀ d, IsT d [t]
  | 0 => ⟨t, rfl, h⟩
  | _ + 1 => .inl ⟨t, rfl, h⟩

theorem isT_node {d kd : Nat} {tag : Int} {M : List It} (ht : tag ∈ ([48, 49, 160, 163] : List Int)) (hk : kd ≤ 3) (h : IsF d kd M) : IsT (d + 1) (bare tag kd :: M) := by
  obtain ⟨Ms, h1, h2, h3⟩ := h
  exact .inr ⟨tag, Ms, ht, by omega, by rw [h1, h2], h3⟩

/-- A body with the room behind it; where it is empty there is none. -/
structure Rm (B : Nat) (W : World) (t : It) : Prop where
  row : W.ownsRow B 5 1 (.slice t.ad t.len t.cap) t.len (byts t.f t.len)
  cap0 : t.len = 0 → t.cap = 0

theorem Rm.keep {B : Nat} {W W' : World} {t : It} (h : Rm B W t) (hk : ∀ g, (Value.slice t.ad t.len t.cap).ownBlock = some g → W'.heap[g]? = W.heap[g]?) : Rm B W' t := ⟨ownsRow_of_blk h.row hk, h.cap0⟩

theorem Rm.bare (B : Nat) (W : World) (tag kid : Int) : Rm B W (Proofs.YtmcdikbcmikihaaDoor.bare tag kid) := ⟨⟨rfl, .inl ⟨rfl, rfl⟩⟩, fun _ => rfl⟩

/-- It is no list's block. -/
theorem Rm.away {B B2 n : Nat} {W : World} {t : It} {v : Value} {xs : List Value} (h : Rm B W t) (k : W.ownsRow B2 55 3 v n xs) {g : Nat} (hg : (Value.slice t.ad t.len t.cap).ownBlock = some g) : v.ownBlock ≠ some g := by
  intro hv
  rcases h.row.2 with ⟨h0, -⟩ | ⟨g1, c1, r1, h0, -, h1, -⟩
  · rw [h0] at hg; cases hg
  · rw [h0] at hg
    rcases k.2 with ⟨k0, -⟩ | ⟨g2, c2, r2, k0, -, k1, -⟩
    · rw [k0] at hv; cases hv
    · rw [k0] at hv
      simp only [Value.ownBlock, Option.some.injEq] at hg hv
      rw [hg] at h1
      rw [hv, h1] at k1
      simp at k1

/-- A list of items with the room behind each body. -/
structure LAr (B : Nat) (W : World) (v : Value) (L : List It) : Prop extends LAcc B W v L where
  rm : ∀ t ∈ L, Rm B W t

/-- A tree is put behind the list. -/
def GivesTr (C : Nat) (a : Option Addr) (n cap : Nat) (w : World) (L : List It) (m : Nat) (T : List It → Prop) (e : Ending) (w' : World) : Prop :=
  ∃ v M, e = .returned v ∧ LAr (C + 1) w' v (L ++ M) ∧ 0 < M.length ∧ M.length ≤ m ∧ (∀ t ∈ M, Dri t) ∧ T M ∧ Cur w' C a n cap ∧ Below C w w'

/-- A body that was made behind S. -/
structure Bdy (S : Nat) (W : World) (da : Option Addr) (dg k dc : Nat) (F : Nat → Int) : Prop where
  row : W.ownsRow S 5 1 (.slice da k dc) k (byts F k)
  cap0 : k = 0 → dc = 0
  own : BOwn W da dg 0 k F
  up : 0 < k → S ≤ dg
  len : k ≤ 256
  rng : ∀ i, i < k → 0 ≤ F i ∧ F i < 256

theorem cur_lt {W : World} {C : Nat} {a : Option Addr} {n cap : Nat} (h : Cur W C a n cap) : C < W.heap.size := World.block_lt_of_cell? _ _ h.c0

theorem bown_blk {W W' : World} {a : Option Addr} {g off n : Nat} {f : Nat → Int} (h : BOwn W a g off n f) (e : 0 < n → W'.heap[g]? = W.heap[g]?) : BOwn W' a g off n f :=
  ⟨⟨h.at', fun i hi => (World.cell?_of_block (a := ⟨g, off + i, none⟩) (e (by omega))).trans (h.cell i hi)⟩, fun i hi => (World.frozen?_of_block (a := ⟨g, off + i, none⟩) (e (by omega))).trans (h.free i hi)⟩

theorem Bdy.gb {S C : Nat} {W W' : World} {da : Option Addr} {dg k dc : Nat} {F : Nat → Int} (h : Bdy S W da dg k dc F) (g : W.grownBy W' (some C)) (hC : C < S) : Bdy S W' da dg k dc F :=
  ⟨owns_gb h.row g hC, h.cap0, bown_blk h.own (fun h0 => g.block dg (h.own.toBSeg.lt h0) (by have := h.up h0; simp; omega)), h.up, h.len, h.rng⟩

theorem bl_gb {C : Nat} {w W W' : World} (h : Below C w W) (g : W.grownBy W' (some C)) (hw : C ≤ w.heap.size) : Below C w W' :=
  ⟨g.os.trans h.os, g.tape.trans h.tape, g.output.trans h.output, Nat.le_trans h.size g.size, fun k hk => (g.block k (by have := h.size; omega) (by simp; omega)).trans (h.block k hk)⟩

theorem LAcc.gb {C : Nat} {W W' : World} {v : Value} {L : List It} (h : LAcc (C + 1) W v L) (g : W.grownBy W' (some C)) : LAcc (C + 1) W' v L :=
  h.of_blk (fun q hq => g.block q (h.row.lt q hq).2 (by have := (h.row.lt q hq).1; simp; omega)) (fun t ht h0 => g.block t.blk (h.bods.lt ht h0) (by have := h.bods.up t ht h0; simp; omega))

theorem LAr.gb {C : Nat} {W W' : World} {v : Value} {L : List It} (h : LAr (C + 1) W v L) (g : W.grownBy W' (some C)) : LAr (C + 1) W' v L :=
  ⟨h.toLAcc.gb g, fun t ht => (h.rm t ht).keep (fun q hq => g.block q ((h.rm t ht).row.lt q hq).2 (by have := ((h.rm t ht).row.lt q hq).1; simp; omega))⟩

theorem Rm.app {B : Nat} {W w6 : World} {X : Obj} {v : Value} {L : List It} {t : It} (h : Rm B W t) (hA : LAcc B W v L) (hG : (W.alloc X).grownBy w6 v.ownBlock) : Rm B w6 t :=
  h.keep fun q hq => (hG.block q (by have := (h.row.lt q hq).2; simp; omega) (fun e => h.away hA.row hq e.symm)).trans (Below.block (Ext.alloc W X) q (h.row.lt q hq).2)

theorem LAr.app {B : Nat} {W w6 : World} {X : Obj} {v v9 : Value} {L M : List It} (h : LAr B W v L) (h9 : LAcc B w6 v9 (L ++ M)) (hG : (W.alloc X).grownBy w6 v.ownBlock) (hM : ∀ t ∈ M, Rm B W t) : LAr B w6 v9 (L ++ M) :=
  ⟨h9, fun t ht => (List.mem_append.1 ht).elim (fun h' => (h.rm t h').app h.toLAcc hG) (fun h' => (hM t h').app h.toLAcc hG)⟩

theorem LAr.setKid {B : Nat} {W : World} {g n cap : Nat} {A C : List It} {t : It} (h : LAr B W (.slice (some ⟨g, 0, none⟩) n cap) (A ++ t :: C)) (k : Int) :
    LAr B (W.setCell ⟨g, 3 * A.length + 2, none⟩ (.int .i64 k)) (.slice (some ⟨g, 0, none⟩) n cap) (A ++ ⟨t.tag, k, t.ad, t.blk, t.off, t.len, t.cap, t.f⟩ :: C) := by
  have hs : ∀ s ∈ A ++ t :: C, Rm B (W.setCell ⟨g, 3 * A.length + 2, none⟩ (.int .i64 k)) s := fun s hs => (h.rm s hs).keep (fun q hq => Below.heap_setCell _ _ _ _ (by
    show q ≠ g
    exact fun e => (h.rm s hs).away h.row hq (by rw [e]; rfl)))
  refine ⟨h.toLAcc.setKid k, fun s hs' => ?_⟩
  rcases List.mem_append.1 hs' with hs' | hs'
  · exact hs s (List.mem_append.2 (.inl hs'))
  · rcases List.mem_cons.1 hs' with rfl | hs'
    · have := hs t (List.mem_append.2 (.inr (List.mem_cons.2 (.inl rfl))))
      exact ⟨this.row, this.cap0⟩
    · exact hs s (List.mem_append.2 (.inr (List.mem_cons.2 (.inr hs'))))

theorem owns_noughts (S N : Nat) (w : World) (hS : S ≤ w.heap.size) (hN : N ≤ 1048576) : (w.alloc (.cells (madeCells #[.int .u8 0] N) 5)).ownsRow S 5 1 (.slice (some ⟨w.heap.size, 0, none⟩) N N) N (byts (fun _ => 0) N) := by
  have := World.ownsRow_lit (e := 5) (size := 1) (base := S) w (madeCells #[.int .u8 0] N) N hS (by unfold maxLen; omega) (by rw [size_madeCells]; simp)
  have e : (madeCells #[.int .u8 0] N).toList = byts (fun _ => 0) N := by
    refine List.ext_getElem ?_ ?_
    · simp [byts, size_madeCells]
    · intro i h1 h2
      simp [madeCells, byts, Nat.mod_one]
  rwa [e] at this

theorem rm_of {S C : Nat} {W : World} {da : Option Addr} {dg k dc : Nat} {F : Nat → Int} (tag : Int) (h : Bdy S W da dg k dc F) (hC : C < S) : Rm (C + 1) W ⟨tag, 0, da, dg, 0, k, dc, nfF k F⟩ :=
  ⟨owns_congr (owns_mono h.row hC) (fun i hi => (getD_map hi).symm), h.cap0⟩

theorem app_keeps {C : Nat} {a : Option Addr} {n cap : Nat} {w W w6 : World} {v : Value} {X : Obj} (hC : Cur W C a n cap) (hB : Below C w W) (hw : C ≤ w.heap.size) (hv : ∀ k, v.ownBlock = some k → C + 1 ≤ k) (hG : (W.alloc X).grownBy w6 v.ownBlock) : Cur w6 C a n cap ∧ Below C w w6 := by
  have E := Ext.alloc W X
  have hk : ∀ k, k < C + 1 → k < W.heap.size → w6.heap[k]? = W.heap[k]? := fun k h1 h2 => (hG.block k (by simp; omega) (fun e => by have := hv k e.symm; omega)).trans (Below.block E k h2)
  exact ⟨hC.of_block (hk C (by omega) (cur_lt hC)), ⟨hG.os.trans hB.os, hG.tape.trans hB.tape, hG.output.trans hB.output, Nat.le_trans hB.size (Nat.le_trans (Below.size E) hG.size), fun k h => (hk k (by omega) (by have := hB.size; omega)).trans (hB.block k h)⟩⟩

theorem set_keeps {C : Nat} {a : Option Addr} {n cap : Nat} {w W : World} {g o : Nat} (x : Value) (hC : Cur W C a n cap) (hB : Below C w W) (hg : C + 1 ≤ g) : Cur (W.setCell ⟨g, o, none⟩ x) C a n cap ∧ Below C w (W.setCell ⟨g, o, none⟩ x) :=
  ⟨hC.of_block (Below.heap_setCell _ _ _ _ (by show C ≠ g; omega)), ⟨hB.os, hB.tape, hB.output, by have := hB.size; simp [World.setCell]; exact this, fun k h => (Below.heap_setCell _ _ _ _ (by show k ≠ g; omega)).trans (hB.block k h)⟩⟩

/-- One of a list of numbers that is built. -/
def GivesPk (C : Nat) (a : Option Addr) (n cap : Nat) (xs : List Int) (W : World) (e : Ending) (w' : World) : Prop := ∃ x, x ∈ xs ∧ e = .returned (.int .i64 x) ∧ Cur w' C a n cap ∧ W.grownBy w' (some C)

theorem pick_of (C : Nat) (a : Option Addr) (b off n cap : Nat) (f : Nat → Int) (xs : List Int) (m cap2 : Nat) (hm : m = xs.length) (W : World) (hC : Cur W C a n cap) (hK : Code W C a b off n f) (hn : n ≤ 1048576) (h0 : 0 < xs.length) (h1 : xs.length ≤ 100) :
    Calls Tryd.prog 52 #[.pointer (some ⟨C, 0, none⟩), .slice (some ⟨W.heap.size, 0, none⟩) m cap2] (W.alloc (.cells (xs.map (Value.int .i64)).toArray 3)) fun e w' => GivesPk C a n cap xs W e w' := by
  subst hm
  have E := Ext.alloc W (.cells (xs.map (Value.int .i64)).toArray 3)
  have hl := cur_lt hC
  have G : W.grownBy (W.alloc (.cells (xs.map (Value.int .i64)).toArray 3)) (some C) := gb_below E (Nat.le_refl _)
  refine (l1PickInt_of C a b off n cap f _ _ _ _ cap2 _ _ (hC.of_block (E.block C hl)) (hK.grow G) hn (seg_list W xs) h0 h1 (by omega)).mono ?_
  rintro e w' ⟨i, hi, rfl, hC2, T⟩
  refine ⟨xs.getD i 0, ?_, rfl, hC2, gb_trans G (gb_touch T)⟩
  rw [List.getD_eq_getElem?_getD, List.getElem?_eq_getElem hi]
  exact List.getElem_mem _

/-- A list and one behind it: what the append wants. -/
theorem one_more {C S : Nat} {W : World} {v : Value} {L : List It} {da : Option Addr} {dg k dc : Nat} {F : Nat → Int} (tag : Int) (hA : LAcc (C + 1) W v L) (hS : ∀ t ∈ L, 0 < t.len → t.blk < S) (hv : ∀ g, v.ownBlock = some g → g < S) (hCS : C < S) (hD : Bdy S W da dg k dc F) (X : Obj) :
    Bods (C + 1) (W.alloc X) (L ++ [⟨tag, 0, da, dg, 0, k, dc, nfF k F⟩]) ∧ ∀ t ∈ [(⟨tag, 0, da, dg, 0, k, dc, nfF k F⟩ : It)], 0 < t.len → v.ownBlock ≠ some t.blk := by
  have E := Ext.alloc W X
  have hb := hA.bods.ext E
  have h1 := (Bods.one (B := dg) (cap := dc) tag (hD.own.of_all E) (Nat.le_refl _))
  refine ⟨⟨fun t ht => ?_, fun t ht h0 => ?_, fun t ht => ?_, ?_⟩, fun t ht h0 h => ?_⟩
  · rcases List.mem_append.1 ht with ht | ht
    · exact hb.own t ht
    · rw [List.mem_singleton.1 ht]
      exact h1.own _ (List.mem_singleton.2 rfl)
  · rcases List.mem_append.1 ht with ht | ht
    · exact hb.up t ht h0
    · rw [List.mem_singleton.1 ht] at h0 ⊢
      have := hD.up h0
      show C + 1 ≤ dg
      omega
  · rcases List.mem_append.1 ht with ht | ht
    · exact hb.nf t ht
    · rw [List.mem_singleton.1 ht]
      have := h1.nf _ (List.mem_singleton.2 rfl)
      exact this
  · rw [List.pairwise_append]
    refine ⟨hb.apart, List.pairwise_singleton _ _, fun s hs t ht k1 k2 => ?_⟩
    rw [List.mem_singleton.1 ht] at k2 ⊢
    have := hD.up k2
    have := hS s hs k1
    show s.blk ≠ dg
    omega
  · rw [List.mem_singleton.1 ht] at h0 h
    have h2 : S ≤ dg := hD.up h0
    have h3 : dg < S := hv _ h
    omega

theorem dri_of {S : Nat} {W : World} {da : Option Addr} {dg k dc : Nat} {F : Nat → Int} (tag : Int) (h : Bdy S W da dg k dc F) : Dri ⟨tag, 0, da, dg, 0, k, dc, nfF k F⟩ :=
  ⟨Nat.le_trans h.len (by decide), fun i hi => by
    show 0 ≤ nfF k F i ∧ nfF k F i < 256
    have hi' : i < k := hi
    unfold nfF
    rw [getD_map hi']
    exact h.rng i hi', by show -1 ≤ (0 : Int) ∧ (0 : Int) ≤ 1000; omega⟩

theorem dri_bare (tag : Int) (kd : Nat) (h : kd ≤ 3) : Dri (bare tag kd) := ⟨Nat.zero_le _, fun i hi => absurd hi (Nat.not_lt_zero _), by show -1 ≤ (kd : Int) ∧ (kd : Int) ≤ 1000; omega⟩

set_option maxHeartbeats 12800000 in
set_option maxRecDepth 100000 in
theorem l7DrawTree_any (C : Nat) (a : Option Addr) (b off n cap : Nat) (f : Nat → Int) (hn : n ≤ 1048576) : ∀ (d : Nat) (D : Int) (v : Value) (L : List It) (w : World), D = (d : Int) → d ≤ 3 → LAr (C + 1) w v L → L.length + ndD d ≤ 1000 → Cur w C a n cap → Code w C a b off n f → (0 < n → b < C) →
    Calls Tryd.prog 27 #[.pointer (some ⟨C, 0, none⟩), v, .int .i64 D] w fun e w' => GivesTr C a n cap w L (ndD d) (IsT d) e w'
  | 0, D, v, L, w, hD0, hd3, hA, hL, hC, hK, hb => by
    obtain ⟨va, vc, rfl⟩ := ownsRow_slc hA.row
    have hz : (D == 0) = true := by subst hD0; rfl
    obtain ⟨M0, hM0⟩ : ∃ z, ndD 0 = z := ⟨_, rfl⟩
    have HM0 : Hid (1 ≤ M0) := hide (by rw [← hM0]; exact ndD_pos 0)
    have HhL : Hid (L.length ≤ 999) := hide (by have := ndD_pos 0; omega)
    rw [hM0]
    have HKK : Hid (∀ W, Below C w W → Code W C a b off n f) := hide (fun W h => ⟨⟨hK.seg.at', fun i hi => (World.cell?_of_block (a := ⟨b, off + i, none⟩) (h.block b (hb (by omega)))).trans (hK.seg.cell i hi)⟩, hK.byts, hK.ne⟩)
    have Hw : Hid (C ≤ w.heap.size) := hide (Nat.le_of_lt (cur_lt hC))
    have HA1 := hide hA
    have HC1 := hide hC
    have HB1 : Hid (Below C w w) := hide (Below.refl _ _)
    clear hA hL hC hK hb hM0
    go_enter Tryd.func27, Tryd.ntmps27
    have Hlt : Hid (C < w.heap.size) := hide (cur_lt HC1.out)
    have Hold : Hid ((∀ t ∈ L, 0 < t.len → t.blk < w.heap.size) ∧ ∀ g, (Value.slice va L.length vc).ownBlock = some g → g < w.heap.size) := hide ⟨fun t ht h0 => HA1.out.bods.lt ht h0, fun g hg => (HA1.out.row.lt g hg).2⟩
    go_wp2_with fail
    refine (l5DrawData_any C a b off n cap f 6 _ HC1.out (HKK.out _ HB1.out) hn (by omega) (by omega) (cur_lt HC1.out)).mono ?_
    rintro e w2 ⟨vb, k, F, rfl, hk, hO, hF, hk0, hC2, hG⟩
    obtain ⟨da, dg, dc, rfl, dl, -, -, hD⟩ := owns_seg hO
    have HD2 := hide (show Bdy w.heap.size w2 da dg k dc F from ⟨hO, fun h => (by
      obtain ⟨q, hq⟩ := hk0 h
      injection hq), hD, fun _ => dl, by omega, hF⟩)
    have HA2 := hide (HA1.out.gb hG)
    have HC2 := hide hC2
    have HB2 := hide (bl_gb HB1.out hG Hw.out)
    have HsW2 := hide hG.size
    clear hk hO hF hk0 hC2 hG dl hD
    go_wp2_with fail
    refine (l1Once_any C a b off n cap f 15 _ HC2.out (HKK.out _ HB2.out) hn (by omega) (by omega)).mono ?_
    rintro e w3 ⟨x, rfl, hC3, T3⟩
    have HD3 := hide (HD2.out.gb (gb_touch T3) Hlt.out)
    have HA3 := hide (HA2.out.gb (gb_touch T3))
    have HC3 := hide hC3
    have HB3 := hide (bl_gb HB2.out (gb_touch T3) Hw.out)
    have HsW : Hid (w.heap.size ≤ w3.heap.size) := hide (Nat.le_trans HsW2.out (gb_touch T3).size)
    clear hC3 T3 HD2 HA2 HC2 HB2 HsW2
    cases x
    · have HA5 := HA3
      have HD5 := HD3
      have HC5 := HC3
      have HB5 := HB3
      clear HA3 HD3 HC3 HB3
      go_wp2_with fail
      refine (pick_of C a b off n cap f [1, 2, 3, 4, 5, 6, 12, 128, 130] _ _ rfl _ HC5.out (HKK.out _ HB5.out) hn (by decide) (by decide)).mono ?_
      rintro e w8 ⟨tag, htag, rfl, hC8, hG8⟩
      have Htag := hide htag
      clear htag
      have HA8 := hide (HA5.out.gb hG8)
      have HD8 := hide (HD5.out.gb hG8 Hlt.out)
      have HC8 := hide hC8
      have HB8 := hide (bl_gb HB5.out hG8 Hw.out)
      clear hC8 hG8 HA5 HD5 HC5 HB5
      go_wp2_with (at_builtin; refine stop_app rfl ?_)
      refine hide ?_
      have lat := one_more (dc := dc) tag HA8.out.toLAcc Hold.out.1 Hold.out.2 Hlt.out HD8.out (.cells #[.int .i64 tag, .slice da k dc, .int .i64 0] 55)
      refine wpList_appG rfl _ _ rfl (C + 1) w8.heap.size w8 _ _ L [⟨tag, 0, da, dg, 0, k, dc, nfF k F⟩] rfl HA8.out.toLAcc (Ext.alloc w8 _) rfl (ownsRow_it w8 ⟨tag, 0, da, dg, 0, k, dc, nfF k F⟩) lat.1 lat.2 (by have := HhL.out; simp; omega) (cur_lt HC8.out) ?_
      intro v9 w9 hA9 hG9 hO9
      replace hA9 := HA8.out.app hA9 hG9 (fun t ht => by rw [List.mem_singleton.1 ht]; exact rm_of tag HD8.out Hlt.out)
      obtain ⟨a9, c9, rfl⟩ := ownsRow_slc hA9.row
      have hl9 : (L ++ [(⟨tag, 0, da, dg, 0, k, dc, nfF k F⟩ : It)]).length = L.length + 1 := by simp
      rw [hl9] at hA9
      rw [hl9]
      have k9 := app_keeps HC8.out HB8.out Hw.out (fun q hq => (HA8.out.row.lt q hq).1) hG9
      have HE := hide (show GivesTr C a n cap w L M0 (IsT 0) (.returned (.slice a9 (L.length + 1) c9)) w9 from ⟨_, [⟨tag, 0, da, dg, 0, k, dc, nfF k F⟩], rfl, hA9, by simp, HM0.out, fun t ht => by rw [List.mem_singleton.1 ht]; exact dri_of tag HD8.out, isT_leaf ⟨rfl, Htag.out, HD8.out.len⟩ 0, k9.1, k9.2⟩)
      clear lat hA9 hG9 hO9 k9 HA8 HD8 HC8 HB8
      go_wp2
      go_ret
      exact HE.out
    · go_wp2_with fail
      refine (pick_of C a b off n cap f [127, 128, 255, 256] _ _ rfl _ HC3.out (HKK.out _ HB3.out) hn (by decide) (by decide)).mono ?_
      rintro e w4 ⟨y, hy, rfl, hC4, hG4⟩
      have hy2 : 0 < y ∧ y ≤ 256 := by simp at hy; omega
      obtain ⟨N, rfl⟩ := Int.eq_ofNat_of_zero_le (Int.le_of_lt hy2.1)
      have hN0 : 0 < N := by omega
      have hN : N ≤ 256 := by omega
      have HN := hide hN
      have hmk := run_make_row' (P := Tryd.prog) 22 5 (.int .u8 0) 1 Tryd.underlying22 Tryd.info5 rfl .i64 .i64 N (by omega) (by omega)
      have n0 : 0 ≤ (N : Int) := by omega
      have n1 : (N : Int) ≤ 256 := by omega
      have E5 := Ext.alloc w4 (.cells (madeCells #[.int .u8 0] N) 5)
      have G5 : w4.grownBy (w4.alloc (.cells (madeCells #[.int .u8 0] N) 5)) (some C) := gb_below E5 (Nat.le_refl _)
      clear HD3
      have HD5 := hide (show Bdy w.heap.size (w4.alloc (.cells (madeCells #[.int .u8 0] N) 5)) (some ⟨w4.heap.size, 0, none⟩) w4.heap.size N N (fun _ => 0) from ⟨owns_noughts w.heap.size N w4 (Nat.le_trans HsW.out hG4.size) (by omega), fun h => by omega, BOwn.of_row (World.rowIs_made w4 (.int .u8 0) N 5) (Nat.le_refl _), fun _ => Nat.le_trans HsW.out hG4.size, hN, fun i _ => by simp⟩)
      have HA5 := hide ((HA3.out.gb hG4).gb G5)
      have HC5 := hide (hC4.of_block (E5.block C (cur_lt hC4)))
      have HB5 := hide (bl_gb (bl_gb HB3.out hG4 Hw.out) G5 Hw.out)
      obtain ⟨W5, hW5⟩ : ∃ z, w4.alloc (.cells (madeCells #[.int .u8 0] N) 5) = z := ⟨_, rfl⟩
      rw [hW5] at HD5 HA5 HC5 HB5
      have hs5 : W5.heap.size = w4.heap.size + 1 := by rw [← hW5]; simp
      clear hy hy2 hN0 hC4 hG4 E5 G5 HA3 HC3 HB3 hN
      go_wp2_with fail
      try rw [hW5]
      try rw [← hs5]
      clear hmk
      refine (pick_of C a b off n cap f [1, 2, 3, 4, 5, 6, 12, 128, 130] _ _ rfl _ HC5.out (HKK.out _ HB5.out) hn (by decide) (by decide)).mono ?_
      rintro e w8 ⟨tag, htag, rfl, hC8, hG8⟩
      have Htag := hide htag
      clear htag
      have HA8 := hide (HA5.out.gb hG8)
      have HD8 := hide (HD5.out.gb hG8 Hlt.out)
      have HC8 := hide hC8
      have HB8 := hide (bl_gb HB5.out hG8 Hw.out)
      clear hC8 hG8 HA5 HD5 HC5 HB5
      go_wp2_with (at_builtin; refine stop_app rfl ?_)
      refine hide ?_
      have lat := one_more (dc := N) tag HA8.out.toLAcc Hold.out.1 Hold.out.2 Hlt.out HD8.out (.cells #[.int .i64 tag, .slice (some ⟨w4.heap.size, 0, none⟩) N N, .int .i64 0] 55)
      refine wpList_appG rfl _ _ rfl (C + 1) w8.heap.size w8 _ _ L [⟨tag, 0, (some ⟨w4.heap.size, 0, none⟩), w4.heap.size, 0, N, N, nfF N (fun _ => 0)⟩] rfl HA8.out.toLAcc (Ext.alloc w8 _) rfl (ownsRow_it w8 ⟨tag, 0, (some ⟨w4.heap.size, 0, none⟩), w4.heap.size, 0, N, N, nfF N (fun _ => 0)⟩) lat.1 lat.2 (by have := HhL.out; simp; omega) (cur_lt HC8.out) ?_
      intro v9 w9 hA9 hG9 hO9
      replace hA9 := HA8.out.app hA9 hG9 (fun t ht => by rw [List.mem_singleton.1 ht]; exact rm_of tag HD8.out Hlt.out)
      obtain ⟨a9, c9, rfl⟩ := ownsRow_slc hA9.row
      have hl9 : (L ++ [(⟨tag, 0, (some ⟨w4.heap.size, 0, none⟩), w4.heap.size, 0, N, N, nfF N (fun _ => 0)⟩ : It)]).length = L.length + 1 := by simp
      rw [hl9] at hA9
      rw [hl9]
      have k9 := app_keeps HC8.out HB8.out Hw.out (fun q hq => (HA8.out.row.lt q hq).1) hG9
      have HE := hide (show GivesTr C a n cap w L M0 (IsT 0) (.returned (.slice a9 (L.length + 1) c9)) w9 from ⟨_, [⟨tag, 0, (some ⟨w4.heap.size, 0, none⟩), w4.heap.size, 0, N, N, nfF N (fun _ => 0)⟩], rfl, hA9, by simp, HM0.out, fun t ht => by rw [List.mem_singleton.1 ht]; exact dri_of tag HD8.out, isT_leaf ⟨rfl, Htag.out, HD8.out.len⟩ 0, k9.1, k9.2⟩)
      clear lat hA9 hG9 hO9 k9 HA8 HD8 HC8 HB8
      go_wp2
      go_ret
      exact HE.out
  | d + 1, D, v, L, w, hD0, hd3, hA, hL, hC, hK, hb => by
    have IH := hide (l7DrawTree_any C a b off n cap f hn d)
    obtain ⟨va, vc, rfl⟩ := ownsRow_slc hA.row
    have hz : (D == 0) = false := by simp; omega
    obtain ⟨M0, hM0⟩ : ∃ z, ndD (d + 1) = z := ⟨_, rfl⟩
    obtain ⟨m, hm⟩ : ∃ z, ndD d = z := ⟨_, rfl⟩
    have hMm : M0 = 1 + 3 * m := by rw [← hM0, ← hm]; rfl
    have HM0 : Hid (1 ≤ M0) := hide (by omega)
    have HMm := hide hMm
    have HhL : Hid (L.length ≤ 999) := hide (by omega)
    have HhM : Hid (L.length + M0 ≤ 1000) := hide (by omega)
    rw [hM0]
    rw [hm] at IH
    have HD1 : Hid (D - 1 = (d : Int) ∧ d ≤ 3) := hide (by omega)
    have w0 : wrap64 (D - 1) = D - 1 := by unfold wrap64; omega
    have w0' : IntKind.i64.wrap (D - 1) = D - 1 := by rw [IntKind.wrap_i64]; omega
    have HKK : Hid (∀ W, Below C w W → Code W C a b off n f) := hide (fun W h => ⟨⟨hK.seg.at', fun i hi => (World.cell?_of_block (a := ⟨b, off + i, none⟩) (h.block b (hb (by omega)))).trans (hK.seg.cell i hi)⟩, hK.byts, hK.ne⟩)
    have Hw : Hid (C ≤ w.heap.size) := hide (Nat.le_of_lt (cur_lt hC))
    have HA0 := hide hA
    have HC0 := hide hC
    have HK0 := hide hK
    have Hb := hide hb
    clear hA hL hC hK hb hM0 hm hD0 hd3 hMm
    go_enter Tryd.func27, Tryd.ntmps27
    go_wp2_with fail
    refine (l1Once_any C a b off n cap f 3 _ HC0.out HK0.out hn (by omega) (by omega)).mono ?_
    rintro e w1 ⟨x, rfl, hC1, T1⟩
    have HA1 := hide (HA0.out.gb (gb_touch T1))
    have HC1 := hide hC1
    have HB1 := hide (bl_gb (Below.refl C w) (gb_touch T1) Hw.out)
    clear hC1 T1 HA0 HC0 HK0
    cases x
    · go_wp2_with fail
      refine (pick_of C a b off n cap f [48, 49, 160, 163] _ _ rfl _ HC1.out (HKK.out _ HB1.out) hn (by decide) (by decide)).mono ?_
      rintro e w8 ⟨tag, htag, rfl, hC8, hG8⟩
      have Htag := hide htag
      clear htag
      have HA8 := hide (HA1.out.gb hG8)
      have HC8 := hide hC8
      have HB8 := hide (bl_gb HB1.out hG8 Hw.out)
      clear hC8 hG8 HA1 HC1 HB1
      go_wp2_with (at_builtin; refine stop_app rfl ?_)
      refine hide ?_
      have lat := HA8.out.later (Ext.alloc w8 (.cells #[.int .i64 tag, .slice none 0 0, .int .i64 0] 55)) ((Bods.nil w8.heap.size (w8.alloc (.cells #[.int .i64 tag, .slice none 0 0, .int .i64 0] 55))).bare tag 0) (cur_lt HC8.out)
      refine wpList_appG rfl _ _ rfl (C + 1) w8.heap.size w8 _ _ L [bare tag 0] rfl HA8.out.toLAcc (Ext.alloc w8 _) rfl (ownsRow_it w8 (bare tag 0)) lat.1 lat.2 (by have := HhL.out; simp; omega) (cur_lt HC8.out) ?_
      intro v9 w9 hA9 hG9 hO9
      replace hA9 := HA8.out.app hA9 hG9 (fun t ht => by rw [List.mem_singleton.1 ht]; exact Rm.bare _ _ _ _)
      obtain ⟨a9, c9, rfl⟩ := ownsRow_slc hA9.row
      have hl9 : (L ++ [bare tag 0]).length = L.length + 1 := by simp
      rw [hl9] at hA9
      rw [hl9]
      have k9 := app_keeps HC8.out HB8.out Hw.out (fun q hq => (HA8.out.row.lt q hq).1) hG9
      have HA9 := hide hA9
      have HC9 := hide k9.1
      have HB9 := hide k9.2
      clear lat hA9 hG9 hO9 k9 HA8 HC8 HB8 hl9
      go_wp2_with fail
      refine (l1Below_any C a b off n cap f 4 _ HC9.out (HKK.out _ HB9.out) hn (by omega) (by omega)).mono ?_
      rintro e w10 ⟨x, rfl, x0, x1, hC10, T10⟩
      have HA10 := hide (HA9.out.gb (gb_touch T10))
      have HC10 := hide hC10
      have HB10 := hide (bl_gb HB9.out (gb_touch T10) Hw.out)
      clear hC10 T10 HA9 HC9 HB9
      go_wp2
      go_loopw [1, 9] (fun v i wr => ∃ (va : Option Addr) (vn vc : Nat) (kd : Nat) (r : Int) (M : List It), v = .slice va vn vc ∧ i = .int .i64 r ∧ 0 ≤ r ∧ (kd : Int) + r ≤ 3 ∧ LAr (C + 1) wr (.slice va vn vc) (L ++ bare tag kd :: M) ∧ M.length ≤ kd * m ∧ (∀ t ∈ M, Dri t) ∧ IsF d kd M ∧ Cur wr C a n cap ∧ Below C w wr) (fun _ i _ => (intOf i).toNat)
      case atStart => exact ⟨_, _, _, 0, x, [], rfl, rfl, x0, by omega, HA10.out, Nat.zero_le _, fun t h => absurd h List.not_mem_nil, IsF.nil d, HC10.out, HB10.out⟩
      case round =>
        clear HA10 HC10 HB10 x0 x1
        obtain ⟨ua, un, uc, kd, r, M, rfl, rfl, r0, r1, hA, hM, hMd, hIF, hC, hB⟩ := hrel
        have HIF := hide hIF
        have HA := hide hA
        have HM := hide hM
        have HMd := hide hMd
        have HC := hide hC
        have HB := hide hB
        have Hun := hide hA.len_n
        clear hA hM hMd hIF hC hB
        by_cases hr : 0 < r
        · have hk2 : kd ≤ 2 := by omega
          have Hk2 := hide hk2
          have Hmul : Hid (M.length + m ≤ (kd + 1) * m ∧ (kd + 1) * m ≤ 3 * m) := hide ⟨by rw [Nat.add_mul, Nat.one_mul]; exact Nat.add_le_add_right HM.out _, Nat.mul_le_mul_right _ (by omega)⟩
          go_wp2_with fail
          refine (IH.out (D - 1) _ _ _ HD1.out.1 HD1.out.2 HA.out (by have := Hmul.out; have := HhM.out; have := HMm.out; simp; omega) HC.out (HKK.out _ HB.out) Hb.out).mono ?_
          rintro e w2 ⟨v2, M2, rfl, hA2, hM0, hM2, hD2, hT2, hC2, hB2⟩
          have HF2 := hide (HIF.out.add hT2)
          obtain ⟨g, c2, rfl, hg, -⟩ := slc_at hA2.row (by simp; omega)
          obtain ⟨N, hN⟩ : ∃ z, ((L ++ bare tag kd :: M) ++ M2).length = z := ⟨_, rfl⟩
          have HN := hide hN
          have i2 : (L.length : Int) < (N : Int) := by rw [← hN]; simp; omega
          rw [hN] at hA2
          rw [List.append_assoc, List.cons_append] at hA2
          rw [hN]
          have h3 := hA2.at3
          have c3 := h3.2.2.1
          have f3 := h3.2.2.2 (L.length * 3 + 2)
          have c3' : w2.cell? ⟨g, L.length * 3 + 2, none⟩ = some (.int .i64 (kd : Int)) := c3
          clear w0 w0'
          have ks := set_keeps (o := L.length * 3 + 2) (.int .i64 ((kd : Int) + 1)) hC2 (HB.out.trans hB2) hg
          have HKs := hide ks
          have HA3 := hide (hA2.setKid ((kd : Int) + 1))
          have Hl2 : Hid ((M ++ M2).length ≤ (kd + 1) * m) := hide (by have := Hmul.out; simp; omega)
          have Hd2 : Hid (∀ t ∈ M ++ M2, Dri t) := hide (fun t ht => (List.mem_append.1 ht).elim (HMd.out t) (hD2 t))
          clear hA2 hM0 hM2 hD2 hT2 hC2 hB2 hN c3 h3 ks HA HC HB HM HMd HIF Hmul Hun
          go_wp2
          go_roundw
          case rel => exact ⟨_, _, _, kd + 1, r - 1, M ++ M2, rfl, rfl, by omega, by omega, by have h := HA3.out; rw [show 3 * L.length + 2 = L.length * 3 + 2 by omega] at h; exact h, Hl2.out, Hd2.out, HF2.out, HKs.out.1, HKs.out.2⟩
          case measure => simp [intOf]; omega
        · have HE := hide (show GivesTr C a n cap w L M0 (IsT (d + 1)) (.returned (.slice ua un uc)) wr from ⟨_, bare tag kd :: M, rfl, HA.out, by simp, by have h := HM.out; have h2 := HMm.out; have h3 : kd * m ≤ 3 * m := Nat.mul_le_mul_right _ (by omega); simp; omega, fun t ht => (List.mem_cons.1 ht).elim (fun h => h ▸ dri_bare tag kd (by omega)) (HMd.out t), isT_node Htag.out (by omega) HIF.out, HC.out, HB.out⟩)
          clear w0 w0'
          go_wp2
          go_ret
          exact HE.out
    · clear IH Hb w0 w0'
      have Hlt : Hid (C < w1.heap.size) := hide (cur_lt HC1.out)
      have Hold : Hid ((∀ t ∈ L, 0 < t.len → t.blk < w1.heap.size) ∧ ∀ g, (Value.slice va L.length vc).ownBlock = some g → g < w1.heap.size) := hide ⟨fun t ht h0 => HA1.out.bods.lt ht h0, fun g hg => (HA1.out.row.lt g hg).2⟩
      go_wp2_with fail
      refine (l5DrawData_any C a b off n cap f 6 _ HC1.out (HKK.out _ HB1.out) hn (by omega) (by omega) (cur_lt HC1.out)).mono ?_
      rintro e w2 ⟨vb, k, F, rfl, hk, hO, hF, hk0, hC2, hG⟩
      obtain ⟨da, dg, dc, rfl, dl, -, -, hD⟩ := owns_seg hO
      have HD2 := hide (show Bdy w1.heap.size w2 da dg k dc F from ⟨hO, fun h => (by
        obtain ⟨q, hq⟩ := hk0 h
        injection hq), hD, fun _ => dl, by omega, hF⟩)
      have HA2 := hide (HA1.out.gb hG)
      have HC2 := hide hC2
      have HB2 := hide (bl_gb HB1.out hG Hw.out)
      have HsW2 := hide hG.size
      clear hk hO hF hk0 hC2 hG dl hD
      go_wp2_with fail
      refine (l1Once_any C a b off n cap f 15 _ HC2.out (HKK.out _ HB2.out) hn (by omega) (by omega)).mono ?_
      rintro e w3 ⟨x, rfl, hC3, T3⟩
      have HD3 := hide (HD2.out.gb (gb_touch T3) Hlt.out)
      have HA3 := hide (HA2.out.gb (gb_touch T3))
      have HC3 := hide hC3
      have HB3 := hide (bl_gb HB2.out (gb_touch T3) Hw.out)
      have HsW : Hid (w1.heap.size ≤ w3.heap.size) := hide (Nat.le_trans HsW2.out (gb_touch T3).size)
      clear hC3 T3 HD2 HA2 HC2 HB2 HsW2
      cases x
      · have HA5 := HA3
        have HD5 := HD3
        have HC5 := HC3
        have HB5 := HB3
        clear HA3 HD3 HC3 HB3
        go_wp2_with fail
        refine (pick_of C a b off n cap f [1, 2, 3, 4, 5, 6, 12, 128, 130] _ _ rfl _ HC5.out (HKK.out _ HB5.out) hn (by decide) (by decide)).mono ?_
        rintro e w8 ⟨tag, htag, rfl, hC8, hG8⟩
        have Htag := hide htag
        clear htag
        have HA8 := hide (HA5.out.gb hG8)
        have HD8 := hide (HD5.out.gb hG8 Hlt.out)
        have HC8 := hide hC8
        have HB8 := hide (bl_gb HB5.out hG8 Hw.out)
        clear hC8 hG8 HA5 HD5 HC5 HB5
        go_wp2_with (at_builtin; refine stop_app rfl ?_)
        refine hide ?_
        have lat := one_more (dc := dc) tag HA8.out.toLAcc Hold.out.1 Hold.out.2 Hlt.out HD8.out (.cells #[.int .i64 tag, .slice da k dc, .int .i64 0] 55)
        refine wpList_appG rfl _ _ rfl (C + 1) w8.heap.size w8 _ _ L [⟨tag, 0, da, dg, 0, k, dc, nfF k F⟩] rfl HA8.out.toLAcc (Ext.alloc w8 _) rfl (ownsRow_it w8 ⟨tag, 0, da, dg, 0, k, dc, nfF k F⟩) lat.1 lat.2 (by have := HhL.out; simp; omega) (cur_lt HC8.out) ?_
        intro v9 w9 hA9 hG9 hO9
        replace hA9 := HA8.out.app hA9 hG9 (fun t ht => by rw [List.mem_singleton.1 ht]; exact rm_of tag HD8.out Hlt.out)
        obtain ⟨a9, c9, rfl⟩ := ownsRow_slc hA9.row
        have hl9 : (L ++ [(⟨tag, 0, da, dg, 0, k, dc, nfF k F⟩ : It)]).length = L.length + 1 := by simp
        rw [hl9] at hA9
        rw [hl9]
        have k9 := app_keeps HC8.out HB8.out Hw.out (fun q hq => (HA8.out.row.lt q hq).1) hG9
        have HE := hide (show GivesTr C a n cap w L M0 (IsT (d + 1)) (.returned (.slice a9 (L.length + 1) c9)) w9 from ⟨_, [⟨tag, 0, da, dg, 0, k, dc, nfF k F⟩], rfl, hA9, by simp, HM0.out, fun t ht => by rw [List.mem_singleton.1 ht]; exact dri_of tag HD8.out, isT_leaf ⟨rfl, Htag.out, HD8.out.len⟩ (d + 1), k9.1, k9.2⟩)
        clear lat hA9 hG9 hO9 k9 HA8 HD8 HC8 HB8
        go_wp2
        go_ret
        exact HE.out
      · go_wp2_with fail
        refine (pick_of C a b off n cap f [127, 128, 255, 256] _ _ rfl _ HC3.out (HKK.out _ HB3.out) hn (by decide) (by decide)).mono ?_
        rintro e w4 ⟨y, hy, rfl, hC4, hG4⟩
        have hy2 : 0 < y ∧ y ≤ 256 := by simp at hy; omega
        obtain ⟨N, rfl⟩ := Int.eq_ofNat_of_zero_le (Int.le_of_lt hy2.1)
        have hN0 : 0 < N := by omega
        have hN : N ≤ 256 := by omega
        have HN := hide hN
        have hmk := run_make_row' (P := Tryd.prog) 22 5 (.int .u8 0) 1 Tryd.underlying22 Tryd.info5 rfl .i64 .i64 N (by omega) (by omega)
        have n0 : 0 ≤ (N : Int) := by omega
        have n1 : (N : Int) ≤ 256 := by omega
        have E5 := Ext.alloc w4 (.cells (madeCells #[.int .u8 0] N) 5)
        have G5 : w4.grownBy (w4.alloc (.cells (madeCells #[.int .u8 0] N) 5)) (some C) := gb_below E5 (Nat.le_refl _)
        clear HD3
        have HD5 := hide (show Bdy w1.heap.size (w4.alloc (.cells (madeCells #[.int .u8 0] N) 5)) (some ⟨w4.heap.size, 0, none⟩) w4.heap.size N N (fun _ => 0) from ⟨owns_noughts w1.heap.size N w4 (Nat.le_trans HsW.out hG4.size) (by omega), fun h => by omega, BOwn.of_row (World.rowIs_made w4 (.int .u8 0) N 5) (Nat.le_refl _), fun _ => Nat.le_trans HsW.out hG4.size, hN, fun i _ => by simp⟩)
        have HA5 := hide ((HA3.out.gb hG4).gb G5)
        have HC5 := hide (hC4.of_block (E5.block C (cur_lt hC4)))
        have HB5 := hide (bl_gb (bl_gb HB3.out hG4 Hw.out) G5 Hw.out)
        obtain ⟨W5, hW5⟩ : ∃ z, w4.alloc (.cells (madeCells #[.int .u8 0] N) 5) = z := ⟨_, rfl⟩
        rw [hW5] at HD5 HA5 HC5 HB5
        have hs5 : W5.heap.size = w4.heap.size + 1 := by rw [← hW5]; simp
        clear hy hy2 hN0 hC4 hG4 E5 G5 HA3 HC3 HB3 hN
        go_wp2_with fail
        try rw [hW5]
        try rw [← hs5]
        clear hmk
        refine (pick_of C a b off n cap f [1, 2, 3, 4, 5, 6, 12, 128, 130] _ _ rfl _ HC5.out (HKK.out _ HB5.out) hn (by decide) (by decide)).mono ?_
        rintro e w8 ⟨tag, htag, rfl, hC8, hG8⟩
        have Htag := hide htag
        clear htag
        have HA8 := hide (HA5.out.gb hG8)
        have HD8 := hide (HD5.out.gb hG8 Hlt.out)
        have HC8 := hide hC8
        have HB8 := hide (bl_gb HB5.out hG8 Hw.out)
        clear hC8 hG8 HA5 HD5 HC5 HB5
        go_wp2_with (at_builtin; refine stop_app rfl ?_)
        refine hide ?_
        have lat := one_more (dc := N) tag HA8.out.toLAcc Hold.out.1 Hold.out.2 Hlt.out HD8.out (.cells #[.int .i64 tag, .slice (some ⟨w4.heap.size, 0, none⟩) N N, .int .i64 0] 55)
        refine wpList_appG rfl _ _ rfl (C + 1) w8.heap.size w8 _ _ L [⟨tag, 0, (some ⟨w4.heap.size, 0, none⟩), w4.heap.size, 0, N, N, nfF N (fun _ => 0)⟩] rfl HA8.out.toLAcc (Ext.alloc w8 _) rfl (ownsRow_it w8 ⟨tag, 0, (some ⟨w4.heap.size, 0, none⟩), w4.heap.size, 0, N, N, nfF N (fun _ => 0)⟩) lat.1 lat.2 (by have := HhL.out; simp; omega) (cur_lt HC8.out) ?_
        intro v9 w9 hA9 hG9 hO9
        replace hA9 := HA8.out.app hA9 hG9 (fun t ht => by rw [List.mem_singleton.1 ht]; exact rm_of tag HD8.out Hlt.out)
        obtain ⟨a9, c9, rfl⟩ := ownsRow_slc hA9.row
        have hl9 : (L ++ [(⟨tag, 0, (some ⟨w4.heap.size, 0, none⟩), w4.heap.size, 0, N, N, nfF N (fun _ => 0)⟩ : It)]).length = L.length + 1 := by simp
        rw [hl9] at hA9
        rw [hl9]
        have k9 := app_keeps HC8.out HB8.out Hw.out (fun q hq => (HA8.out.row.lt q hq).1) hG9
        have HE := hide (show GivesTr C a n cap w L M0 (IsT (d + 1)) (.returned (.slice a9 (L.length + 1) c9)) w9 from ⟨_, [⟨tag, 0, (some ⟨w4.heap.size, 0, none⟩), w4.heap.size, 0, N, N, nfF N (fun _ => 0)⟩], rfl, hA9, by simp, HM0.out, fun t ht => by rw [List.mem_singleton.1 ht]; exact dri_of tag HD8.out, isT_leaf ⟨rfl, Htag.out, HD8.out.len⟩ (d + 1), k9.1, k9.2⟩)
        clear lat hA9 hG9 hO9 k9 HA8 HD8 HC8 HB8
        go_wp2
        go_ret
        exact HE.out
end

end Go.Proofs.YtmcdikbcmikihaaDoor
