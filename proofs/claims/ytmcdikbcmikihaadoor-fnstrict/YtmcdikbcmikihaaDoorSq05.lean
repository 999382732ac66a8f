/- Lists of items that own their memory: the row and all bodies lie apart, at B or behind. The law's own helpers markItemS and heldItemS over them. A list of items in the making by appends: its row, and bodies apart from it and from one another. Lists of items: what they tell, rows, bodies apart; an append of one list behind another. A list of items whose fields are set one by one. Walks: the model draws bytes (l5DrawData; DrH's, without what Hmac wants); a drawn body as an item's. -/
import Derived.Test.YtmcdikbcmikihaaDoorSq04
import Derived.Maps.AppendAt
import Derived.Test.YtmcdikbcmikihaaDoorSq02
namespace Go.Proofs.YtmcdikbcmikihaaDoor

section
set_option linter.unusedVariables false
set_option linter.unusedSimpArgs false

open Go.RowKit

/-- Nothing below B has turned, and nothing has come. -/
structure Mrk (B : Nat) (w w' : World) : Prop where
  below : Below B w w'
  size : w'.heap.size = w.heap.size

theorem Mrk.refl (B : Nat) (w : World) : Mrk B w w := ⟨Below.refl _ _, rfl⟩

theorem Mrk.trans {B : Nat} {a b c : World} (h : Mrk B a b) (k : Mrk B b c) : Mrk B a c := ⟨Below.trans h.below k.below, k.size.trans h.size⟩

theorem Mrk.of_touch {B g : Nat} {w w' : World} (h : Touch g w w') (hg : B ≤ g) (hB : B ≤ w.heap.size) : Mrk B w w' :=
  ⟨⟨h.grown.os, h.grown.tape, h.grown.output, by rw [h.size]; exact Nat.le_refl _, fun k hk => h.grown.block k (by omega) (by simp; omega)⟩, h.size⟩

/-- n items whose row and bodies lie apart, at B or behind. -/
structure IOw (B : Nat) (w : World) (a : Option Addr) (S off n : Nat) (x : Nat → It) : Prop extends ISeg w a S off n x where
  fz : ∀ o, off ≤ o → o < off + n * 3 → w.frozen? ⟨S, o, none⟩ = false
  free : ∀ j, j < n → ∀ m, m < (x j).len → w.frozen? ⟨(x j).blk, (x j).off + m, none⟩ = false
  away : ∀ j, j < n → 0 < (x j).len → (x j).blk ≠ S ∧ B ≤ (x j).blk
  apart : ∀ i j, i < n → j < n → i ≠ j → 0 < (x i).len → 0 < (x j).len → (x i).blk ≠ (x j).blk
  rowB : 0 < n → B ≤ S

theorem IOw.own {B : Nat} {w : World} {a : Option Addr} {S off n : Nat} {x : Nat → It} (h : IOw B w a S off n x) {j : Nat} (hj : j < n) : BOwn w (x j).ad (x j).blk (x j).off (x j).len (x j).f := ⟨h.body j hj, h.free j hj⟩

theorem IOw.of_all {B : Nat} {w w' : World} {a : Option Addr} {S off n : Nat} {x : Nat → It} (h : IOw B w a S off n x) (e : Ext w w') : IOw B w' a S off n x :=
  ⟨h.toISeg.of_all e, fun o h1 h2 => (World.frozen?_of_block (a := ⟨S, o, none⟩) (Below.block e S (h.toISeg.lt (by omega)))).trans (h.fz o h1 h2), fun j hj => (BOwn.of_all (h.own hj) e).free, h.away, h.apart, h.rowB⟩

/-- The row turned, the bodies stay. -/
theorem IOw.row {B : Nat} {w w' : World} {a : Option Addr} {S off n : Nat} {x y : Nat → It} (h : IOw B w a S off n x) (t : Touch S w w')
    (hy : ∀ i, i < n → (y i).ad = (x i).ad ∧ (y i).blk = (x i).blk ∧ (y i).off = (x i).off ∧ (y i).len = (x i).len ∧ (y i).cap = (x i).cap ∧ (y i).f = (x i).f)
    (d0 : ∀ i, i < n → w'.cell? ⟨S, off + i * 3, none⟩ = some (.int .i64 (y i).tag))
    (d1 : ∀ i, i < n → w'.cell? ⟨S, off + i * 3 + 1, none⟩ = some (.slice (x i).ad (x i).len (x i).cap))
    (d2 : ∀ i, i < n → w'.cell? ⟨S, off + i * 3 + 2, none⟩ = some (.int .i64 (y i).kid))
    (fz : ∀ o, off ≤ o → o < off + n * 3 → w'.frozen? ⟨S, o, none⟩ = false) : IOw B w' a S off n y := by
  refine ⟨⟨h.at', d0, fun i hi => ?_, d2, fun i hi => ?_, fun i hi => ?_⟩, fz, fun i hi => ?_, fun i hi => ?_, fun i j hi hj hij => ?_, h.rowB⟩
  · obtain ⟨e1, e2, e3, e4, e5, e6⟩ := hy i hi; rw [e1, e4, e5]; exact d1 i hi
  · obtain ⟨e1, e2, e3, e4, e5, e6⟩ := hy i hi; rw [e1, e2, e3, e4, e6]; exact ((h.own hi).touch t (fun h0 => (h.away i hi h0).1)).toBSeg
  · obtain ⟨e1, e2, e3, e4, e5, e6⟩ := hy i hi; rw [e4]; exact h.small i hi
  · obtain ⟨e1, e2, e3, e4, e5, e6⟩ := hy i hi; rw [e2, e3, e4]; exact ((h.own hi).touch t (fun h0 => (h.away i hi h0).1)).free
  · obtain ⟨e1, e2, e3, e4, e5, e6⟩ := hy i hi; rw [e2, e4]; exact h.away i hi
  · obtain ⟨-, e2, -, e4, -, -⟩ := hy i hi
    obtain ⟨-, f2, -, f4, -, -⟩ := hy j hj
    rw [e2, e4, f2, f4]; exact h.apart i j hi hj hij

def updI (x : Nat → It) (j : Nat) (t : It) : Nat → It := fun i => if i = j then t else x i

theorem updI_same (x : Nat → It) (j : Nat) (t : It) : updI x j t j = t := if_pos rfl

theorem updI_other (x : Nat → It) {i j : Nat} (t : It) (h : i ≠ j) : updI x j t i = x i := if_neg h

theorem IOw.tag {B : Nat} {w : World} {a : Option Addr} {S off n : Nat} {x : Nat → It} (h : IOw B w a S off n x) {j : Nat} (hj : j < n) (t : Int) :
    IOw B (w.setCell ⟨S, off + j * 3, none⟩ (.int .i64 t)) a S off n (updI x j { x j with tag := t }) := by
  refine h.row ((Touch.refl S w).set _ _) (fun i hi => ?_) (fun i hi => ?_) (fun i hi => ?_) (fun i hi => ?_) (fun o h1 h2 => by rw [World.frozen?_setCell]; exact h.fz o h1 h2)
  · by_cases e : i = j
    · subst e; rw [updI_same]; exact ⟨rfl, rfl, rfl, rfl, rfl, rfl⟩
    · rw [updI_other _ _ e]; exact ⟨rfl, rfl, rfl, rfl, rfl, rfl⟩
  · by_cases e : i = j
    · subst e; rw [updI_same]; exact World.cell?_setCell_same _ _ _ (h.c0 i hi)
    · rw [updI_other _ _ e, cell_off _ (by omega)]; exact h.c0 i hi
  · rw [cell_off _ (by omega)]; exact h.c1 i hi
  · rw [cell_off _ (by omega)]
    by_cases e : i = j
    · subst e; rw [updI_same]; exact h.c2 i hi
    · rw [updI_other _ _ e]; exact h.c2 i hi

theorem IOw.kid {B : Nat} {w : World} {a : Option Addr} {S off n : Nat} {x : Nat → It} (h : IOw B w a S off n x) {j : Nat} (hj : j < n) (t : Int) :
    IOw B (w.setCell ⟨S, off + j * 3 + 2, none⟩ (.int .i64 t)) a S off n (updI x j { x j with kid := t }) := by
  refine h.row ((Touch.refl S w).set _ _) (fun i hi => ?_) (fun i hi => ?_) (fun i hi => ?_) (fun i hi => ?_) (fun o h1 h2 => by rw [World.frozen?_setCell]; exact h.fz o h1 h2)
  · by_cases e : i = j
    · subst e; rw [updI_same]; exact ⟨rfl, rfl, rfl, rfl, rfl, rfl⟩
    · rw [updI_other _ _ e]; exact ⟨rfl, rfl, rfl, rfl, rfl, rfl⟩
  · rw [cell_off _ (by omega)]
    by_cases e : i = j
    · subst e; rw [updI_same]; exact h.c0 i hi
    · rw [updI_other _ _ e]; exact h.c0 i hi
  · rw [cell_off _ (by omega)]; exact h.c1 i hi
  · by_cases e : i = j
    · subst e; rw [updI_same]; exact World.cell?_setCell_same _ _ _ (h.c2 i hi)
    · rw [updI_other _ _ e, cell_off _ (by omega)]; exact h.c2 i hi
end

section
set_option linter.unusedVariables false
set_option linter.unusedSimpArgs false

open Go.RowKit

def itW (t : It) : List Value := [.int .i64 t.tag, .slice t.ad t.len t.cap, .int .i64 t.kid]

def itsW (y : Nat → It) : Nat → List Value
  | 0 => []
  | m + 1 => itsW y m ++ itW (y m)

theorem itW_len (t : It) : (itW t).length = 3 := rfl

theorem itsW_len (y : Nat → It) : ∀ m, (itsW y m).length = m * 3
  | 0 => rfl
  | m + 1 => by rw [itsW, List.length_append, itsW_len y m, itW_len]; omega

theorem itsW_at (y : Nat → It) : ∀ m i r, i < m → r < 3 → (itsW y m)[i * 3 + r]? = (itW (y i))[r]?
  | 0, i, r, h, _ => absurd h (Nat.not_lt_zero _)
  | m + 1, i, r, h, hr => by
    rw [itsW]
    by_cases c : i < m
    · rw [List.getElem?_append_left (by rw [itsW_len]; omega)]
      exact itsW_at y m i r c hr
    · obtain rfl : i = m := by omega
      rw [List.getElem?_append_right (by rw [itsW_len]; omega), itsW_len]
      congr 1
      omega

theorem itsW_congr {y z : Nat → It} : ∀ {m : Nat}, (∀ i, i < m → y i = z i) → itsW y m = itsW z m
  | 0, _ => rfl
  | m + 1, h => by rw [itsW, itsW, itsW_congr (fun i hi => h i (by omega)), h m (by omega)]

theorem itW_one (t : It) : ∀ u ∈ itW t, u.oneCell' = true := by
  intro u hu
  simp only [itW, List.mem_cons, List.not_mem_nil, or_false] at hu
  rcases hu with rfl | rfl | rfl <;> rfl

theorem ownsRow_ext {W W' : World} {B e s n : Nat} {v : Value} {xs : List Value} (h : W.ownsRow B e s v n xs) (x : Ext W W') : W'.ownsRow B e s v n xs := by
  refine ⟨h.1, ?_⟩
  rcases h.2 with h0 | ⟨g, cap, cur, rfl, hb, hg, rest⟩
  · exact .inl h0
  · refine .inr ⟨g, cap, cur, rfl, hb, ?_, rest⟩
    have hl : g < W.heap.size := by
      by_cases c : g < W.heap.size
      · exact c
      · rw [Array.getElem?_eq_none (by omega)] at hg; exact absurd hg (by simp)
    exact (Below.block x g hl).trans hg

/-- m items made so far: v is the list. -/
structure IAcc (B : Nat) (W : World) (v : Value) (m : Nat) (y : Nat → It) : Prop where
  row : W.ownsRow B 55 3 v m (itsW y m)
  body : ∀ i, i < m → BOwn W (y i).ad (y i).blk (y i).off (y i).len (y i).f
  away : ∀ i, i < m → 0 < (y i).len → v.ownBlock ≠ some (y i).blk ∧ B ≤ (y i).blk
  apart : ∀ i j, i < m → j < m → i ≠ j → 0 < (y i).len → 0 < (y j).len → (y i).blk ≠ (y j).blk

theorem IAcc.of_all {B : Nat} {W W' : World} {v : Value} {m : Nat} {y : Nat → It} (h : IAcc B W v m y) (e : Ext W W') : IAcc B W' v m y :=
  ⟨ownsRow_ext h.row e, fun i hi => BOwn.of_all (h.body i hi) e, h.away, h.apart⟩

theorem IAcc.congr {B : Nat} {W : World} {v : Value} {m : Nat} {y z : Nat → It} (h : IAcc B W v m y) (e : ∀ i, i < m → y i = z i) : IAcc B W v m z :=
  ⟨by rw [← itsW_congr e]; exact h.row, fun i hi => by rw [← e i hi]; exact h.body i hi, fun i hi => by rw [← e i hi]; exact h.away i hi, fun i j hi hj => by rw [← e i hi, ← e j hj]; exact h.apart i j hi hj⟩

theorem IAcc.iow {B : Nat} {W : World} {v : Value} {m : Nat} {y : Nat → It} (h : IAcc B W v m y) (hs : ∀ i, i < m → (y i).len ≤ 9223372036854775807) : ∃ a S cap, v = .slice a m cap ∧ IOw B W a S 0 m y := by
  have hr := h.row
  rcases h.row.2 with ⟨rfl, rfl⟩ | ⟨g, cap, cur, rfl, hb, hg, hn, hm, hz, ht⟩
  · exact ⟨none, B, 0, rfl, ⟨⟨fun h => absurd h (by omega), fun i hi => absurd hi (by omega), fun i hi => absurd hi (by omega), fun i hi => absurd hi (by omega), fun i hi => absurd hi (by omega), fun i hi => absurd hi (by omega)⟩, fun o h1 h2 => absurd h2 (by omega), fun i hi => absurd hi (by omega), fun i hi => absurd hi (by omega), fun i j hi => absurd hi (by omega), fun _ => Nat.le_refl _⟩⟩
  · have hc : ∀ i r, i < m → r < 3 → W.cell? ⟨g, 0 + i * 3 + r, none⟩ = (itW (y i))[r]? := fun i r hi hr3 => by
      rw [World.ownsRow.cellAt hr (0 + i * 3 + r) (by omega), ← itsW_at y m i r hi hr3]
      congr 1
      omega
    exact ⟨_, g, cap, rfl, ⟨⟨fun _ => rfl, fun i hi => hc i 0 hi (by omega), fun i hi => hc i 1 hi (by omega), fun i hi => hc i 2 hi (by omega), fun i hi => (h.body i hi).toBSeg, hs⟩, fun o _ _ => World.ownsRow.frozenAt hr o, fun i hi => (h.body i hi).free, fun i hi h0 => ⟨fun e => (h.away i hi h0).1 (by rw [e]; rfl), (h.away i hi h0).2⟩, h.apart, fun _ => hb⟩⟩

/-- One item more: its body is new, and apart. -/
theorem IAcc.step {B : Nat} {W W2 w1 : World} {v v' : Value} {m : Nat} {y : Nat → It} {t : It} (h : IAcc B W v m y) (e : Ext W W2)
    (hb : BOwn W2 t.ad t.blk t.off t.len t.f) (hB : 0 < t.len → B ≤ t.blk) (hv : 0 < t.len → v.ownBlock ≠ some t.blk) (ha : ∀ i, i < m → 0 < (y i).len → 0 < t.len → (y i).blk ≠ t.blk)
    (hown : w1.ownsRow B 55 3 v' (m + 1) (itsW y m ++ itW t)) (hg : W2.grownBy w1 v.ownBlock) (hat : v'.ownBlock = v.ownBlock ∨ v'.ownBlock = some W2.heap.size) :
    IAcc B w1 v' (m + 1) (updI y m t) := by
  have hk : ∀ {a : Option Addr} {b o n : Nat} {f : Nat → Int}, BOwn W2 a b o n f → (0 < n → v.ownBlock ≠ some b) → BOwn w1 a b o n f ∧ (0 < n → v'.ownBlock ≠ some b) := fun {a b o n f} hO hne => by
    refine ⟨?_, fun h0 hh => ?_⟩
    · by_cases c : 0 < n
      · have hbl : w1.heap[b]? = W2.heap[b]? := hg.block b (hO.lt c) (fun hh => hne c hh.symm)
        exact ⟨⟨hO.at', fun i hi => (World.cell?_of_block (a := ⟨b, o + i, none⟩) hbl).trans (hO.cell i hi)⟩, fun i hi => (World.frozen?_of_block (a := ⟨b, o + i, none⟩) hbl).trans (hO.free i hi)⟩
      · rw [show n = 0 by omega]; exact BOwn.nil _ _ _ _ _
    · rcases hat with h1 | h1
      · exact hne h0 (by rw [← h1]; exact hh)
      · rw [h1] at hh
        simp only [Option.some.injEq] at hh
        have := hO.lt h0
        omega
  have hy : ∀ i, i < m → updI y m t i = y i := fun i hi => updI_other _ _ (by omega)
  have hO := fun i (hi : i < m) => hk (BOwn.of_all (h.body i hi) e) (fun h0 => (h.away i hi h0).1)
  have hT := hk hb hv
  refine ⟨?_, fun i hi => ?_, fun i hi => ?_, fun i j hi hj hij => ?_⟩
  · rw [itsW, updI_same, itsW_congr hy]; exact hown
  · by_cases c : i = m
    · subst c; rw [updI_same]; exact hT.1
    · rw [updI_other _ _ c]; exact (hO i (by omega)).1
  · by_cases c : i = m
    · subst c; rw [updI_same]; exact fun h0 => ⟨hT.2 h0, hB h0⟩
    · rw [updI_other _ _ c]; exact fun h0 => ⟨(hO i (by omega)).2 h0, (h.away i (by omega) h0).2⟩
  · by_cases c : i = m
    · have c2 : j ≠ m := fun e2 => hij (c.trans e2.symm)
      rw [updI_other _ _ c2, c, updI_same]
      exact fun h1 h2 hh => ha j (by omega) h2 h1 hh.symm
    · rw [updI_other _ _ c]
      by_cases c2 : j = m
      · rw [c2, updI_same]; exact fun h1 h2 => ha i (by omega) h1 h2
      · rw [updI_other _ _ c2]; exact h.apart i j (by omega) (by omega) hij
end

section
set_option linter.unusedVariables false
set_option linter.unusedSimpArgs false

open Go.RowKit

/-- What an item tells. -/
structure Ic where
  tag : Int
  kid : Int
  bd : List Int

/-- What it tells. -/
def ct (t : It) : Ic := ⟨t.tag, t.kid, (List.range t.len).map t.f⟩

/-- Its bytes behind the last are 0: then all of it is told by ct. -/
def Nf (t : It) : Prop := t.f = fun i => ((List.range t.len).map t.f).getD i 0

theorem getD_map {n : Nat} {f : Nat → Int} {i : Nat} (h : i < n) : ((List.range n).map f).getD i 0 = f i := by simp [h]

def nfF (n : Nat) (f : Nat → Int) : Nat → Int := fun i => ((List.range n).map f).getD i 0

theorem nfF_map (n : Nat) (f : Nat → Int) : (List.range n).map (nfF n f) = (List.range n).map f := by
  apply List.map_congr_left
  intro i hi
  exact getD_map (List.mem_range.1 hi)

def rowL (L : List It) : List Value := L.flatMap itW

theorem rowL_cons (t : It) (L : List It) : rowL (t :: L) = itW t ++ rowL L := by simp [rowL]

theorem rowL_append (L M : List It) : rowL (L ++ M) = rowL L ++ rowL M := by simp [rowL]

theorem rowL_len : ∀ L : List It, (rowL L).length = L.length * 3
  | [] => rfl
  | t :: L => by rw [rowL_cons, List.length_append, itW_len, rowL_len L, List.length_cons]; omega

theorem rowL_one (L : List It) : ∀ u ∈ rowL L, u.oneCell' = true := by
  intro u hu
  unfold rowL at hu
  rw [List.mem_flatMap] at hu
  obtain ⟨t, -, h⟩ := hu
  exact itW_one t u h

def dI : It := ⟨0, 0, none, 0, 0, 0, 0, fun _ => 0⟩

theorem itsW_rowL : ∀ L : List It, itsW (fun i => L.getD i dI) L.length = rowL L := by
  intro L
  have key : ∀ (n : Nat), n ≤ L.length → itsW (fun i => L.getD i dI) n = rowL (L.take n) := by
    intro n
    induction n with
    | zero => intro _; rfl
    | succ n ih =>
      intro h
      rw [itsW, ih (by omega), List.take_add_one, rowL_append]
      congr 1
      have : L[n]? = some (L.getD n dI) := by rw [List.getD_eq_getElem?_getD, List.getElem?_eq_getElem (by omega)]; rfl
      rw [this]
      simp [rowL]
  rw [key L.length (Nat.le_refl _), List.take_length]

/-- Bodies of one's own, apart from one another, at B or behind. -/
structure Bods (B : Nat) (W : World) (L : List It) : Prop where
  own : ∀ t ∈ L, BOwn W t.ad t.blk t.off t.len t.f
  up : ∀ t ∈ L, 0 < t.len → B ≤ t.blk
  nf : ∀ t ∈ L, Nf t
  apart : L.Pairwise (fun s t => 0 < s.len → 0 < t.len → s.blk ≠ t.blk)

theorem Bods.nil (B : Nat) (W : World) : Bods B W [] := ⟨fun _ h => by simp at h, fun _ h => by simp at h, fun _ h => by simp at h, List.Pairwise.nil⟩

theorem Bods.ext {B : Nat} {W W' : World} {L : List It} (h : Bods B W L) (e : Ext W W') : Bods B W' L := ⟨fun t ht => (h.own t ht).of_all e, h.up, h.nf, h.apart⟩

theorem Bods.low {B B' : Nat} {W : World} {L : List It} (h : Bods B W L) (e : B' ≤ B) : Bods B' W L := ⟨h.own, fun t ht h0 => Nat.le_trans e (h.up t ht h0), h.nf, h.apart⟩

theorem Bods.of_blk {B : Nat} {W W' : World} {L : List It} (h : Bods B W L) (e : ∀ t ∈ L, 0 < t.len → W'.heap[t.blk]? = W.heap[t.blk]?) : Bods B W' L :=
  ⟨fun t ht => ⟨⟨(h.own t ht).at', fun i hi => (World.cell?_of_block (a := ⟨t.blk, t.off + i, none⟩) (e t ht (by omega))).trans ((h.own t ht).cell i hi)⟩, fun i hi => (World.frozen?_of_block (a := ⟨t.blk, t.off + i, none⟩) (e t ht (by omega))).trans ((h.own t ht).free i hi)⟩, h.up, h.nf, h.apart⟩

theorem Bods.lt {B : Nat} {W : World} {L : List It} (h : Bods B W L) {t : It} (ht : t ∈ L) (h0 : 0 < t.len) : t.blk < W.heap.size := (h.own t ht).toBSeg.lt h0

theorem Bods.append {B B1 B2 : Nat} {W W2 : World} {L M : List It} (h : Bods B1 W L) (e : Ext W W2) (k : Bods B2 W2 M) (h1 : B ≤ B1) (h2 : B ≤ B2) (hs : W.heap.size ≤ B2) : Bods B W2 (L ++ M) := by
  refine ⟨fun t ht => ?_, fun t ht => ?_, fun t ht => ?_, ?_⟩
  · rcases List.mem_append.1 ht with ht | ht
    · exact (h.own t ht).of_all e
    · exact k.own t ht
  · rcases List.mem_append.1 ht with ht | ht
    · exact fun h0 => Nat.le_trans h1 (h.up t ht h0)
    · exact fun h0 => Nat.le_trans h2 (k.up t ht h0)
  · rcases List.mem_append.1 ht with ht | ht
    · exact h.nf t ht
    · exact k.nf t ht
  · rw [List.pairwise_append]
    refine ⟨h.apart, k.apart, fun s hs1 t ht h0 h3 => ?_⟩
    have a := h.lt hs1 h0
    have b := k.up t ht h3
    omega

/-- One that has no body. -/
def bare (tag kid : Int) : It := ⟨tag, kid, none, 0, 0, 0, 0, fun i => ([] : List Int).getD i 0⟩

theorem Bods.bare {B : Nat} {W : World} {L : List It} (h : Bods B W L) (tag kid : Int) : Bods B W (Proofs.YtmcdikbcmikihaaDoor.bare tag kid :: L) := by
  refine ⟨fun t ht => ?_, fun t ht => ?_, fun t ht => ?_, ?_⟩
  · rcases List.mem_cons.1 ht with rfl | ht
    · exact BOwn.nil _ _ _ _ _
    · exact h.own t ht
  · rcases List.mem_cons.1 ht with rfl | ht
    · exact fun h0 => absurd h0 (Nat.lt_irrefl _)
    · exact h.up t ht
  · rcases List.mem_cons.1 ht with rfl | ht
    · rfl
    · exact h.nf t ht
  · exact List.pairwise_cons.2 ⟨fun t _ h0 => absurd h0 (Nat.lt_irrefl _), h.apart⟩

/-- One body. -/
theorem Bods.one {B : Nat} {W : World} {a : Option Addr} {g off n cap : Nat} {f : Nat → Int} (tag : Int) (h : BOwn W a g off n f) (hg : B ≤ g) : Bods B W [⟨tag, 0, a, g, off, n, cap, nfF n f⟩] :=
  ⟨fun t ht => by rw [List.mem_singleton] at ht; subst ht; exact h.congr (fun i hi => (getD_map hi).symm), fun t ht _ => by rw [List.mem_singleton] at ht; subst ht; exact hg, fun t ht => by
    rw [List.mem_singleton] at ht
    subst ht
    show nfF n f = fun i => ((List.range n).map (nfF n f)).getD i 0
    rw [nfF_map]
    rfl, List.pairwise_singleton _ _⟩

theorem ct_one (tag : Int) (a : Option Addr) (g off n cap : Nat) (f : Nat → Int) : ct ⟨tag, 0, a, g, off, n, cap, nfF n f⟩ = ⟨tag, 0, (List.range n).map f⟩ := by
  show Ic.mk tag 0 _ = _
  rw [nfF_map]

/-- A list of items: the row is one's own, and so are the bodies. -/
structure LAcc (B : Nat) (W : World) (v : Value) (L : List It) : Prop where
  row : W.ownsRow B 55 3 v L.length (rowL L)
  bods : Bods B W L
  away : ∀ t ∈ L, 0 < t.len → v.ownBlock ≠ some t.blk

theorem LAcc.ext {B : Nat} {W W' : World} {v : Value} {L : List It} (h : LAcc B W v L) (e : Ext W W') : LAcc B W' v L := ⟨ownsRow_ext h.row e, h.bods.ext e, h.away⟩

theorem ownsRow_low {W : World} {B B' e s n : Nat} {v : Value} {xs : List Value} (h : W.ownsRow B e s v n xs) (hB : B' ≤ B) : W.ownsRow B' e s v n xs := by
  refine ⟨h.1, ?_⟩
  rcases h.2 with h0 | ⟨g, cap, cur, rfl, hb, rest⟩
  · exact .inl h0
  · exact .inr ⟨g, cap, cur, rfl, Nat.le_trans hB hb, rest⟩

theorem LAcc.low {B B' : Nat} {W : World} {v : Value} {L : List It} (h : LAcc B W v L) (e : B' ≤ B) : LAcc B' W v L := ⟨ownsRow_low h.row e, h.bods.low e, h.away⟩

theorem ownsRow_slc {W : World} {B e s m : Nat} {v : Value} {xs : List Value} (h : W.ownsRow B e s v m xs) : ∃ a cap, v = .slice a m cap := by
  rcases h.2 with ⟨rfl, rfl⟩ | ⟨g, cap, cur, rfl, _⟩
  · exact ⟨_, _, rfl⟩
  · exact ⟨_, _, rfl⟩

theorem Tryd.infoItm : (Tryd.prog.info? 55).map (fun i => (i.zero, i.size, i.bytes)) = some (some (.agg #[.int .i64 0, .slice none 0 0, .int .i64 0]), 3, 40) := by kernel_rfl

/-- The row of another list is read. -/
theorem row_cells {W : World} {B g n cap : Nat} {L : List It} (h : W.ownsRow B 55 3 (.slice (some ⟨g, 0, none⟩) n cap) n (rowL L)) : ∀ j u, (rowL L)[j]? = some u → W.cell? ((⟨g, 0, none⟩ : Addr).add j) = some u := by
  intro j u hj
  have hl : j < n * 3 := by
    have := (List.getElem?_eq_some_iff.1 hj).1
    rw [h.1] at this
    exact this
  have := World.ownsRow.cellAt h j hl
  rw [hj] at this
  have ha : (⟨g, 0, none⟩ : Addr).add j = ⟨g, j, none⟩ := by
    by_cases h0 : j = 0
    · subst h0; simp [Addr.add]
    · simp [Addr.add, h0]
  rw [ha]
  simpa using this

/-- What is made later lies apart. -/
theorem LAcc.later {B : Nat} {W W2 : World} {v : Value} {L M : List It} (hA : LAcc B W v L) (e : Ext W W2) (hb : Bods W.heap.size W2 M) (hB : B ≤ W.heap.size) : Bods B W2 (L ++ M) ∧ ∀ t ∈ M, 0 < t.len → v.ownBlock ≠ some t.blk :=
  ⟨hA.bods.append e hb (Nat.le_refl _) hB (Nat.le_refl _), fun t ht h0 hh => by
    have := (hA.row.lt _ hh).2
    have := hb.up t ht h0
    omega⟩

/-- The walk stands at an append. -/
theorem stop_app {P : Program} {ops : Array Oper} {rest : List Oper} {o : Oper} {a0 : Act} {Q : Exit → Act → World → Prop} {W : World} {s x : Operand} {ts : Array TypeId}
    (ho : o.op = .call { callee := .builtin .append, args := #[s, x], argTypes := ts }) (h : Hid (wpList P ops Q (o :: rest) a0 W)) : wpList P ops Q (o :: rest) a0 W := h.out

/-- A row of one item that is built. -/
theorem ownsRow_it (w : World) (t : It) : (w.alloc (.cells #[.int .i64 t.tag, .slice t.ad t.len t.cap, .int .i64 t.kid] 55)).ownsRow w.heap.size 55 3 (.slice (some ⟨w.heap.size, 0, none⟩) 1 1) [t].length (rowL [t]) :=
  ⟨rfl, .inr ⟨w.heap.size, 1, #[.int .i64 t.tag, .slice t.ad t.len t.cap, .int .i64 t.kid], rfl, Nat.le_refl _, heap_alloc_new w _, Nat.le_refl _, by decide, by simp, by simp [rowL, itW]⟩⟩

theorem LAcc.it (w : World) (t : It) (B : Nat) (h : Bods B w [t]) (hB : B ≤ w.heap.size) : LAcc B (w.alloc (.cells #[.int .i64 t.tag, .slice t.ad t.len t.cap, .int .i64 t.kid] 55)) (.slice (some ⟨w.heap.size, 0, none⟩) 1 1) [t] :=
  ⟨ownsRow_low (ownsRow_it w t) hB, h.ext (Ext.alloc _ _), fun s hs h0 hh => by
    have := h.lt hs h0
    simp only [Value.ownBlock, Option.some.injEq] at hh
    omega⟩

theorem LAcc.nil (w : World) (B : Nat) (hB : B ≤ w.heap.size) : LAcc B (w.alloc (.cells #[] 55)) (.slice (some ⟨w.heap.size, 0, none⟩) 0 0) [] :=
  ⟨ownsRow_low (World.ownsRow_made (base := w.heap.size) (e := 55) (size := 3) w #[] 0 (Nat.le_refl _) (by simp) rfl) hB, Bods.nil _ _, fun _ h => by simp at h⟩
end

section
set_option linter.unusedVariables false
set_option linter.unusedSimpArgs false

open Go.RowKit

theorem rowL_at (A C : List It) (t : It) : rowL (A ++ t :: C) = rowL A ++ (itW t ++ rowL C) := by rw [rowL_append, rowL_cons]

theorem set_app (A X C : List Value) (n j : Nat) (h : A.length = n) (hj : j < X.length) (u : Value) : (A ++ (X ++ C)).set (n + j) u = A ++ (X.set j u ++ C) := by
  subst h
  rw [List.set_append_right _ _ (by omega), Nat.add_sub_cancel_left, List.set_append_left _ _ hj]

theorem slc_at {W : World} {B e s n : Nat} {v : Value} {xs : List Value} (h : W.ownsRow B e s v n xs) (hn : 0 < n) : ∃ g cap, v = .slice (some ⟨g, 0, none⟩) n cap ∧ B ≤ g ∧ g < W.heap.size := by
  rcases h.2 with ⟨_, h0⟩ | ⟨g, cap, cur, h0, hb, hg, _⟩
  · omega
  · exact ⟨g, cap, h0, hb, (Array.getElem?_eq_some_iff.1 hg).1⟩

/-- One item is another one, its body one's own. -/
theorem LAcc.swap {B : Nat} {W W' : World} {g n cap : Nat} {A C : List It} {t t' : It} (h : LAcc B W (.slice (some ⟨g, 0, none⟩) n cap) (A ++ t :: C))
    (hrow : W'.ownsRow B 55 3 (.slice (some ⟨g, 0, none⟩) n cap) (A ++ t' :: C).length (rowL (A ++ t' :: C)))
    (hk : ∀ k, k < W.heap.size → k ≠ g → W'.heap[k]? = W.heap[k]?)
    (h1 : BOwn W' t'.ad t'.blk t'.off t'.len t'.f) (h2 : 0 < t'.len → B ≤ t'.blk ∧ t'.blk ≠ g) (h3 : Nf t') (h4 : 0 < t'.len → ∀ s ∈ A ++ C, 0 < s.len → s.blk ≠ t'.blk) : LAcc B W' (.slice (some ⟨g, 0, none⟩) n cap) (A ++ t' :: C) := by
  have mem : ∀ s ∈ A ++ C, s ∈ A ++ t :: C := fun s hs => by
    rcases List.mem_append.1 hs with hs | hs
    · exact List.mem_append.2 (.inl hs)
    · exact List.mem_append.2 (.inr (List.mem_cons.2 (.inr hs)))
  have cas : ∀ s ∈ A ++ t' :: C, s = t' ∨ s ∈ A ++ C := fun s hs => by
    rcases List.mem_append.1 hs with hs | hs
    · exact .inr (List.mem_append.2 (.inl hs))
    · rcases List.mem_cons.1 hs with rfl | hs
      · exact .inl rfl
      · exact .inr (List.mem_append.2 (.inr hs))
  refine ⟨hrow, ⟨fun s hs => ?_, fun s hs h0 => ?_, fun s hs => ?_, ?_⟩, fun s hs h0 => ?_⟩
  · rcases cas s hs with rfl | hs
    · exact h1
    · have ho := h.bods.own s (mem s hs)
      have e : 0 < s.len → W'.heap[s.blk]? = W.heap[s.blk]? := fun h0 => hk _ (ho.toBSeg.lt h0) (fun e => h.away s (mem s hs) h0 (by simp [Value.ownBlock, e]))
      exact ⟨⟨ho.at', fun i hi => (World.cell?_of_block (a := ⟨s.blk, s.off + i, none⟩) (e (by omega))).trans (ho.cell i hi)⟩, fun i hi => (World.frozen?_of_block (a := ⟨s.blk, s.off + i, none⟩) (e (by omega))).trans (ho.free i hi)⟩
  · rcases cas s hs with rfl | hs
    · exact (h2 h0).1
    · exact h.bods.up s (mem s hs) h0
  · rcases cas s hs with rfl | hs
    · exact h3
    · exact h.bods.nf s (mem s hs)
  · have hp := h.bods.apart
    rw [List.pairwise_append, List.pairwise_cons] at hp ⊢
    refine ⟨hp.1, ⟨fun s hs k1 k2 => ?_, hp.2.1.2⟩, fun s hs u hu k1 k2 => ?_⟩
    · exact (h4 k1 s (List.mem_append.2 (.inr hs)) k2).symm
    · rcases List.mem_cons.1 hu with rfl | hu
      · exact h4 k2 s (List.mem_append.2 (.inl hs)) k1
      · exact hp.2.2 s hs u (List.mem_cons.2 (.inr hu)) k1 k2
  · rcases cas s hs with rfl | hs
    · have := (h2 h0).2
      simp [Value.ownBlock]
      exact fun e => this e.symm
    · exact h.away s (mem s hs) h0

theorem LAcc.len_n {B : Nat} {W : World} {a : Option Addr} {n cap : Nat} {L : List It} (h : LAcc B W (.slice a n cap) L) : n = L.length := by
  rcases h.row.2 with ⟨h0, h1⟩ | ⟨g, c, cur, h0, _⟩
  · simp only [Value.slice.injEq] at h0; omega
  · simp only [Value.slice.injEq] at h0; exact h0.2.1

/-- Its kids are set. -/
theorem LAcc.setKid {B : Nat} {W : World} {g n cap : Nat} {A C : List It} {t : It} (h : LAcc B W (.slice (some ⟨g, 0, none⟩) n cap) (A ++ t :: C)) (k : Int) :
    LAcc B (W.setCell ⟨g, 3 * A.length + 2, none⟩ (.int .i64 k)) (.slice (some ⟨g, 0, none⟩) n cap) (A ++ ⟨t.tag, k, t.ad, t.blk, t.off, t.len, t.cap, t.f⟩ :: C) := by
  have hn := h.len_n
  have hr := h.row
  rw [← hn] at hr
  have hst := (World.ownsRow.stored hr (3 * A.length + 2) (.int .i64 k)).1
  rw [rowL_at, set_app (rowL A) (itW t) (rowL C) (3 * A.length) 2 (by rw [rowL_len]; omega) (by simp [itW])] at hst
  have ht : t ∈ A ++ t :: C := List.mem_append.2 (.inr (List.mem_cons.2 (.inl rfl)))
  have ho := h.bods.own t ht
  have hs : ∀ b, b ≠ g → (W.setCell ⟨g, 3 * A.length + 2, none⟩ (.int .i64 k)).heap[b]? = W.heap[b]? := fun b hb => Below.heap_setCell _ _ _ _ (by show b ≠ g; exact hb)
  refine h.swap (t' := ⟨t.tag, k, t.ad, t.blk, t.off, t.len, t.cap, t.f⟩) (by
    have hl : (A ++ ⟨t.tag, k, t.ad, t.blk, t.off, t.len, t.cap, t.f⟩ :: C).length = n := by rw [hn]; simp
    rw [hl, rowL_at]
    exact hst) (fun b _ hb => hs b hb) ?_ (fun h0 => ⟨h.bods.up t ht h0, fun e => h.away t ht h0 (by simp [Value.ownBlock, ← e])⟩) (h.bods.nf t ht) (fun h0 s hs2 k1 => ?_)
  · have e : 0 < t.len → (W.setCell ⟨g, 3 * A.length + 2, none⟩ (.int .i64 k)).heap[t.blk]? = W.heap[t.blk]? := fun h0 => hs _ (fun e => h.away t ht h0 (by simp [Value.ownBlock, ← e]))
    exact ⟨⟨ho.at', fun i hi => (World.cell?_of_block (a := ⟨t.blk, t.off + i, none⟩) (e (by have : i < t.len := hi; omega))).trans (ho.cell i hi)⟩, fun i hi => (World.frozen?_of_block (a := ⟨t.blk, t.off + i, none⟩) (e (by have : i < t.len := hi; omega))).trans (ho.free i hi)⟩
  · have hp := h.bods.apart
    rw [List.pairwise_append, List.pairwise_cons] at hp
    rcases List.mem_append.1 hs2 with hs2 | hs2
    · exact hp.2.2 s hs2 t (List.mem_cons.2 (.inl rfl)) k1 h0
    · exact (hp.2.1.1 s hs2 h0 k1).symm

/-- What lies in its blocks stays, so does the list. -/
theorem ownsRow_of_blk {W W' : World} {B e s n : Nat} {v : Value} {xs : List Value} (h : W.ownsRow B e s v n xs) (hk : ∀ g, v.ownBlock = some g → W'.heap[g]? = W.heap[g]?) : W'.ownsRow B e s v n xs := by
  refine ⟨h.1, ?_⟩
  rcases h.2 with h0 | ⟨g, cap, cur, rfl, hb, hg, rest⟩
  · exact .inl h0
  · exact .inr ⟨g, cap, cur, rfl, hb, by rw [hk g rfl]; exact hg, rest⟩

theorem LAcc.of_blk {B : Nat} {W W' : World} {v : Value} {L : List It} (h : LAcc B W v L) (h1 : ∀ g, v.ownBlock = some g → W'.heap[g]? = W.heap[g]?) (h2 : ∀ t ∈ L, 0 < t.len → W'.heap[t.blk]? = W.heap[t.blk]?) : LAcc B W' v L :=
  ⟨ownsRow_of_blk h.row h1, h.bods.of_blk h2, h.away⟩

theorem grow_ext {a b : World} {o : Option Nat} (h : Ext a b) : a.grownBy b o := ⟨h.os, h.tape, h.output, Below.size h, fun q hq _ => Below.block h q hq⟩

/-- An append of a list of items, and what may have turned by it. -/
theorem wp_appG {o : Oper} {a0 : Act} {K : Act → World → Prop} {Q : Exit → Act → World → Prop} {W2 : World} (s x : Operand)
    (ho : o.op = .call { callee := .builtin .append, args := #[s, x], argTypes := #[23, 23] })
    (B B2 : Nat) (W : World) (v v2 : Value) (L M : List It) (hs : a0.eval s = v) (hA : LAcc B W v L) (e : Ext W W2) (hx : a0.eval x = v2) (hM : W2.ownsRow B2 55 3 v2 M.length (rowL M)) (hB2 : Bods B W2 (L ++ M)) (hnM : ∀ t ∈ M, 0 < t.len → v.ownBlock ≠ some t.blk)
    (hm : L.length + M.length ≤ 1048576) (hbase : B ≤ W.heap.size)
    (h : ∀ v' w', LAcc B w' v' (L ++ M) → W2.grownBy w' v.ownBlock → (v'.ownBlock = v.ownBlock ∨ v'.ownBlock = some W2.heap.size) → K (a0.put o.dst v') w') : o.wp Tryd.prog a0 W2 K Q := by
  obtain ⟨i0, hi, hz0, hz1, hz2⟩ := info_parts Tryd.infoItm
  have hWs := Below.size e
  rcases hM.2 with ⟨h0, h1⟩ | ⟨g, cap, cur, h0, -⟩
  · obtain rfl : M = [] := by cases M with | nil => rfl | cons _ _ => simp at h1
    have hr := run_append_nothing (P := Tryd.prog) B 23 o.type 55 i0 3 Tryd.underlying23 hi _ L.length 0 (rowL L) (ownsRow_ext hA.row e)
    unfold Oper.wp execOp
    simp only [ho, resolve, invoke, builtin, Sem.run_bind, Sem.run_pure, Result.andThen_ok, List.map_toArray, List.map_cons, List.map_nil, hs, hx, h0, hr]
    exact h v W2 (by rw [List.append_nil]; exact hA.ext e) ⟨rfl, rfl, rfl, Nat.le_refl _, fun _ _ _ => rfl⟩ (.inl rfl)
  · rw [h0] at hM
    obtain ⟨v', w', hr, h2, h3, h4, h5⟩ := run_append_own_at (P := Tryd.prog) W2 B 23 o.type 55 i0 (.agg #[.int .i64 0, .slice none 0 0, .int .i64 0]) 3 40 Tryd.underlying23 hi hz0 hz1 hz2 rfl (by decide) v L.length (rowL L) (ownsRow_ext hA.row e) ⟨g, 0, none⟩ M.length cap (rowL M) (rowL_len M) (row_cells hM) (rowL_one M) (by unfold maxLen; omega) (by omega) (by omega)
    unfold Oper.wp execOp
    simp only [ho, resolve, invoke, builtin, Sem.run_bind, Sem.run_pure, Result.andThen_ok, List.map_toArray, List.map_cons, List.map_nil, hs, hx, h0, hr]
    have hne : ∀ t ∈ L ++ M, 0 < t.len → v.ownBlock ≠ some t.blk := fun t ht h0 => by
      rcases List.mem_append.1 ht with ht | ht
      · exact hA.away t ht h0
      · exact hnM t ht h0
    refine h v' w' ⟨by rw [List.length_append, rowL_append]; exact h2, hB2.of_blk (fun t ht h0 => h3.block _ (hB2.lt ht h0) (fun hh => hne t ht h0 hh.symm)), fun t ht h0 hh => ?_⟩ h3 h5
    rcases h5 with h5 | h5
    · exact hne t ht h0 (by rw [← h5]; exact hh)
    · rw [h5] at hh
      simp only [Option.some.injEq] at hh
      have := hB2.lt ht h0
      omega

theorem wpList_appG {ops : Array Oper} {rest : List Oper} {o : Oper} {a0 : Act} {Q : Exit → Act → World → Prop} {W2 : World} (hgd : o.guard = none) (s x : Operand)
    (ho : o.op = .call { callee := .builtin .append, args := #[s, x], argTypes := #[23, 23] })
    (B B2 : Nat) (W : World) (v v2 : Value) (L M : List It) (hs : a0.eval s = v) (hA : LAcc B W v L) (e : Ext W W2) (hx : a0.eval x = v2) (hM : W2.ownsRow B2 55 3 v2 M.length (rowL M)) (hB2 : Bods B W2 (L ++ M)) (hnM : ∀ t ∈ M, 0 < t.len → v.ownBlock ≠ some t.blk)
    (hm : L.length + M.length ≤ 1048576) (hbase : B ≤ W.heap.size)
    (h : ∀ v' w', LAcc B w' v' (L ++ M) → W2.grownBy w' v.ownBlock → (v'.ownBlock = v.ownBlock ∨ v'.ownBlock = some W2.heap.size) → wpList Tryd.prog ops Q rest (a0.put o.dst v') w') : wpList Tryd.prog ops Q (o :: rest) a0 W2 :=
  wpList_plain hgd fun K hK => wp_appG s x ho B B2 W v v2 L M hs hA e hx hM hB2 hnM hm hbase fun v' w' h1 h2 h3 => hK _ _ (h v' w' h1 h2 h3)
end

section
set_option linter.unusedVariables false
set_option linter.unusedSimpArgs false

open Go.RowKit

/-- The call hands back some bytes in new memory; of what was there the cursor alone has turned. -/
def GivesData (w : World) (C : Nat) (a : Option Addr) (n cap : Nat) (m : Nat) (e : Ending) (w' : World) : Prop :=
  ∃ v k F, e = .returned v ∧ k ≤ m ∧ w'.ownsRow w.heap.size 5 1 v k (byts F k) ∧ (∀ i, i < k → 0 ≤ F i ∧ F i < 256) ∧ (k = 0 → ∃ q, v = .slice q 0 0) ∧ Cur w' C a n cap ∧ w.grownBy w' (some C)

theorem bseg_one8 (w : World) (x : Int) : BSeg (w.alloc (.cells #[.int .u8 x] 5)) (some ⟨w.heap.size, 0, none⟩) w.heap.size 0 1 (fun _ => x) := ⟨fun _ => rfl, fun i hi => by
    have := Blk.alloc w [.int .u8 x] 5
    have e : i = 0 := by omega
    subst e
    exact (this 0 _ rfl).1⟩

/-- Bytes; where there is none there is no room either. -/
def Rg0 (v : Value) (k : Nat) (F : Nat → Int) : Prop := (∀ i, i < k → 0 ≤ F i ∧ F i < 256) ∧ (k = 0 → ∃ q, v = .slice q 0 0)

set_option maxHeartbeats 1600000 in
set_option maxRecDepth 100000 in
theorem l5DrawData_any (C : Nat) (a : Option Addr) (b off n cap : Nat) (f : Nat → Int) (m : Nat) (w : World) (hC : Cur w C a n cap) (hK : Code w C a b off n f) (hn : n ≤ 1048576) (hm0 : 0 < m) (hm1 : m ≤ 256) (hCw : C < w.heap.size) :
    Calls Tryd.prog 51 #[.pointer (some ⟨C, 0, none⟩), .int .i64 (m : Int)] w fun e w' => GivesData w C a n cap m e w' := by
  have HO0 := hide (World.ownsRow_made (base := w.heap.size) (e := 5) (size := 1) w #[] 0 (Nat.le_refl _) (by simp) rfl)
  have E0 := Ext.alloc w (.cells #[] 5)
  have hC1 := hC.of_block (E0.block C hCw)
  have G0 : w.grownBy (w.alloc (.cells #[] 5)) (some C) := gb_below E0 (Nat.le_refl _)
  have HK1 := hide (hK.grow G0)
  have HC1 := hide hC1
  have HG := hide G0
  have HK := hide hK
  clear hC hK hC1 G0 E0
  go_enter Tryd.func51, Tryd.ntmps51
  go_wp2_with fail
  refine (l1Below_any C a b off n cap f (m : Int) _ HC1.out HK1.out hn (by omega) (by omega)).mono ?_
  rintro e w1 ⟨x, rfl, x0, x1, hC2, T⟩
  have HC2 := hide hC2
  have HG2 := hide (gb_trans HG.out (gb_touch T))
  have HO2 := hide (owns_gb HO0.out (gb_touch T) (by omega))
  clear hC2 T HC1 HK1 HG HO0
  go_wp2
  go_loopw [5, 6] (fun v i wr => ∃ (k : Nat) (F : Nat → Int) (r : Int), i = .int .i64 r ∧ 0 ≤ r ∧ (k : Int) + r ≤ m ∧ wr.ownsRow w.heap.size 5 1 v k (byts F k) ∧ Rg0 v k F ∧ Cur wr C a n cap ∧ w.grownBy wr (some C)) (fun _ i _ => (intOf i).toNat)
  case atStart => exact ⟨0, fun _ => 0, x, rfl, x0, by omega, HO2.out, ⟨fun i hi => absurd hi (Nat.not_lt_zero _), fun _ => ⟨_, rfl⟩⟩, HC2.out, HG2.out⟩
  case round =>
    clear HO2 HC2 HG2
    obtain ⟨k, F, r, rfl, r0, r1, hO, hF, hC, hG⟩ := hrel
    have HO := hide hO
    have HF := hide hF
    have HC := hide hC
    have HG := hide hG
    clear hO hF hC hG
    by_cases hr : 0 < r
    · go_wp2_with fail
      refine (l1Byte_any C a b off n cap f wr HC.out (HK.out.grow HG.out) hn).mono ?_
      rintro e w2 ⟨y, rfl, y0, y1, hC2, T⟩
      replace HC := hide hC2
      replace HO := hide (owns_gb HO.out (gb_touch T) hCw)
      replace HG := hide (gb_trans HG.out (gb_touch T))
      clear hC2 T
      have u0 : y % 256 = y := by omega
      have HX := hide (bseg_one8 w2 y)
      have HO2 := hide (HO.out.alloc (.cells #[.int .u8 y] 5))
      have Hsz := hide HG.out.size
      go_wp2_with (at_builtin; refine wpList_append_bs rfl _ _ rfl w.heap.size _ k (byts F k) rfl HO2.out _ w2.heap.size 0 1 1 (fun _ => y) rfl HX.out (by omega) (by have := Hsz.out; simp; omega) ?_)
      intro v' w3 h2 h3
      rw [byts_append] at h2
      replace HO := hide h2
      have E3 : Below w.heap.size w2 w3 := Below.trans ((Below.refl _ _).alloc Hsz.out _) h3
      replace HC := hide (HC.out.of_block (E3.block C hCw))
      replace HG := hide (gb_later HG.out E3 (Nat.le_refl _))
      replace HF : Hid (Rg0 v' (k + 1) (catF F k (fun _ => y))) := hide ⟨fun i hi => by
        unfold catF
        split
        · exact HF.out.1 i (by assumption)
        · show 0 ≤ y ∧ y < 256; omega, fun h => absurd h (Nat.succ_ne_zero k)⟩
      clear h2 h3 E3 HO2 HX
      go_wp2
      go_roundw
      case rel => exact ⟨k + 1, _, r - 1, rfl, by omega, by omega, HO.out, HF.out, HC.out, HG.out⟩
      case measure => simp [intOf]; omega
    · go_wp2
      go_ret
      exact ⟨_, k, F, rfl, by omega, HO.out, HF.out.1, HF.out.2, HC.out, HG.out⟩
end

end Go.Proofs.YtmcdikbcmikihaaDoor
