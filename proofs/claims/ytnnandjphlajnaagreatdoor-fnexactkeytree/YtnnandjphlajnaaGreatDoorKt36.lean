/- Walks: pieces of the program: what a piece's items are. Pieces: what one is, rows of them, one made of others; lists of numbers as pieces. Walk: the program's NatBytes. Keys: a key that came in, opened (written by mkkey.py). -/
import Derived.Test.YtnnandjphlajnaaGreatDoorKt04
import Derived.Test.YtnnandjphlajnaaGreatDoorKt03
import Derived.Test.YtnnandjphlajnaaGreatDoorKt05
import Derived.Test.YtnnandjphlajnaaGreatDoorRows
import Derived.WalkKit
import Derived.ProofKit
import Derived.OpenShut
import Derived.ChangeOld
import Derived.Below
import Derived.Test.YtnnandjphlajnaaGreatDoorKt33
namespace Go.Proofs.YtnnandjphlajnaaGreatDoor

section
set_option linter.unusedVariables false
set_option linter.unusedSimpArgs false

open Go.RowKit

/-- A new row of these items. -/
def GivesRw (W : World) (L : List It) (r : Ending) (w' : World) : Prop := ∃ u, r = .returned u ∧ w'.ownsRow W.heap.size 88 3 u L.length (rowL L) ∧ Ext W w'

/-- A piece whose items are L. -/
def ItsC (v : Value) (W : World) (L : List It) : Prop :=
  ∃ (tag : Int) (a : Option Addr) (n cap : Nat), (v = .iface 239 (.agg #[.int .i64 tag, .slice a n cap]) ∧ Calls Tryz.prog 443 #[.agg #[.int .i64 tag, .slice a n cap]] W (GivesRw W L)) ∨
    (v = .iface 162 (.agg #[.int .i64 tag, .slice a n cap]) ∧ Calls Tryz.prog 372 #[.agg #[.int .i64 tag, .slice a n cap]] W (GivesRw W L))

theorem item_any (tag kid : Int) (a : Option Addr) (n cap : Nat) (w : World) :
    Calls Tryz.prog 373 #[.agg #[.int .i64 tag], .slice a n cap, .int .i64 kid] w fun e w' => e = .returned (.agg #[.int .i64 tag, .slice a n cap, .int .i64 kid]) ∧ Ext w w' := by
  go_enter Tryz.func373, Tryz.ntmps373
  go_wp2
  refine bodyPost_ret (v := .agg #[.int .i64 tag, .slice a n cap, .int .i64 kid]) (by simp [results, Tryz.results373, go_sem]) rfl ⟨rfl, ?_⟩
  first | exact Ext.trans (Ext.alloc _ _) (Ext.alloc _ _) | exact (((Ext.trans (Ext.alloc _ _) (Ext.alloc _ _)).setCell (by simp) _).setCell (by simp) _).setCell (by simp) _

set_option maxHeartbeats 800000 in
theorem leafItems_any (tag : Int) (a : Option Addr) (g off n cap : Nat) (f : Nat → Int) (w : World) :
    Calls Tryz.prog 443 #[.agg #[.int .i64 tag, .slice a n cap]] w (GivesRw w [⟨tag, 0, a, g, off, n, cap, f⟩]) := by
  go_enter Tryz.func443, Tryz.ntmps443
  go_wp2_with fail
  refine (item_any tag 0 a n cap _).mono ?_
  rintro e w1 ⟨rfl, hE⟩
  have HE := hide (Ext.trans (Ext.alloc _ _) hE)
  clear hE
  go_wp2
  go_ret
  exact ⟨_, rfl, ownsRow_low (ownsRow_it w1 ⟨tag, 0, a, g, off, n, cap, f⟩) (Below.size HE.out), Ext.trans HE.out (Ext.alloc _ _)⟩

/-- Rows of items put behind each other. -/
theorem wpList_appRow {ops : Array Oper} {rest : List Oper} {o : Oper} {a0 : Act} {Q : Exit → Act → World → Prop} {W2 : World} (hgd : o.guard = none) (s x : Operand)
    (ho : o.op = .call { callee := .builtin .append, args := #[s, x], argTypes := #[34, 34] })
    (B B2 : Nat) (v v2 : Value) (L M : List It) (hs : a0.eval s = v) (hA : W2.ownsRow B 88 3 v L.length (rowL L)) (hx : a0.eval x = v2) (hM : W2.ownsRow B2 88 3 v2 M.length (rowL M))
    (hm : L.length + M.length ≤ 1048576) (hbase : B ≤ W2.heap.size)
    (h : ∀ v' w', w'.ownsRow B 88 3 v' (L ++ M).length (rowL (L ++ M)) → Below B W2 w' → wpList Tryz.prog ops Q rest (a0.put o.dst v') w') : wpList Tryz.prog ops Q (o :: rest) a0 W2 := by
  refine wpList_plain hgd fun K hK => ?_
  obtain ⟨i0, hi, hz0, hz1, hz2⟩ := info_parts Tryz.infoItm
  rcases hM.2 with ⟨h0, h1⟩ | ⟨g, cap, cur, h0, -⟩
  · obtain rfl : M = [] := by cases M with | nil => rfl | cons _ _ => simp at h1
    have hr := run_append_nothing (P := Tryz.prog) B 34 o.type 88 i0 3 Tryz.underlying34 hi _ L.length 0 (rowL L) hA
    unfold Oper.wp execOp
    simp only [ho, resolve, invoke, builtin, Sem.run_bind, Sem.run_pure, Result.andThen_ok, List.map_toArray, List.map_cons, List.map_nil, hs, hx, h0, hr]
    exact hK _ _ (h v W2 (by rw [List.append_nil]; exact hA) (Below.refl _ _))
  · rw [h0] at hM
    obtain ⟨v', w', hr, h2, h3, h4, h5⟩ := run_append_own_at (P := Tryz.prog) W2 B 34 o.type 88 i0 (.agg #[.int .i64 0, .slice none 0 0, .int .i64 0]) 3 40 Tryz.underlying34 hi hz0 hz1 hz2 rfl (by decide) v L.length (rowL L) hA ⟨g, 0, none⟩ M.length cap (rowL M) (rowL_len M) (row_cells hM) (rowL_one M) (by unfold maxLen; omega) (by omega) (by omega)
    unfold Oper.wp execOp
    simp only [ho, resolve, invoke, builtin, Sem.run_bind, Sem.run_pure, Result.andThen_ok, List.map_toArray, List.map_cons, List.map_nil, hs, hx, h0, hr]
    exact hK _ _ (h v' w' (by rw [List.length_append, rowL_append]; exact h2) ((Below.refl _ _).grown h3 hbase (fun k hk => (hA.lt k hk).1)))

/-- Cells of a row of single cells. -/
theorem row_cell1 {W : World} {B e n cap g : Nat} {xs : List Value} (h : W.ownsRow B e 1 (.slice (some ⟨g, 0, none⟩) n cap) n xs) {i : Nat} {x : Value} (hi : xs[i]? = some x) : W.cell? ⟨g, i, none⟩ = some x := by
  have hl : i < n * 1 := by
    have := (List.getElem?_eq_some_iff.1 hi).1
    rw [h.1] at this
    exact this
  have := World.ownsRow.cellAt h i hl
  rw [hi] at this
  simpa using this

theorem take_flat (P : List (Value × List It)) (j : Nat) (hj : j < P.length) : (P.take j).flatMap (·.2) ++ (P[j]).2 = (P.take (j + 1)).flatMap (·.2) := by
  rw [List.take_add_one, List.getElem?_eq_getElem hj, List.flatMap_append]
  simp

theorem flat_len (P : List (Value × List It)) (j : Nat) : ((P.take j).flatMap (·.2)).length ≤ (P.flatMap (·.2)).length := by
  have h := congrArg (fun L : List (Value × List It) => (L.flatMap (·.2)).length) (List.take_append_drop j P)
  simp only [List.flatMap_append, List.length_append] at h
  omega

theorem Tryz.methLeaf (tg : Int) (aa : Option Addr) (nn cc : Nat) (w : World) : (method 496 239 (.agg #[.int .i64 tg, .slice aa nn cc]) "loop.example/g00148/impl.items").run Tryz.prog w = .ok (443, .agg #[.int .i64 tg, .slice aa nn cc]) w := by kernel_rfl

theorem Tryz.methKnot (tg : Int) (aa : Option Addr) (nn cc : Nat) (w : World) : (method 496 162 (.agg #[.int .i64 tg, .slice aa nn cc]) "loop.example/g00148/impl.items").run Tryz.prog w = .ok (372, .agg #[.int .i64 tg, .slice aa nn cc]) w := by kernel_rfl

set_option maxHeartbeats 3200000 in
set_option maxRecDepth 100000 in
theorem knotItems_any (tag : Int) (P : List (Value × List It)) (B : Nat) (v : Value) (w : World) (hrow : w.ownsRow B 83 1 v P.length (P.map (·.1))) (hits : ∀ p ∈ P, ∀ W', Ext w W' → ItsC p.1 W' p.2) (hlen : (P.flatMap (·.2)).length ≤ 100000) (hP : P.length ≤ 100000) :
    Calls Tryz.prog 372 #[.agg #[.int .i64 tag, v]] w (GivesRw w (bare tag P.length :: P.flatMap (·.2))) := by
  obtain ⟨a, cap, rfl⟩ := ownsRow_slc hrow
  have Hr := hide hrow
  have Hi := hide hits
  have Hl := hide hlen
  obtain ⟨R, hR⟩ : ∃ R, P.flatMap (·.2) = R := ⟨_, rfl⟩
  have HR := hide hR
  rw [hR]
  obtain ⟨n, hn⟩ : ∃ n, P.length = n := ⟨_, rfl⟩
  have Hn := hide hn
  rw [hn] at hP ⊢
  clear hrow hits hR hn hlen
  go_enter Tryz.func372, Tryz.ntmps372
  go_wp2_with (at_builtin; refine stop_app rfl ?_)
  refine (item_any tag n none 0 0 _).mono ?_
  rintro e w1 ⟨rfl, hE⟩
  have HE := hide (Ext.trans (Ext.alloc _ _) hE)
  have HA := hide (ownsRow_it w1 (bare tag n))
  have k1 := (Below.cell (Ext.trans hE (Ext.alloc w1 (.cells #[.int .i64 tag, .slice none 0 0, .int .i64 (n : Int)] 88))) (p := ⟨w.heap.size, 1, none⟩) (by simp)).trans (World.cell?_alloc_new _ _ _ _)
  clear hE
  go_wp2_with (at_builtin; refine stop_app rfl ?_)
  rw [show (.cells #[.int .i64 tag, .slice none 0 0, .int .i64 (n : Int)] 88 : Obj) = .cells #[.int .i64 (bare tag n).tag, .slice (bare tag n).ad (bare tag n).len (bare tag n).cap, .int .i64 (bare tag n).kid] 88 from rfl]
  go_loopw [3, 16] (fun u k wr => ∃ (j : Nat), j ≤ n ∧ k = .int .i64 (j : Int) ∧ wr.ownsRow w1.heap.size 88 3 u (bare tag n :: (P.take j).flatMap (·.2)).length (rowL (bare tag n :: (P.take j).flatMap (·.2))) ∧ Ext w wr ∧ w1.heap.size ≤ wr.heap.size) (fun _ k _ => n - (intOf k).toNat)
  case atStart => exact ⟨0, Nat.zero_le _, rfl, HA.out, Ext.trans HE.out (Ext.alloc _ _), by simp⟩
  case round =>
    clear HA
    obtain ⟨j, hj, rfl, hA, hE, hw⟩ := hrel
    have Hw := hide hw
    clear hw
    have HA := hide hA
    have HX := hide hE
    clear hA hE
    by_cases hlt : j < n
    · have hjP : j < P.length := by rw [Hn.out]; exact hlt
      have hjk : (j : Int) < (n : Int) := by omega
      have hpj : (P.map (·.1))[j]? = some (P[j]).1 := by rw [List.getElem?_map, List.getElem?_eq_getElem hjP]; rfl
      have hrw := ownsRow_ext Hr.out HX.out
      rw [Hn.out] at hrw
      obtain ⟨g, rfl⟩ : ∃ g, a = some ⟨g, 0, none⟩ := by
        rcases hrw.2 with ⟨h, h2⟩ | ⟨g, cap', cur, h, -⟩
        · omega
        · simp only [Value.slice.injEq] at h
          exact ⟨g, h.1⟩
      have cj := row_cell1 hrw hpj
      have HIt := hide (Hi.out P[j] (List.getElem_mem hjP) wr HX.out)
      have HT : Hid ((bare tag n :: (P.take j).flatMap (·.2)) ++ (P[j]).2 = bare tag n :: (P.take (j + 1)).flatMap (·.2)) := by show _ = _; rw [List.cons_append, take_flat P j hjP]
      have HLj : Hid ((bare tag n :: (P.take j).flatMap (·.2)).length + (P[j]).2.length ≤ 1048576) := by
        have h1 := flat_len P (j + 1)
        rw [← take_flat P j hjP, List.length_append] at h1
        have := Hl.out
        show _ ≤ _
        rw [List.length_cons]
        omega
      clear hrw hpj
      generalize (P[j]).1 = vj at *
      generalize (P[j]).2 = Lj at *
      generalize bare tag n :: (P.take j).flatMap (·.2) = Aj at *
      have W1 : Hid (wrap64 ((j : Int) + 1) = (j : Int) + 1) := by show _ = _; unfold wrap64; omega
      obtain ⟨tg, aa, nn, cc, h | h⟩ := HIt.out
      · obtain ⟨rfl, hcl⟩ := h
        have HCl := hide hcl
        have hm := @Tryz.methLeaf tg aa nn cc
        clear hcl HIt
        go_wp2_with (at_builtin; refine stop_app rfl ?_)
        refine HCl.out.mono ?_
        rintro e2 w2 ⟨u2, rfl, h2, hE2⟩
        have H2 := hide h2
        have HE2 := hide hE2
        clear h2 hE2 hm cj
        go_wp2_with (at_builtin; refine stop_app rfl ?_)
        refine hide ?_
        refine wpList_appRow rfl _ _ rfl w1.heap.size wr.heap.size _ _ Aj Lj rfl (ownsRow_ext HA.out HE2.out) rfl H2.out HLj.out (by have := Below.size HE2.out; have := Hw.out; omega) ?_
        intro v' w3 h3 hB3
        have H3 := hide h3
        have HX3 : Hid (Ext w w3) := hide (Below.trans (Ext.trans HX.out HE2.out) (hB3.mono (by have := Below.size HE.out; omega)))
        have Hw3 : Hid (w1.heap.size ≤ w3.heap.size) := by
          have := Below.size hB3
          have := Below.size HE2.out
          have := Hw.out
          show _ ≤ _
          omega
        clear h3 hB3
        go_wp2
        refine ⟨⟨j + 1, by omega, by (try rw [W1.out]); congr 1, by rw [← HT.out]; exact H3.out, HX3.out, Hw3.out⟩, ?_⟩
        try rw [W1.out]
        show n - ((j : Int) + 1).toNat < n - ((j : Int)).toNat
        omega
      · obtain ⟨rfl, hcl⟩ := h
        have HCl := hide hcl
        have hm := @Tryz.methKnot tg aa nn cc
        clear hcl HIt
        go_wp2_with (at_builtin; refine stop_app rfl ?_)
        refine HCl.out.mono ?_
        rintro e2 w2 ⟨u2, rfl, h2, hE2⟩
        have H2 := hide h2
        have HE2 := hide hE2
        clear h2 hE2 hm cj
        go_wp2_with (at_builtin; refine stop_app rfl ?_)
        refine hide ?_
        refine wpList_appRow rfl _ _ rfl w1.heap.size wr.heap.size _ _ Aj Lj rfl (ownsRow_ext HA.out HE2.out) rfl H2.out HLj.out (by have := Below.size HE2.out; have := Hw.out; omega) ?_
        intro v' w3 h3 hB3
        have H3 := hide h3
        have HX3 : Hid (Ext w w3) := hide (Below.trans (Ext.trans HX.out HE2.out) (hB3.mono (by have := Below.size HE.out; omega)))
        have Hw3 : Hid (w1.heap.size ≤ w3.heap.size) := by
          have := Below.size hB3
          have := Below.size HE2.out
          have := Hw.out
          show _ ≤ _
          omega
        clear h3 hB3
        go_wp2
        refine ⟨⟨j + 1, by omega, by (try rw [W1.out]); congr 1, by rw [← HT.out]; exact H3.out, HX3.out, Hw3.out⟩, ?_⟩
        try rw [W1.out]
        show n - ((j : Int) + 1).toNat < n - ((j : Int)).toNat
        omega
    · obtain rfl : j = n := by omega
      have hjk : ¬ (j : Int) < (j : Int) := by omega
      have HT : Hid ((P.take j).flatMap (·.2) = R) := by show _ = _; rw [← Hn.out, List.take_length]; exact HR.out
      rw [HT.out] at HA
      generalize bare tag j :: R = AR at *
      go_wp2
      go_ret
      exact ⟨_, rfl, ownsRow_low HA.out (Below.size HE.out), HX.out⟩
end

section
set_option linter.unusedVariables false
set_option linter.unusedSimpArgs false

open Go.RowKit

/-- The blocks from B up to E lie alike. -/
def Agr (B E : Nat) (W W' : World) : Prop := ∀ k, B ≤ k → k < E → W'.heap[k]? = W.heap[k]?

theorem Agr.refl (B E : Nat) (W : World) : Agr B E W W := fun _ _ _ => rfl

theorem Agr.trans {B E : Nat} {a b c : World} (h : Agr B E a b) (k : Agr B E b c) : Agr B E a c := fun i h1 h2 => (k i h1 h2).trans (h i h1 h2)

theorem Agr.sub {B E B' E' : Nat} {a b : World} (h : Agr B E a b) (h1 : B ≤ B') (h2 : E' ≤ E) : Agr B' E' a b := fun i i1 i2 => h i (by omega) (by omega)

theorem Agr.of_ext {B E : Nat} {W W' : World} (e : Ext W W') (hE : E ≤ W.heap.size) : Agr B E W W' := fun k _ h => Below.block e k (by omega)

/-- A piece that lies between B and E, and whose items are L. -/
structure Pce (B E : Nat) (W : World) (v : Value) (L : List It) : Prop where
  bods : Bods B W L
  top : ∀ t ∈ L, 0 < t.len → t.blk < E
  hi : E ≤ W.heap.size
  its : ∀ W', Agr B E W W' → ItsC v W' L

theorem Pce.keep {B E : Nat} {W W' : World} {v : Value} {L : List It} (h : Pce B E W v L) (a : Agr B E W W') (hs : W.heap.size ≤ W'.heap.size) : Pce B E W' v L :=
  ⟨h.bods.of_blk (fun t ht h0 => a _ (h.bods.up t ht h0) (h.top t ht h0)), h.top, Nat.le_trans h.hi hs, fun W2 a2 => h.its W2 (a.trans a2)⟩

theorem Pce.ext {B E : Nat} {W W' : World} {v : Value} {L : List It} (h : Pce B E W v L) (e : Ext W W') : Pce B E W' v L := h.keep (.of_ext e h.hi) (Below.size e)

theorem Pce.wide {B E B' E' : Nat} {W : World} {v : Value} {L : List It} (h : Pce B E W v L) (h1 : B' ≤ B) (h2 : E ≤ E') (h3 : E' ≤ W.heap.size) : Pce B' E' W v L :=
  ⟨h.bods.low h1, fun t ht h0 => Nat.lt_of_lt_of_le (h.top t ht h0) h2, h3, fun W' a => h.its W' (a.sub h1 h2)⟩

/-- A call that hands back a new piece whose items tell C. -/
def GivesPc (w : World) (C : List Ic) (e : Ending) (w' : World) : Prop := ∃ v L, e = .returned v ∧ Pce w.heap.size w'.heap.size w' v L ∧ L.map ct = C ∧ Ext w w'

/-- Pieces that lie between B and E. -/
structure Pcs (B E : Nat) (W : World) (P : List (Value × List It)) : Prop where
  its : ∀ p ∈ P, ∀ W', Agr B E W W' → ItsC p.1 W' p.2
  bods : Bods B W (P.flatMap (·.2))
  top : ∀ t ∈ P.flatMap (·.2), 0 < t.len → t.blk < E
  hi : E ≤ W.heap.size

theorem Pcs.nil (B E : Nat) (W : World) (h : E ≤ W.heap.size) : Pcs B E W [] := ⟨fun _ h => by simp at h, Bods.nil _ _, fun _ h => by simp at h, h⟩

theorem Pcs.keep {B E : Nat} {W W' : World} {P : List (Value × List It)} (h : Pcs B E W P) (a : Agr B E W W') (hs : W.heap.size ≤ W'.heap.size) : Pcs B E W' P :=
  ⟨fun p hp W2 a2 => h.its p hp W2 (a.trans a2), h.bods.of_blk (fun t ht h0 => a _ (h.bods.up t ht h0) (h.top t ht h0)), h.top, Nat.le_trans h.hi hs⟩

theorem Pcs.ext {B E : Nat} {W W' : World} {P : List (Value × List It)} (h : Pcs B E W P) (e : Ext W W') : Pcs B E W' P := h.keep (.of_ext e h.hi) (Below.size e)

theorem Pcs.wide {B E B' E' : Nat} {W : World} {P : List (Value × List It)} (h : Pcs B E W P) (h1 : B' ≤ B) (h2 : E ≤ E') (h3 : E' ≤ W.heap.size) : Pcs B' E' W P :=
  ⟨fun p hp W' a => h.its p hp W' (a.sub h1 h2), h.bods.low h1, fun t ht h0 => Nat.lt_of_lt_of_le (h.top t ht h0) h2, h3⟩

theorem Pcs.cat {B E B2 E2 : Nat} {W : World} {P R : List (Value × List It)} (h : Pcs B E W P) (k : Pcs B2 E2 W R) (h1 : B ≤ B2) (h2 : E ≤ B2) (h3 : E ≤ E2) : Pcs B E2 W (P ++ R) := by
  refine ⟨fun p hp W' a => ?_, ?_, fun t ht h0 => ?_, k.hi⟩
  · rcases List.mem_append.1 hp with hp | hp
    · exact h.its p hp W' (a.sub (Nat.le_refl _) h3)
    · exact k.its p hp W' (a.sub h1 (Nat.le_refl _))
  · rw [List.flatMap_append]
    refine ⟨fun t ht => ?_, fun t ht h0 => ?_, fun t ht => ?_, ?_⟩
    · rcases List.mem_append.1 ht with ht | ht
      · exact h.bods.own t ht
      · exact k.bods.own t ht
    · rcases List.mem_append.1 ht with ht | ht
      · exact h.bods.up t ht h0
      · exact Nat.le_trans h1 (k.bods.up t ht h0)
    · rcases List.mem_append.1 ht with ht | ht
      · exact h.bods.nf t ht
      · exact k.bods.nf t ht
    · rw [List.pairwise_append]
      refine ⟨h.bods.apart, k.bods.apart, fun s hs t ht h0 h4 => ?_⟩
      have a := h.top s hs h0
      have b := k.bods.up t ht h4
      omega
  · rw [List.flatMap_append] at ht
    rcases List.mem_append.1 ht with ht | ht
    · exact Nat.lt_of_lt_of_le (h.top t ht h0) h3
    · exact k.top t ht h0

theorem Pce.one {B E : Nat} {W : World} {v : Value} {L : List It} (h : Pce B E W v L) : Pcs B E W [(v, L)] :=
  ⟨fun p hp W' a => by rw [List.mem_singleton] at hp; subst hp; exact h.its W' a, by simpa using h.bods, by simpa using h.top, h.hi⟩

theorem Pcs.add {B E E2 : Nat} {W W2 : World} {P : List (Value × List It)} {v : Value} {L : List It} (h : Pcs B E W P) (a : Agr B E W W2) (hs : W.heap.size ≤ W2.heap.size) (k : Pce W.heap.size E2 W2 v L) (h1 : B ≤ W.heap.size) (h3 : W.heap.size ≤ E2) : Pcs B E2 W2 (P ++ [(v, L)]) :=
  (h.keep a hs).cat k.one h1 h.hi (Nat.le_trans h.hi h3)

/-- One made of others. -/
theorem Pce.knot {B E : Nat} {W : World} {a : Option Addr} {n cap : Nat} {P : List (Value × List It)} (tag : Int) (h : Pcs B E W P) (hr : W.ownsRow B 83 1 (.slice a n cap) P.length (P.map (·.1))) (hl : (P.flatMap (·.2)).length ≤ 100000) (hP : P.length ≤ 100000) :
    Pce B W.heap.size W (.iface 162 (.agg #[.int .i64 tag, .slice a n cap])) (bare tag P.length :: P.flatMap (·.2)) := by
  refine ⟨h.bods.bare _ _, fun t ht h0 => ?_, Nat.le_refl _, fun W' ag => ⟨tag, a, n, cap, .inr ⟨rfl, ?_⟩⟩⟩
  · rcases List.mem_cons.1 ht with rfl | ht
    · exact absurd h0 (Nat.lt_irrefl _)
    · exact h.bods.lt ht h0
  · have hr' : W'.ownsRow B 83 1 (.slice a n cap) P.length (P.map (·.1)) := by
      refine ⟨hr.1, ?_⟩
      rcases hr.2 with h0 | ⟨g, c, cur, h0, hb, hg, rest⟩
      · exact .inl h0
      · refine .inr ⟨g, c, cur, h0, hb, ?_, rest⟩
        have hlt : g < W.heap.size := by
          by_cases c : g < W.heap.size
          · exact c
          · rw [Array.getElem?_eq_none (by omega)] at hg; exact absurd hg (by simp)
        rw [ag g hb hlt]
        exact hg
    have hW : ∀ W2, Ext W' W2 → Agr B E W W2 := fun W2 e => by
      intro k h1 h2
      have h3 := ag k h1 (Nat.lt_of_lt_of_le h2 h.hi)
      have h4 : k < W'.heap.size := by
        by_cases c : k < W'.heap.size
        · exact c
        · rw [Array.getElem?_eq_none (by omega)] at h3
          have := h.hi
          rw [Array.getElem?_eq_getElem (by omega)] at h3
          exact absurd h3 (by simp)
      exact (Below.block e k h4).trans h3
    exact knotItems_any tag P B _ W' hr' (fun p hp W2 e => h.its p hp W2 (hW W2 e)) hl hP

/-- One with bytes. -/
theorem Pce.leaf {B : Nat} {W : World} {a : Option Addr} {g off n cap : Nat} {f : Nat → Int} (tag : Int) (h : BOwn W a g off n f) (hg : B ≤ g) : Pce B W.heap.size W (.iface 239 (.agg #[.int .i64 tag, .slice a n cap])) [⟨tag, 0, a, g, off, n, cap, nfF n f⟩] :=
  ⟨Bods.one tag h hg, fun t ht h0 => by rw [List.mem_singleton] at ht; subst ht; exact h.toBSeg.lt h0, Nat.le_refl _, fun W' _ => ⟨tag, a, n, cap, .inl ⟨rfl, leafItems_any tag a g off n cap (nfF n f) W'⟩⟩⟩

theorem leafPiece_any (tag : Int) (a : Option Addr) (n cap : Nat) (w : World) :
    Calls Tryz.prog 133 #[.int .i64 tag, .slice a n cap] w fun e w' => e = .returned (.iface 239 (.agg #[.int .i64 tag, .slice a n cap])) ∧ w' = w := by
  go_enter Tryz.func133, Tryz.ntmps133
  go_wp2
  go_ret
  exact ⟨rfl, rfl⟩

theorem listPiece_any (a : Option Addr) (n cap : Nat) (w : World) :
    Calls Tryz.prog 70 #[.slice a n cap] w fun e w' => e = .returned (.iface 162 (.agg #[.int .i64 48, .slice a n cap])) ∧ w' = w := by
  go_enter Tryz.func70, Tryz.ntmps70
  go_wp2
  go_ret
  exact ⟨rfl, rfl⟩

theorem intPiece_any (n : Int) (w : World) (h0 : -9223372036854775808 ≤ n) (h1 : n ≤ 9223372036854775807) :
    Calls Tryz.prog 101 #[.int .i64 n] w fun e w' => GivesPc w [intC n] e w' := by
  have HI := hide (implIntBytes_any n (ilen n) (ilen_is n h0 h1) w h0 h1)
  have HB : Hid (intC n = ⟨2, 0, (List.range (ilen n + 1)).map (fun i => ib n (ilen n - i))⟩) := rfl
  generalize intC n = C at *
  generalize ilen n + 1 = M at *
  generalize (fun i => ib n (ilen n - i)) = F at *
  go_enter Tryz.func101, Tryz.ntmps101
  go_wp2_with fail
  refine HI.out.mono ?_
  rintro e w1 ⟨a, g, cap, rfl, hg, hO, hE⟩
  have HE := hide hE
  have HO := hide hO
  clear hE hO HI
  go_wp2_with fail
  refine (leafPiece_any 2 a M cap w1).mono ?_
  rintro e w2 ⟨rfl, hw⟩
  obtain rfl := hw.symm
  go_wp2
  go_ret
  exact ⟨_, _, rfl, Pce.leaf 2 HO.out hg, by rw [List.map_cons, ct_one, HB.out]; rfl, HE.out⟩

set_option maxHeartbeats 800000 in
theorem bitsPiece_any (a : Option Addr) (b off n cap : Nat) (f : Nat → Int) (w : World) (hB : BSeg w a b off n f) (hn : n ≤ 1000000) :
    Calls Tryz.prog 71 #[.slice a n cap] w fun e w' => GivesPc w [⟨3, 0, 0 :: (List.range n).map f⟩] e w' := by
  have Hb := hide (hB.of_all (Ext.alloc w (.cells #[.int .u8 0] 5)))
  clear hB
  go_enter Tryz.func71, Tryz.ntmps71
  go_wp2_with (at_builtin; refine stop_app rfl ?_)
  refine hide ?_
  refine wpList_append_bs rfl _ _ rfl w.heap.size _ 1 (byts (fun _ => 0) 1) rfl (owns_one8 w 0) a b off n cap f rfl Hb.out (by omega) (by simp) ?_
  intro v4 w4 h1 h2
  rw [byts_cons, Nat.add_comm] at h1
  obtain ⟨xa, xg, xc, rfl, hxg, -, -, hxB⟩ := owns_seg h1
  have HX := hide hxB
  have HE : Hid (Ext w w4) := hide (Below.trans (Ext.alloc _ _) h2)
  clear h1 h2 hxB Hb
  generalize hN : n + 1 = N at *
  have HN := hide hN
  clear hN
  go_wp2_with fail
  refine (leafPiece_any 3 xa N xc w4).mono ?_
  rintro e w2 ⟨rfl, hw⟩
  obtain rfl := hw.symm
  go_wp2
  go_ret
  exact ⟨_, _, rfl, Pce.leaf 3 HX.out hxg, by rw [List.map_cons, ct_one, ← HN.out, consF_map]; rfl, HE.out⟩
end

section
set_option linter.unusedVariables false

open Go.RowKit

/-- What lies there when k places are told. -/
def told (n : Nat) (f : Nat → Int) (s k : Nat) (p : Nat) : Int := if s - 1 - p < k then byt n f (s - 1 - p) else 0

theorem told_all {n : Nat} {f : Nat → Int} {s k : Nat} (h : s ≤ k ∨ n ≤ k / 2) (p : Nat) (hp : p < s) : told n f s k p = byt n f (s - 1 - p) := by
  unfold told
  by_cases e : s - 1 - p < k
  · rw [if_pos e]
  · rw [if_neg e]
    have : ext n f ((s - 1 - p) / 2) = 0 := ext_out (by omega)
    unfold byt
    rw [this]
    simp

theorem told_set {n : Nat} {f : Nat → Int} {s k q : Nat} {x : Int} (hq : q = s - 1 - k) (hk : k < s) (hx : x = byt n f k) (p : Nat) (hp : p < s) : (if p = q then x else told n f s k p) = told n f s (k + 1) p := by
  unfold told
  by_cases e : p = q
  · rw [if_pos e, if_pos (by omega), hx, show s - 1 - p = k by omega]
  · rw [if_neg e]
    by_cases h : s - 1 - p < k
    · rw [if_pos h, if_pos (by omega)]
    · rw [if_neg h, if_neg (by omega)]

theorem BOwn.set0 {w : World} {a : Option Addr} {g n : Nat} {f f' : Nat → Int} (h : BOwn w a g 0 n f) {k : Nat} (hk : k < n) (x : Int) (e : ∀ p, p < n → (if p = k then x else f p) = f' p) :
    BOwn (w.setCell ⟨g, k, none⟩ (.int .u8 x)) a g 0 n f' := by
  have := (h.set hk x).congr e
  rw [Nat.zero_add] at this
  exact this

theorem BOwn.cell0 {w : World} {a : Option Addr} {g n : Nat} {f : Nat → Int} (h : BOwn w a g 0 n f) {k : Nat} (hk : k < n) : w.cell? ⟨g, k, none⟩ = some (.int .u8 (f k)) ∧ w.frozen? ⟨g, k, none⟩ = false := by
  have h1 := h.cell k hk
  have h2 := h.free k hk
  rw [Nat.zero_add] at h1 h2
  exact ⟨h1, h2⟩

set_option maxHeartbeats 1600000 in
theorem implNatBytes_any (a : Option Addr) (b off n cap : Nat) (f : Nat → Int) (sz : Int) (w : World) (hs : Seg w a b off n f) (hn : n ≤ 1048576) :
    Calls Tryz.prog 169 #[.slice a n cap, .int .i64 sz] w fun e w' => GivesBytes w n f sz e w' := by
  cases hok : natOk n f with
  | false =>
    have Hv : Hid (bytB n f sz = false) := by show _ = _; simp [bytB, hok]
    go_enter Tryz.func169, Tryz.ntmps169
    go_wp2_with fail
    refine (implNatOk_any a b off n cap f _ hs hn).mono ?_
    rintro e w' ⟨rfl, hw⟩
    obtain rfl := hw.symm
    rw [hok]
    clear hok
    go_wp2
    go_ret2
    exact GivesBytes.none Hv.out rfl ((Below.refl _ _).alloc (Nat.le_refl _) _)
  | true =>
    have hd : Digs f n := ((natOk_iff n f).1 hok).1
    have ht := ok_top hok
    by_cases hneg : sz < 0
    · have Hv : Hid (bytB n f sz = false) := by show _ = _; simp [bytB, show ¬ 0 ≤ sz by omega]
      go_enter Tryz.func169, Tryz.ntmps169
      go_wp2_with fail
      refine (implNatOk_any a b off n cap f _ hs hn).mono ?_
      rintro e w' ⟨rfl, hw⟩
      obtain rfl := hw.symm
      rw [hok]
      clear hok
      go_wp2
      go_ret2
      exact GivesBytes.none Hv.out rfl ((Below.refl _ _).alloc (Nat.le_refl _) _)
    · by_cases hbig : 128 < sz
      · have Hv : Hid (bytB n f sz = false) := by show _ = _; simp [bytB, show ¬ sz ≤ 128 by omega]
        go_enter Tryz.func169, Tryz.ntmps169
        go_wp2_with fail
        refine (implNatOk_any a b off n cap f _ hs hn).mono ?_
        rintro e w' ⟨rfl, hw⟩
        obtain rfl := hw.symm
        rw [hok]
        clear hok
        go_wp2
        go_ret2
        exact GivesBytes.none Hv.out rfl ((Below.refl _ _).alloc (Nat.le_refl _) _)
      · obtain ⟨s, rfl⟩ := Int.eq_ofNat_of_zero_le (show 0 ≤ sz by omega)
        have hs128 : s ≤ 128 := by omega
        clear hneg hbig
        have hin1 : ¬ (s : Int) < 0 := by omega
        have hin2 : ¬ (128 : Int) < (s : Int) := by omega
        by_cases hfit : bitsOf n f ≤ 8 * (s : Int)
        · have Hv : Hid (bytB n f s = true) := by show _ = _; unfold bytB; rw [hok]; simp [hfit]; omega
          have hmk := run_make_row' (P := Tryz.prog) 53 5 (.int .u8 0) 1 Tryz.underlying53 Tryz.info5 rfl .i64 .i64 s (by omega) (by omega)
          have hngt : ¬ 8 * (s : Int) < bitsOf n f := by omega
          go_enter Tryz.func169, Tryz.ntmps169
          go_wp2_with fail
          refine (implNatOk_any a b off n cap f _ hs hn).mono ?_
          rintro e w' ⟨rfl, hw⟩
          obtain rfl := hw.symm
          rw [hok]
          clear hok
          go_wp2_with fail
          refine (digitsBits_any a b off n cap f _ hs hn ht).mono ?_
          rintro e w' ⟨rfl, hw⟩
          obtain rfl := hw.symm
          go_wp2
          clear hmk
          go_loopw [7] (fun i wr => ∃ k : Nat, k ≤ s ∧ i = .int .i64 k ∧ BOwn wr (some ⟨w.heap.size, 0, none⟩) w.heap.size 0 s (told n f s k) ∧ Below w.heap.size w wr) (fun i _ => s - (intOf i).toNat)
          case atStart =>
            refine ⟨0, by omega, rfl, ?_, (Below.refl _ _).alloc (Nat.le_refl _) _⟩
            exact BOwn.of_row ((World.rowIs_made w _ s 5).congr (fun j _ => by simp [told])) (Nat.le_refl _)
          case round =>
            obtain ⟨k, hk, rfl, hO, hB⟩ := hrel
            by_cases hgo : k < s ∧ k / 2 < n
            · obtain ⟨h1, h2⟩ := hgo
              obtain rfl := hs.at' (by omega)
              obtain ⟨j, hj⟩ : ∃ j : Nat, j = k / 2 := ⟨_, rfl⟩
              obtain ⟨p, hp⟩ : ∃ p : Nat, p = s - 1 - k := ⟨_, rfl⟩
              have hjn : j < n := by omega
              have hq : (k : Int) / 2 = (j : Int) := by omega
              have hpi : (s : Int) - 1 - (k : Int) = (p : Int) := by omega
              have hps : p < s := by omega
              have hps' : (p : Int) < (s : Int) := by omega
              have hjn' : (j : Int) < (n : Int) := by omega
              have hc := (hs.of_all hB).cell j hjn
              obtain ⟨y0, y1⟩ := hd j hjn
              have Hx : Hid (ext n f (k / 2) = f j) := by show _ = _; rw [← hj]; exact ext_in hjn
              obtain ⟨hc1, hz1⟩ := hO.cell0 hps
              rcases Nat.mod_two_eq_zero_or_one k with hm | hm
              · have hr : (k : Int) % 2 = 0 := by omega
                have hO' := hO.set0 hps (f j % 256) (told_set hp h1 (by simp [byt, hm, Hx.out]))
                have hB' := hB.setCell (p := ⟨w.heap.size, p, none⟩) (Nat.le_refl _) (.int .u8 (f j % 256))
                clear hO hB Hx hj hp
                go_wp2
                go_roundw
                case rel => exact ⟨k + 1, by omega, by go_num, hO', hB'⟩
                case measure => simp [intOf]; omega
              · have hr : (k : Int) % 2 = 1 := by omega
                have hO' := hO.set0 hps (f j / 256) (told_set hp h1 (by simp [byt, hm, Hx.out]))
                have hB' := hB.setCell (p := ⟨w.heap.size, p, none⟩) (Nat.le_refl _) (.int .u8 (f j / 256))
                clear hO hB Hx hj hp
                go_wp2
                go_roundw
                case rel => exact ⟨k + 1, by omega, by go_num, hO', hB'⟩
                case measure => simp [intOf]; omega
            · have hall := hO.congr (fun p hp => told_all (k := k) (by omega) p hp)
              clear hO
              by_cases h1 : k < s
              · have h2 : ¬ k / 2 < n := by omega
                obtain ⟨j, hj⟩ : ∃ j : Nat, j = k / 2 := ⟨_, rfl⟩
                have hq : (k : Int) / 2 = (j : Int) := by omega
                have h3 : ¬ (j : Int) < (n : Int) := by omega
                clear hj hgo
                go_wp2
                go_ret2
                unfold GivesBytes
                rw [Hv.out]
                exact ⟨_, w.heap.size, s, rfl, Nat.le_refl _, hall, hB⟩
              · clear hgo
                go_wp2
                go_ret2
                unfold GivesBytes
                rw [Hv.out]
                exact ⟨_, w.heap.size, s, rfl, Nat.le_refl _, hall, hB⟩
        · have Hv : Hid (bytB n f s = false) := by show _ = _; simp [bytB, hfit]
          have hgt : 8 * (s : Int) < bitsOf n f := by omega
          go_enter Tryz.func169, Tryz.ntmps169
          go_wp2_with fail
          refine (implNatOk_any a b off n cap f _ hs hn).mono ?_
          rintro e w' ⟨rfl, hw⟩
          obtain rfl := hw.symm
          rw [hok]
          clear hok
          go_wp2_with fail
          refine (digitsBits_any a b off n cap f _ hs hn ht).mono ?_
          rintro e w' ⟨rfl, hw⟩
          obtain rfl := hw.symm
          go_wp2
          go_ret2
          exact GivesBytes.none Hv.out rfl ((Below.refl _ _).alloc (Nat.le_refl _) _)
end

section
set_option linter.unusedVariables false
set_option linter.unusedSimpArgs false

open Go.RowKit

open Go.ChangeShapes Go.WideShapes Go.ChangeAt

/-- A key in memory. -/
structure KyM where
  k : Ky
  ad : Option Addr
  b : Nat
  off : Nat
  cap : Nat

/-- What is known of a key that came in. -/
structure KeyIn (w : World) (m : KyM) : Prop where
  seg : Seg w m.ad m.b m.off m.k.n m.k.f
  small : m.k.n ≤ 9223372036854775807
  e0 : -9223372036854775808 ≤ m.k.e
  e1 : m.k.e ≤ 9223372036854775807
  p : m.k.cP ≤ 9223372036854775807
  c : m.k.cN ≤ 9223372036854775807
  d : m.k.dP ≤ 9223372036854775807
  l : m.k.dL ≤ 9223372036854775807

theorem listK {α : Type} {l : List α} (h : l.length = 19) : ∃ kd sl ee c0 c1 c2 c3 c4 c5 q0 q1 q2 e0 e1 e2 e3 e4 a0 a1, l = [kd, sl, ee, c0, c1, c2, c3, c4, c5, q0, q1, q2, e0, e1, e2, e3, e4, a0, a1] := by
  match l, h with
  | [kd, sl, ee, c0, c1, c2, c3, c4, c5, q0, q1, q2, e0, e1, e2, e3, e4, a0, a1], _ => exact ⟨kd, sl, ee, c0, c1, c2, c3, c4, c5, q0, q1, q2, e0, e1, e2, e3, e4, a0, a1, rfl⟩

theorem listN {α : Type} {l : List α} (h : l.length = 7) : ∃ y0 y1 y2 y3 y4 y5 y6, l = [y0, y1, y2, y3, y4, y5, y6] := by
  match l, h with
  | [y0, y1, y2, y3, y4, y5, y6], _ => exact ⟨y0, y1, y2, y3, y4, y5, y6, rfl⟩

theorem list6' {α : Type} {l : List α} (h : l.length = 6) : ∃ y0 y1 y2 y3 y4 y5, l = [y0, y1, y2, y3, y4, y5] := by
  match l, h with
  | [y0, y1, y2, y3, y4, y5], _ => exact ⟨y0, y1, y2, y3, y4, y5, rfl⟩

theorem list5' {α : Type} {l : List α} (h : l.length = 5) : ∃ y0 y1 y2 y3 y4, l = [y0, y1, y2, y3, y4] := by
  match l, h with
  | [y0, y1, y2, y3, y4], _ => exact ⟨y0, y1, y2, y3, y4, rfl⟩

theorem list3'' {α : Type} {l : List α} (h : l.length = 3) : ∃ y0 y1 y2, l = [y0, y1, y2] := by
  match l, h with
  | [y0, y1, y2], _ => exact ⟨y0, y1, y2, rfl⟩

theorem list2' {α : Type} {l : List α} (h : l.length = 2) : ∃ y0 y1, l = [y0, y1] := by
  match l, h with
  | [y0, y1], _ => exact ⟨y0, y1, rfl⟩

theorem kc : Tryz.prog.cellsOf 32 = 19 ∧ Tryz.prog.cellsOf 24 = 6 ∧ Tryz.prog.cellsOf 26 = 3 ∧ Tryz.prog.cellsOf 28 = 5 ∧ Tryz.prog.cellsOf 30 = 2 ∧ Tryz.prog.cellsOf 3 = 1 ∧ Tryz.prog.cellsOf 4 = 1 ∧ Tryz.prog.cellsOf 22 = 1 := by
  refine ⟨?_, ?_, ?_, ?_, ?_, ?_, ?_, ?_⟩ <;> kernel_rfl

section

variable {H : Type} {enc : TypeId × Value → H} {w : World} {base : Nat} {held : Bool}

set_option maxRecDepth 100000 in
theorem open_cv {fuel : Nat} {cs : List Value} {y : DataW H × List MemPlace} (h : DataW.trod enc Tryz.prog w base (fun _ => true) held fuel 24 cs = some y) : ∃ a b c d e f : Int, cs = [.int .i64 a, .int .i64 b, .int .i64 c, .int .i64 d, .int .i64 e, .int .i64 f] ∧ a ≤ 9223372036854775807 ∧ d ≤ 9223372036854775807 := by
  obtain ⟨k1, k2, k3, k4, k5, k6, k7, k8⟩ := kc
  obtain ⟨xs, n, _, hx, hcl, hlen, hel⟩ := DataW.trod_struct Tryz.underlying24 h
  rw [k2] at hcl
  obtain ⟨c0, c1, c2, c3, c4, c5, rfl⟩ := list6' hcl
  obtain ⟨y0, y1, y2, y3, y4, y5, rfl⟩ := list6' hlen
  have e0 := hel 0 _ rfl
  have e1 := hel 1 _ rfl
  have e2 := hel 2 _ rfl
  have e3 := hel 3 _ rfl
  have e4 := hel 4 _ rfl
  have e5 := hel 5 _ rfl
  simp [k6] at e0 e1 e2 e3 e4 e5
  obtain ⟨a0, q0, _, w0⟩ := DataW.trod_int Tryz.underlying3 e0
  obtain ⟨a1, q1, _, w1⟩ := DataW.trod_int Tryz.underlying3 e1
  obtain ⟨a2, q2, _, w2⟩ := DataW.trod_int Tryz.underlying3 e2
  obtain ⟨a3, q3, _, w3⟩ := DataW.trod_int Tryz.underlying3 e3
  obtain ⟨a4, q4, _, w4⟩ := DataW.trod_int Tryz.underlying3 e4
  obtain ⟨a5, q5, _, w5⟩ := DataW.trod_int Tryz.underlying3 e5
  simp at q0 q1 q2 q3 q4 q5
  subst q0 q1 q2 q3 q4 q5
  exact ⟨a0, a1, a2, a3, a4, a5, rfl, (bounds_i64 w0).2, (bounds_i64 w3).2⟩

set_option maxRecDepth 100000 in
theorem open_ed {fuel : Nat} {cs : List Value} {y : DataW H × List MemPlace} (h : DataW.trod enc Tryz.prog w base (fun _ => true) held fuel 28 cs = some y) : ∃ a b c d e : Int, cs = [.int .i64 a, .int .i64 b, .int .i64 c, .int .i64 d, .int .i64 e] ∧ a ≤ 9223372036854775807 ∧ c ≤ 9223372036854775807 := by
  obtain ⟨k1, k2, k3, k4, k5, k6, k7, k8⟩ := kc
  obtain ⟨xs, n, _, hx, hcl, hlen, hel⟩ := DataW.trod_struct Tryz.underlying28 h
  rw [k4] at hcl
  obtain ⟨c0, c1, c2, c3, c4, rfl⟩ := list5' hcl
  obtain ⟨y0, y1, y2, y3, y4, rfl⟩ := list5' hlen
  have e0 := hel 0 _ rfl
  have e1 := hel 1 _ rfl
  have e2 := hel 2 _ rfl
  have e3 := hel 3 _ rfl
  have e4 := hel 4 _ rfl
  simp [k6] at e0 e1 e2 e3 e4
  obtain ⟨a0, q0, _, w0⟩ := DataW.trod_int Tryz.underlying3 e0
  obtain ⟨a1, q1, _, w1⟩ := DataW.trod_int Tryz.underlying3 e1
  obtain ⟨a2, q2, _, w2⟩ := DataW.trod_int Tryz.underlying3 e2
  obtain ⟨a3, q3, _, w3⟩ := DataW.trod_int Tryz.underlying3 e3
  obtain ⟨a4, q4, _, w4⟩ := DataW.trod_int Tryz.underlying3 e4
  simp at q0 q1 q2 q3 q4
  subst q0 q1 q2 q3 q4
  exact ⟨a0, a1, a2, a3, a4, rfl, (bounds_i64 w0).2, (bounds_i64 w2).2⟩

set_option maxRecDepth 100000 in
theorem open_pt {fuel : Nat} {cs : List Value} {y : DataW H × List MemPlace} (h : DataW.trod enc Tryz.prog w base (fun _ => true) held fuel 26 cs = some y) : ∃ (a b : Int) (f : Bool), cs = [.int .i64 a, .int .i64 b, .bool f] := by
  obtain ⟨k1, k2, k3, k4, k5, k6, k7, k8⟩ := kc
  obtain ⟨xs, n, _, hx, hcl, hlen, hel⟩ := DataW.trod_struct Tryz.underlying26 h
  rw [k3] at hcl
  obtain ⟨c0, c1, c2, rfl⟩ := list3'' hcl
  obtain ⟨y0, y1, y2, rfl⟩ := list3'' hlen
  have e0 := hel 0 _ rfl
  have e1 := hel 1 _ rfl
  have e2 := hel 2 _ rfl
  simp [k6, k7] at e0 e1 e2
  obtain ⟨a0, q0, _, w0⟩ := DataW.trod_int Tryz.underlying3 e0
  obtain ⟨a1, q1, _, w1⟩ := DataW.trod_int Tryz.underlying3 e1
  obtain ⟨a2, q2, _⟩ := DataW.trod_bool Tryz.underlying4 e2
  simp at q0 q1 q2
  subst q0 q1 q2
  exact ⟨a0, a1, a2, rfl⟩

set_option maxRecDepth 100000 in
theorem open_pr {fuel : Nat} {cs : List Value} {y : DataW H × List MemPlace} (h : DataW.trod enc Tryz.prog w base (fun _ => true) held fuel 30 cs = some y) : ∃ a b : Int, cs = [.int .i64 a, .int .i64 b] := by
  obtain ⟨k1, k2, k3, k4, k5, k6, k7, k8⟩ := kc
  obtain ⟨xs, n, _, hx, hcl, hlen, hel⟩ := DataW.trod_struct Tryz.underlying30 h
  rw [k5] at hcl
  obtain ⟨c0, c1, rfl⟩ := list2' hcl
  obtain ⟨y0, y1, rfl⟩ := list2' hlen
  have e0 := hel 0 _ rfl
  have e1 := hel 1 _ rfl
  simp [k6] at e0 e1
  obtain ⟨a0, q0, _, w0⟩ := DataW.trod_int Tryz.underlying3 e0
  obtain ⟨a1, q1, _, w1⟩ := DataW.trod_int Tryz.underlying3 e1
  simp at q0 q1
  subst q0 q1
  exact ⟨a0, a1, rfl⟩

set_option maxRecDepth 100000 in
theorem open_ns {fuel : Nat} {cs : List Value} {x : DataW H × List MemPlace} (h : DataW.trod enc Tryz.prog w base (fun _ => true) held fuel 22 cs = some x) :
    ∃ (a : Option Addr) (b off n cap : Nat) (f : Nat → Int), cs = [.slice a n cap] ∧ Seg w a b off n f ∧ n ≤ 9223372036854775807 := by
  rcases open_ints Tryz.underlying22 Tryz.underlying3 (by kernel_rfl) h with ⟨hcs, _⟩ | ⟨a, l, c, zs, hcs, _, hl, hm, hz, _, hcell, hwz⟩
  · exact ⟨none, 0, 0, 0, 0, fun _ => 0, hcs, ⟨fun h => absurd h (Nat.lt_irrefl _), fun i hi => absurd hi (Nat.not_lt_zero _)⟩, Nat.zero_le _⟩
  · simp at hz
    obtain ⟨b, off, spot⟩ := a
    have hmm : l ≤ 9223372036854775807 := by unfold maxLen at hm; omega
    by_cases h0 : l = 0
    · subst h0
      exact ⟨_, 0, 0, 0, c, fun _ => 0, hcs, ⟨fun h => absurd h (Nat.lt_irrefl _), fun i hi => absurd hi (Nat.not_lt_zero _)⟩, Nat.zero_le _⟩
    · have hspot : spot = none := by simpa [Addr.add] using World.cell?_spot (hcell 0 (by omega))
      subst hspot
      refine ⟨some ⟨b, off, none⟩, b, off, l, c, fun i => zs.getD i 0, hcs, ⟨fun _ => rfl, fun i hi => ?_⟩, hmm⟩
      have := hcell i (by omega)
      have e : (⟨b, off, none⟩ : Addr).add i = ⟨b, off + i, none⟩ := by
        by_cases h0 : i = 0
        · subst h0; simp [Addr.add]
        · simp [Addr.add, h0]
      rwa [e] at this

set_option maxHeartbeats 1600000 in
set_option maxRecDepth 100000 in
theorem open_keyC {fuel : Nat} {cs : List Value} {y : DataW H × List MemPlace} (h : DataW.trod enc Tryz.prog w base (fun _ => true) held fuel 32 cs = some y) : ∃ m : KyM, cs = [.int .i64 m.k.kind, .slice m.ad m.k.n m.cap, .int .i64 m.k.e, .int .i64 m.k.cP, .int .i64 m.k.cA, .int .i64 m.k.cB, .int .i64 m.k.cN, .int .i64 m.k.cX, .int .i64 m.k.cY, .int .i64 m.k.q.x, .int .i64 m.k.q.y, .bool m.k.q.far, .int .i64 m.k.dP, .int .i64 m.k.dD, .int .i64 m.k.dL, .int .i64 m.k.dX, .int .i64 m.k.dY, .int .i64 m.k.a.x, .int .i64 m.k.a.y] ∧ KeyIn w m := by
  obtain ⟨k1, k2, k3, k4, k5, k6, k7, k8⟩ := kc
  obtain ⟨xs, n, _, hx, hcl, hlen, hel⟩ := DataW.trod_struct Tryz.underlying32 h
  rw [k1] at hcl
  obtain ⟨kd, sl, ee, c0, c1, c2, c3, c4, c5, q0, q1, q2, e0, e1, e2, e3, e4, a0, a1, rfl⟩ := listK hcl
  obtain ⟨y0, y1, y2, y3, y4, y5, y6, rfl⟩ := listN hlen
  have f0 := hel 0 _ rfl
  have f1 := hel 1 _ rfl
  have f2 := hel 2 _ rfl
  have f3 := hel 3 _ rfl
  have f4 := hel 4 _ rfl
  have f5 := hel 5 _ rfl
  have f6 := hel 6 _ rfl
  simp [k2, k3, k4, k5, k6, k8] at f0 f1 f2 f3 f4 f5 f6
  obtain ⟨u0, g0, _, w0⟩ := DataW.trod_int Tryz.underlying3 f0
  obtain ⟨a, b, off, ln, cap, f, g1, hS, hL⟩ := open_ns f1
  obtain ⟨u2, g2, _, w2⟩ := DataW.trod_int Tryz.underlying3 f2
  obtain ⟨p1, p2, p3, p4, p5, p6, g3, b1, b2⟩ := open_cv f3
  obtain ⟨r1, r2, r3, g4⟩ := open_pt f4
  obtain ⟨s1, s2, s3, s4, s5, g5, b3, b4⟩ := open_ed f5
  obtain ⟨t1, t2, g6⟩ := open_pr f6
  simp at g0 g1 g2 g3 g4 g5 g6
  obtain ⟨rfl, rfl, rfl, rfl, rfl, rfl⟩ := g3
  obtain ⟨rfl, rfl, rfl⟩ := g4
  obtain ⟨rfl, rfl, rfl, rfl, rfl⟩ := g5
  obtain ⟨rfl, rfl⟩ := g6
  subst g0 g1 g2
  have bb := bounds_i64 w2
  exact ⟨⟨⟨u0, ln, f, u2, p1, p2, p3, p4, p5, p6, ⟨r1, r2, r3⟩, s1, s2, s3, s4, s5, ⟨t1, t2⟩⟩, a, b, off, cap⟩, rfl, ⟨hS, hL, bb.1, bb.2, b1, b2, b3, b4⟩⟩

set_option maxRecDepth 100000 in
theorem open_key {r : Reach} {b0 : Nat} {v : Value} {d : DataW H} {p : List MemPlace} (hv : Value.okWide Tryz.prog w r b0 32 v) (h : DataW.Trod enc Tryz.prog w base (fun _ => true) held 32 v d p) :
    ∃ m : KyM, v = .agg #[.int .i64 m.k.kind, .slice m.ad m.k.n m.cap, .int .i64 m.k.e, .int .i64 m.k.cP, .int .i64 m.k.cA, .int .i64 m.k.cB, .int .i64 m.k.cN, .int .i64 m.k.cX, .int .i64 m.k.cY, .int .i64 m.k.q.x, .int .i64 m.k.q.y, .bool m.k.q.far, .int .i64 m.k.dP, .int .i64 m.k.dD, .int .i64 m.k.dL, .int .i64 m.k.dX, .int .i64 m.k.dY, .int .i64 m.k.a.x, .int .i64 m.k.a.y] ∧ KeyIn w m := by
  obtain ⟨cs, rfl, hsz⟩ := okWide_struct Tryz.underlying32 hv
  obtain ⟨fuel, hf⟩ := h
  obtain ⟨m, hm, hI⟩ := open_keyC hf
  refine ⟨m, ?_, hI⟩
  simp only [Value.cells] at hm
  rw [← hm]

end
end

end Go.Proofs.YtnnandjphlajnaaGreatDoor
