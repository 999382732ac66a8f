/- The walk of the law FnExactWriteDer. Walks: pieces of the program: what a piece's items are. Pieces: what one is, rows of them, one made of others; lists of numbers as pieces. WriteDer of both over lists by what they tell. Trees read as what they were written from; in plain numbers. Walks: lists of pieces. -/
import Derived.Test.YtkogbinfhoiggaaGreatDoorCx28
namespace Go.Proofs.YtkogbinfhoiggaaGreatDoor
set_option linter.unusedVariables false
set_option linter.unusedSimpArgs false
section
open Go.RowKit
def GivesKb (w : World) (M : Nat) (F : Nat → Int) (ok : Bool) (e : Ending) (w' : World) : Prop := ∃ a g cap, e = .returned (.tuple #[.slice a M cap, .bool ok]) ∧ w.heap.size ≤ g ∧ BOwn w' a g 0 M F ∧ Ext w w'
theorem GivesWd.k {w w' : World} {L : List Int} {ok : Bool} {e : Ending} (h : GivesWd w L ok e w') : GivesKb w L.length (fun i => L.getD i 0) ok e w' := by
 obtain ⟨v, rfl, h1, h2⟩ := h
 rw [bl_byts] at h1
 obtain ⟨a, g, cap, rfl, hg, -, -, hO⟩ := owns_seg h1
 exact ⟨a, g, cap, rfl, hg, hO, h2⟩
def GivesRw (W : World) (L : List It) (r : Ending) (w' : World) : Prop := ∃ u, r = .returned u ∧ w'.ownsRow W.heap.size 40 3 u L.length (rowL L) ∧ Ext W w'
def ItsC (v : Value) (W : World) (L : List It) : Prop :=
 ∃ (tag : Int) (a : Option Addr) (n cap : Nat), (v = .iface 140 (.agg #[.int .i64 tag, .slice a n cap]) ∧ Calls Tryz.prog 211 #[.agg #[.int .i64 tag, .slice a n cap]] W (GivesRw W L)) ∨
  (v = .iface 133 (.agg #[.int .i64 tag, .slice a n cap]) ∧ Calls Tryz.prog 209 #[.agg #[.int .i64 tag, .slice a n cap]] W (GivesRw W L))
theorem item_any (tag kid : Int) (a : Option Addr) (n cap : Nat) (w : World) :
  Calls Tryz.prog 210 #[.agg #[.int .i64 tag], .slice a n cap, .int .i64 kid] w fun e w' => e = .returned (.agg #[.int .i64 tag, .slice a n cap, .int .i64 kid]) ∧ Ext w w' := by
 go_enter Tryz.func210, Tryz.ntmps210
 go_wp2
 refine bodyPost_ret (v := .agg #[.int .i64 tag, .slice a n cap, .int .i64 kid]) (by simp [results, Tryz.results210, go_sem]) rfl ⟨rfl, ?_⟩
 first | exact Ext.trans (Ext.alloc _ _) (Ext.alloc _ _) | exact (((Ext.trans (Ext.alloc _ _) (Ext.alloc _ _)).setCell (by simp) _).setCell (by simp) _).setCell (by simp) _
set_option maxHeartbeats 800000 in
theorem leafItems_any (tag : Int) (a : Option Addr) (g off n cap : Nat) (f : Nat → Int) (w : World) :
  Calls Tryz.prog 211 #[.agg #[.int .i64 tag, .slice a n cap]] w (GivesRw w [⟨tag, 0, a, g, off, n, cap, f⟩]) := by
 go_enter Tryz.func211, Tryz.ntmps211
 go_wp2_with fail
 refine (item_any tag 0 a n cap _).mono ?_
 rintro e w1 ⟨rfl, hE⟩
 have HE := hide (Ext.trans (Ext.alloc _ _) hE)
 clear hE
 go_wp2
 go_ret
 exact ⟨_, rfl, ownsRow_low (ownsRow_it w1 ⟨tag, 0, a, g, off, n, cap, f⟩) (Below.size HE.out), Ext.trans HE.out (Ext.alloc _ _)⟩
theorem wpList_appRow {ops : Array Oper} {rest : List Oper} {o : Oper} {a0 : Act} {Q : Exit → Act → World → Prop} {W2 : World} (hgd : o.guard = none) (s x : Operand)
  (ho : o.op = .call { callee := .builtin .append, args := #[s, x], argTypes := #[35, 35] })
  (B B2 : Nat) (v v2 : Value) (L M : List It) (hs : a0.eval s = v) (hA : W2.ownsRow B 40 3 v L.length (rowL L)) (hx : a0.eval x = v2) (hM : W2.ownsRow B2 40 3 v2 M.length (rowL M))
  (hm : L.length + M.length ≤ 1048576) (hbase : B ≤ W2.heap.size)
  (h : ∀ v' w', w'.ownsRow B 40 3 v' (L ++ M).length (rowL (L ++ M)) → Below B W2 w' → wpList Tryz.prog ops Q rest (a0.put o.dst v') w') : wpList Tryz.prog ops Q (o :: rest) a0 W2 := by
 refine wpList_plain hgd fun K hK => ?_
 obtain ⟨i0, hi, hz0, hz1, hz2⟩ := info_parts Tryz.infoItm
 rcases hM.2 with ⟨h0, h1⟩ | ⟨g, cap, cur, h0, -⟩
 ·obtain rfl : M = [] := by cases M with | nil => rfl | cons _ _ => simp at h1
  have hr := run_append_nothing (P := Tryz.prog) B 35 o.type 40 i0 3 Tryz.underlying35 hi _ L.length 0 (rowL L) hA
  unfold Oper.wp execOp
  simp only [ho, resolve, invoke, builtin, Sem.run_bind, Sem.run_pure, Result.andThen_ok, List.map_toArray, List.map_cons, List.map_nil, hs, hx, h0, hr]
  exact hK _ _ (h v W2 (by rw [List.append_nil]; exact hA) (Below.refl _ _))
 ·rw [h0] at hM
  obtain ⟨v', w', hr, h2, h3, h4, h5⟩ := run_append_own_at (P := Tryz.prog) W2 B 35 o.type 40 i0 (.agg #[.int .i64 0, .slice none 0 0, .int .i64 0]) 3 40 Tryz.underlying35 hi hz0 hz1 hz2 rfl (by decide) v L.length (rowL L) hA ⟨g, 0, none⟩ M.length cap (rowL M) (rowL_len M) (row_cells hM) (rowL_one M) (by unfold maxLen; omega) (by omega) (by omega)
  unfold Oper.wp execOp
  simp only [ho, resolve, invoke, builtin, Sem.run_bind, Sem.run_pure, Result.andThen_ok, List.map_toArray, List.map_cons, List.map_nil, hs, hx, h0, hr]
  exact hK _ _ (h v' w' (by rw [List.length_append, rowL_append]; exact h2) ((Below.refl _ _).grown h3 hbase (fun k hk => (hA.lt k hk).1)))
theorem row_cell1 {W : World} {B e n cap g : Nat} {xs : List Value} (h : W.ownsRow B e 1 (.slice (some ⟨g, 0, none⟩) n cap) n xs) {i : Nat} {x : Value} (hi : xs[i]? = some x) : W.cell? ⟨g, i, none⟩ = some x := by
 have hl : i < n * 1 := by
  have := (List.getElem?_eq_some_iff.1 hi).1
  rw [h.1] at this
  exact this
 have := World.ownsRow.cellAt h i hl
 rw [hi] at this
 simpa using this
theorem take_flat (P : List (Value × List It)) (j : Nat) (hj : j < P.length) : (P.take j).flatMap (·.2) ++ (P[j]).2 = (P.take (j + 1)).flatMap (·.2) := by
 rw [List.take_add_one, List.getElem?_eq_getElem hj, List.flatMap_append]
 simp
theorem flat_len (P : List (Value × List It)) (j : Nat) : ((P.take j).flatMap (·.2)).length ≤ (P.flatMap (·.2)).length := by
 have h := congrArg (fun L : List (Value × List It) => (L.flatMap (·.2)).length) (List.take_append_drop j P)
 simp only [List.flatMap_append, List.length_append] at h
 omega
theorem Tryz.methLeaf (tg : Int) (aa : Option Addr) (nn cc : Nat) (w : World) : (method 368 140 (.agg #[.int .i64 tg, .slice aa nn cc]) "loop.example/g00148/impl.items").run Tryz.prog w = .ok (211, .agg #[.int .i64 tg, .slice aa nn cc]) w := by kernel_rfl
theorem Tryz.methKnot (tg : Int) (aa : Option Addr) (nn cc : Nat) (w : World) : (method 368 133 (.agg #[.int .i64 tg, .slice aa nn cc]) "loop.example/g00148/impl.items").run Tryz.prog w = .ok (209, .agg #[.int .i64 tg, .slice aa nn cc]) w := by kernel_rfl
set_option maxHeartbeats 3200000 in
set_option maxRecDepth 100000 in
theorem knotItems_any (tag : Int) (P : List (Value × List It)) (B : Nat) (v : Value) (w : World) (hrow : w.ownsRow B 51 1 v P.length (P.map (·.1))) (hits : ∀ p ∈ P, ∀ W', Ext w W' → ItsC p.1 W' p.2) (hlen : (P.flatMap (·.2)).length ≤ 100000) (hP : P.length ≤ 100000) :
  Calls Tryz.prog 209 #[.agg #[.int .i64 tag, v]] w (GivesRw w (bare tag P.length :: P.flatMap (·.2))) := by
 obtain ⟨a, cap, rfl⟩ := ownsRow_slc hrow
 have Hr := hide hrow
 have Hi := hide hits
 have Hl := hide hlen
 obtain ⟨R, hR⟩ : ∃ R, P.flatMap (·.2) = R := ⟨_, rfl⟩
 have HR := hide hR
 rw [hR]
 obtain ⟨n, hn⟩ : ∃ n, P.length = n := ⟨_, rfl⟩
 have Hn := hide hn
 rw [hn] at hP ⊢
 clear hrow hits hR hn hlen
 go_enter Tryz.func209, Tryz.ntmps209
 go_wp2_with (at_builtin; refine stop_app rfl ?_)
 refine (item_any tag n none 0 0 _).mono ?_
 rintro e w1 ⟨rfl, hE⟩
 have HE := hide (Ext.trans (Ext.alloc _ _) hE)
 have HA := hide (ownsRow_it w1 (bare tag n))
 have k1 := (Below.cell (Ext.trans hE (Ext.alloc w1 (.cells #[.int .i64 tag, .slice none 0 0, .int .i64 (n : Int)] 40))) (p := ⟨w.heap.size, 1, none⟩) (by simp)).trans (World.cell?_alloc_new _ _ _ _)
 clear hE
 go_wp2_with (at_builtin; refine stop_app rfl ?_)
 rw [show (.cells #[.int .i64 tag, .slice none 0 0, .int .i64 (n : Int)] 40 : Obj) = .cells #[.int .i64 (bare tag n).tag, .slice (bare tag n).ad (bare tag n).len (bare tag n).cap, .int .i64 (bare tag n).kid] 40 from rfl]
 go_loopw [3, 16] (fun u k wr => ∃ (j : Nat), j ≤ n ∧ k = .int .i64 (j : Int) ∧ wr.ownsRow w1.heap.size 40 3 u (bare tag n :: (P.take j).flatMap (·.2)).length (rowL (bare tag n :: (P.take j).flatMap (·.2))) ∧ Ext w wr ∧ w1.heap.size ≤ wr.heap.size) (fun _ k _ => n - (intOf k).toNat)
 case atStart => exact ⟨0, Nat.zero_le _, rfl, HA.out, Ext.trans HE.out (Ext.alloc _ _), by simp⟩
 case round =>
  clear HA
  obtain ⟨j, hj, rfl, hA, hE, hw⟩ := hrel
  have Hw := hide hw
  clear hw
  have HA := hide hA
  have HX := hide hE
  clear hA hE
  by_cases hlt : j < n
  ·have hjP : j < P.length := by rw [Hn.out]; exact hlt
   have hjk : (j : Int) < (n : Int) := by omega
   have hpj : (P.map (·.1))[j]? = some (P[j]).1 := by rw [List.getElem?_map, List.getElem?_eq_getElem hjP]; rfl
   have hrw := ownsRow_ext Hr.out HX.out
   rw [Hn.out] at hrw
   obtain ⟨g, rfl⟩ : ∃ g, a = some ⟨g, 0, none⟩ := by
    rcases hrw.2 with ⟨h, h2⟩ | ⟨g, cap', cur, h, -⟩
    ·omega
    ·simp only [Value.slice.injEq] at h
     exact ⟨g, h.1⟩
   have cj := row_cell1 hrw hpj
   have HIt := hide (Hi.out P[j] (List.getElem_mem hjP) wr HX.out)
   have HT : Hid ((bare tag n :: (P.take j).flatMap (·.2)) ++ (P[j]).2 = bare tag n :: (P.take (j + 1)).flatMap (·.2)) := by show _ = _; rw [List.cons_append, take_flat P j hjP]
   have HLj : Hid ((bare tag n :: (P.take j).flatMap (·.2)).length + (P[j]).2.length ≤ 1048576) := by
    have h1 := flat_len P (j + 1)
    rw [← take_flat P j hjP, List.length_append] at h1
    have := Hl.out
    show _ ≤ _
    rw [List.length_cons]
    omega
   clear hrw hpj
   generalize (P[j]).1 = vj at *
   generalize (P[j]).2 = Lj at *
   generalize bare tag n :: (P.take j).flatMap (·.2) = Aj at *
   have W1 : Hid (wrap64 ((j : Int) + 1) = (j : Int) + 1) := by show _ = _; unfold wrap64; omega
   obtain ⟨tg, aa, nn, cc, h | h⟩ := HIt.out
   ·obtain ⟨rfl, hcl⟩ := h
    have HCl := hide hcl
    have hm := @Tryz.methLeaf tg aa nn cc
    clear hcl HIt
    go_wp2_with (at_builtin; refine stop_app rfl ?_)
    refine HCl.out.mono ?_
    rintro e2 w2 ⟨u2, rfl, h2, hE2⟩
    have H2 := hide h2
    have HE2 := hide hE2
    clear h2 hE2 hm cj
    go_wp2_with (at_builtin; refine stop_app rfl ?_)
    refine hide ?_
    refine wpList_appRow rfl _ _ rfl w1.heap.size wr.heap.size _ _ Aj Lj rfl (ownsRow_ext HA.out HE2.out) rfl H2.out HLj.out (by have := Below.size HE2.out; have := Hw.out; omega) ?_
    intro v' w3 h3 hB3
    have H3 := hide h3
    have HX3 : Hid (Ext w w3) := hide (Below.trans (Ext.trans HX.out HE2.out) (hB3.mono (by have := Below.size HE.out; omega)))
    have Hw3 : Hid (w1.heap.size ≤ w3.heap.size) := by
     have := Below.size hB3
     have := Below.size HE2.out
     have := Hw.out
     show _ ≤ _
     omega
    clear h3 hB3
    go_wp2
    refine ⟨⟨j + 1, by omega, by (try rw [W1.out]); congr 1, by rw [← HT.out]; exact H3.out, HX3.out, Hw3.out⟩, ?_⟩
    try rw [W1.out]
    show n - ((j : Int) + 1).toNat < n - ((j : Int)).toNat
    omega
   ·obtain ⟨rfl, hcl⟩ := h
    have HCl := hide hcl
    have hm := @Tryz.methKnot tg aa nn cc
    clear hcl HIt
    go_wp2_with (at_builtin; refine stop_app rfl ?_)
    refine HCl.out.mono ?_
    rintro e2 w2 ⟨u2, rfl, h2, hE2⟩
    have H2 := hide h2
    have HE2 := hide hE2
    clear h2 hE2 hm cj
    go_wp2_with (at_builtin; refine stop_app rfl ?_)
    refine hide ?_
    refine wpList_appRow rfl _ _ rfl w1.heap.size wr.heap.size _ _ Aj Lj rfl (ownsRow_ext HA.out HE2.out) rfl H2.out HLj.out (by have := Below.size HE2.out; have := Hw.out; omega) ?_
    intro v' w3 h3 hB3
    have H3 := hide h3
    have HX3 : Hid (Ext w w3) := hide (Below.trans (Ext.trans HX.out HE2.out) (hB3.mono (by have := Below.size HE.out; omega)))
    have Hw3 : Hid (w1.heap.size ≤ w3.heap.size) := by
     have := Below.size hB3
     have := Below.size HE2.out
     have := Hw.out
     show _ ≤ _
     omega
    clear h3 hB3
    go_wp2
    refine ⟨⟨j + 1, by omega, by (try rw [W1.out]); congr 1, by rw [← HT.out]; exact H3.out, HX3.out, Hw3.out⟩, ?_⟩
    try rw [W1.out]
    show n - ((j : Int) + 1).toNat < n - ((j : Int)).toNat
    omega
  ·obtain rfl : j = n := by omega
   have hjk : ¬ (j : Int) < (j : Int) := by omega
   have HT : Hid ((P.take j).flatMap (·.2) = R) := by show _ = _; rw [← Hn.out, List.take_length]; exact HR.out
   rw [HT.out] at HA
   generalize bare tag j :: R = AR at *
   go_wp2
   go_ret
   exact ⟨_, rfl, ownsRow_low HA.out (Below.size HE.out), HX.out⟩
def Agr (B E : Nat) (W W' : World) : Prop := ∀ k, B ≤ k → k < E → W'.heap[k]? = W.heap[k]?
theorem Agr.refl (B E : Nat) (W : World) : Agr B E W W := fun _ _ _ => rfl
theorem Agr.trans {B E : Nat} {a b c : World} (h : Agr B E a b) (k : Agr B E b c) : Agr B E a c := fun i h1 h2 => (k i h1 h2).trans (h i h1 h2)
theorem Agr.sub {B E B' E' : Nat} {a b : World} (h : Agr B E a b) (h1 : B ≤ B') (h2 : E' ≤ E) : Agr B' E' a b := fun i i1 i2 => h i (by omega) (by omega)
theorem Agr.of_ext {B E : Nat} {W W' : World} (e : Ext W W') (hE : E ≤ W.heap.size) : Agr B E W W' := fun k _ h => Below.block e k (by omega)
structure Pce (B E : Nat) (W : World) (v : Value) (L : List It) : Prop where
 bods : Bods B W L
 top : ∀ t ∈ L, 0 < t.len → t.blk < E
 hi : E ≤ W.heap.size
 its : ∀ W', Agr B E W W' → ItsC v W' L
theorem Pce.keep {B E : Nat} {W W' : World} {v : Value} {L : List It} (h : Pce B E W v L) (a : Agr B E W W') (hs : W.heap.size ≤ W'.heap.size) : Pce B E W' v L :=
 ⟨h.bods.of_blk (fun t ht h0 => a _ (h.bods.up t ht h0) (h.top t ht h0)), h.top, Nat.le_trans h.hi hs, fun W2 a2 => h.its W2 (a.trans a2)⟩
theorem Pce.ext {B E : Nat} {W W' : World} {v : Value} {L : List It} (h : Pce B E W v L) (e : Ext W W') : Pce B E W' v L := h.keep (.of_ext e h.hi) (Below.size e)
theorem Pce.wide {B E B' E' : Nat} {W : World} {v : Value} {L : List It} (h : Pce B E W v L) (h1 : B' ≤ B) (h2 : E ≤ E') (h3 : E' ≤ W.heap.size) : Pce B' E' W v L :=
 ⟨h.bods.low h1, fun t ht h0 => Nat.lt_of_lt_of_le (h.top t ht h0) h2, h3, fun W' a => h.its W' (a.sub h1 h2)⟩
theorem Pce.form {B E : Nat} {W : World} {v : Value} {L : List It} (h : Pce B E W v L) : ∃ T tag a n cap, v = .iface T (.agg #[.int .i64 tag, .slice a n cap]) := by
 obtain ⟨tg, aa, nn, cc, h | h⟩ := h.its W (Agr.refl _ _ _)
 ·exact ⟨_, tg, aa, nn, cc, h.1⟩
 ·exact ⟨_, tg, aa, nn, cc, h.1⟩
def GivesPc (w : World) (C : List Ic) (e : Ending) (w' : World) : Prop := ∃ v L, e = .returned v ∧ Pce w.heap.size w'.heap.size w' v L ∧ L.map ct = C ∧ Ext w w'
structure Pcs (B E : Nat) (W : World) (P : List (Value × List It)) : Prop where
 its : ∀ p ∈ P, ∀ W', Agr B E W W' → ItsC p.1 W' p.2
 bods : Bods B W (P.flatMap (·.2))
 top : ∀ t ∈ P.flatMap (·.2), 0 < t.len → t.blk < E
 hi : E ≤ W.heap.size
theorem Pcs.nil (B E : Nat) (W : World) (h : E ≤ W.heap.size) : Pcs B E W [] := ⟨fun _ h => by simp at h, Bods.nil _ _, fun _ h => by simp at h, h⟩
theorem Pcs.keep {B E : Nat} {W W' : World} {P : List (Value × List It)} (h : Pcs B E W P) (a : Agr B E W W') (hs : W.heap.size ≤ W'.heap.size) : Pcs B E W' P :=
 ⟨fun p hp W2 a2 => h.its p hp W2 (a.trans a2), h.bods.of_blk (fun t ht h0 => a _ (h.bods.up t ht h0) (h.top t ht h0)), h.top, Nat.le_trans h.hi hs⟩
theorem Pcs.ext {B E : Nat} {W W' : World} {P : List (Value × List It)} (h : Pcs B E W P) (e : Ext W W') : Pcs B E W' P := h.keep (.of_ext e h.hi) (Below.size e)
theorem Pcs.wide {B E B' E' : Nat} {W : World} {P : List (Value × List It)} (h : Pcs B E W P) (h1 : B' ≤ B) (h2 : E ≤ E') (h3 : E' ≤ W.heap.size) : Pcs B' E' W P :=
 ⟨fun p hp W' a => h.its p hp W' (a.sub h1 h2), h.bods.low h1, fun t ht h0 => Nat.lt_of_lt_of_le (h.top t ht h0) h2, h3⟩
theorem Pcs.cat {B E B2 E2 : Nat} {W : World} {P R : List (Value × List It)} (h : Pcs B E W P) (k : Pcs B2 E2 W R) (h1 : B ≤ B2) (h2 : E ≤ B2) (h3 : E ≤ E2) : Pcs B E2 W (P ++ R) := by
 refine ⟨fun p hp W' a => ?_, ?_, fun t ht h0 => ?_, k.hi⟩
 ·rcases List.mem_append.1 hp with hp | hp
  ·exact h.its p hp W' (a.sub (Nat.le_refl _) h3)
  ·exact k.its p hp W' (a.sub h1 (Nat.le_refl _))
 ·rw [List.flatMap_append]
  refine ⟨fun t ht => ?_, fun t ht h0 => ?_, fun t ht => ?_, ?_⟩
  ·rcases List.mem_append.1 ht with ht | ht
   ·exact h.bods.own t ht
   ·exact k.bods.own t ht
  ·rcases List.mem_append.1 ht with ht | ht
   ·exact h.bods.up t ht h0
   ·exact Nat.le_trans h1 (k.bods.up t ht h0)
  ·rcases List.mem_append.1 ht with ht | ht
   ·exact h.bods.nf t ht
   ·exact k.bods.nf t ht
  ·rw [List.pairwise_append]
   refine ⟨h.bods.apart, k.bods.apart, fun s hs t ht h0 h4 => ?_⟩
   have a := h.top s hs h0
   have b := k.bods.up t ht h4
   omega
 ·rw [List.flatMap_append] at ht
  rcases List.mem_append.1 ht with ht | ht
  ·exact Nat.lt_of_lt_of_le (h.top t ht h0) h3
  ·exact k.top t ht h0
theorem Pce.one {B E : Nat} {W : World} {v : Value} {L : List It} (h : Pce B E W v L) : Pcs B E W [(v, L)] :=
 ⟨fun p hp W' a => by rw [List.mem_singleton] at hp; subst hp; exact h.its W' a, by simpa using h.bods, by simpa using h.top, h.hi⟩
theorem Pcs.add {B E E2 : Nat} {W W2 : World} {P : List (Value × List It)} {v : Value} {L : List It} (h : Pcs B E W P) (a : Agr B E W W2) (hs : W.heap.size ≤ W2.heap.size) (k : Pce W.heap.size E2 W2 v L) (h1 : B ≤ W.heap.size) (h3 : W.heap.size ≤ E2) : Pcs B E2 W2 (P ++ [(v, L)]) :=
 (h.keep a hs).cat k.one h1 h.hi (Nat.le_trans h.hi h3)
theorem Pce.knot {B E : Nat} {W : World} {a : Option Addr} {n cap : Nat} {P : List (Value × List It)} (tag : Int) (h : Pcs B E W P) (hr : W.ownsRow B 51 1 (.slice a n cap) P.length (P.map (·.1))) (hl : (P.flatMap (·.2)).length ≤ 100000) (hP : P.length ≤ 100000) :
  Pce B W.heap.size W (.iface 133 (.agg #[.int .i64 tag, .slice a n cap])) (bare tag P.length :: P.flatMap (·.2)) := by
 refine ⟨h.bods.bare _ _, fun t ht h0 => ?_, Nat.le_refl _, fun W' ag => ⟨tag, a, n, cap, .inr ⟨rfl, ?_⟩⟩⟩
 ·rcases List.mem_cons.1 ht with rfl | ht
  ·exact absurd h0 (Nat.lt_irrefl _)
  ·exact h.bods.lt ht h0
 ·have hr' : W'.ownsRow B 51 1 (.slice a n cap) P.length (P.map (·.1)) := by
   refine ⟨hr.1, ?_⟩
   rcases hr.2 with h0 | ⟨g, c, cur, h0, hb, hg, rest⟩
   ·exact .inl h0
   ·refine .inr ⟨g, c, cur, h0, hb, ?_, rest⟩
    have hlt : g < W.heap.size := by
     by_cases c : g < W.heap.size
     ·exact c
     ·rw [Array.getElem?_eq_none (by omega)] at hg; exact absurd hg (by simp)
    rw [ag g hb hlt]
    exact hg
  have hW : ∀ W2, Ext W' W2 → Agr B E W W2 := fun W2 e => by
   intro k h1 h2
   have h3 := ag k h1 (Nat.lt_of_lt_of_le h2 h.hi)
   have h4 : k < W'.heap.size := by
    by_cases c : k < W'.heap.size
    ·exact c
    ·rw [Array.getElem?_eq_none (by omega)] at h3
     have := h.hi
     rw [Array.getElem?_eq_getElem (by omega)] at h3
     exact absurd h3 (by simp)
   exact (Below.block e k h4).trans h3
  exact knotItems_any tag P B _ W' hr' (fun p hp W2 e => h.its p hp W2 (hW W2 e)) hl hP
theorem Pce.leaf {B : Nat} {W : World} {a : Option Addr} {g off n cap : Nat} {f : Nat → Int} (tag : Int) (h : BOwn W a g off n f) (hg : B ≤ g) : Pce B W.heap.size W (.iface 140 (.agg #[.int .i64 tag, .slice a n cap])) [⟨tag, 0, a, g, off, n, cap, nfF n f⟩] :=
 ⟨Bods.one tag h hg, fun t ht h0 => by rw [List.mem_singleton] at ht; subst ht; exact h.toBSeg.lt h0, Nat.le_refl _, fun W' _ => ⟨tag, a, n, cap, .inl ⟨rfl, leafItems_any tag a g off n cap (nfF n f) W'⟩⟩⟩
theorem leafPiece_any (tag : Int) (a : Option Addr) (n cap : Nat) (w : World) :
  Calls Tryz.prog 127 #[.int .i64 tag, .slice a n cap] w fun e w' => e = .returned (.iface 140 (.agg #[.int .i64 tag, .slice a n cap])) ∧ w' = w := by
 go_enter Tryz.func127, Tryz.ntmps127
 go_wp2
 go_ret
 exact ⟨rfl, rfl⟩
theorem listPiece_any (a : Option Addr) (n cap : Nat) (w : World) :
  Calls Tryz.prog 101 #[.slice a n cap] w fun e w' => e = .returned (.iface 133 (.agg #[.int .i64 48, .slice a n cap])) ∧ w' = w := by
 go_enter Tryz.func101, Tryz.ntmps101
 go_wp2
 go_ret
 exact ⟨rfl, rfl⟩
theorem intPiece_any (n : Int) (w : World) (h0 : -9223372036854775808 ≤ n) (h1 : n ≤ 9223372036854775807) :
  Calls Tryz.prog 103 #[.int .i64 n] w fun e w' => GivesPc w [intC n] e w' := by
 have HI := hide (implIntBytes_any n (ilen n) (ilen_is n h0 h1) w h0 h1)
 have HB : Hid (intC n = ⟨2, 0, (List.range (ilen n + 1)).map (fun i => ib n (ilen n - i))⟩) := rfl
 generalize intC n = C at *
 generalize ilen n + 1 = M at *
 generalize (fun i => ib n (ilen n - i)) = F at *
 go_enter Tryz.func103, Tryz.ntmps103
 go_wp2_with fail
 refine HI.out.mono ?_
 rintro e w1 ⟨a, g, cap, rfl, hg, hO, hE⟩
 have HE := hide hE
 have HO := hide hO
 clear hE hO HI
 go_wp2_with fail
 refine (leafPiece_any 2 a M cap w1).mono ?_
 rintro e w2 ⟨rfl, hw⟩
 obtain rfl := hw.symm
 go_wp2
 go_ret
 exact ⟨_, _, rfl, Pce.leaf 2 HO.out hg, by rw [List.map_cons, ct_one, HB.out]; rfl, HE.out⟩
set_option maxHeartbeats 800000 in
theorem bitsPiece_any (a : Option Addr) (b off n cap : Nat) (f : Nat → Int) (w : World) (hB : BSeg w a b off n f) (hn : n ≤ 1000000) :
  Calls Tryz.prog 102 #[.slice a n cap] w fun e w' => GivesPc w [⟨3, 0, 0 :: (List.range n).map f⟩] e w' := by
 have Hb := hide (hB.of_all (Ext.alloc w (.cells #[.int .u8 0] 5)))
 clear hB
 go_enter Tryz.func102, Tryz.ntmps102
 go_wp2_with (at_builtin; refine stop_app rfl ?_)
 refine hide ?_
 refine wpList_append_bs rfl _ _ rfl w.heap.size _ 1 (byts (fun _ => 0) 1) rfl (owns_one8 w 0) a b off n cap f rfl Hb.out (by omega) (by simp) ?_
 intro v4 w4 h1 h2
 rw [byts_cons, Nat.add_comm] at h1
 obtain ⟨xa, xg, xc, rfl, hxg, -, -, hxB⟩ := owns_seg h1
 have HX := hide hxB
 have HE : Hid (Ext w w4) := hide (Below.trans (Ext.alloc _ _) h2)
 clear h1 h2 hxB Hb
 generalize hN : n + 1 = N at *
 have HN := hide hN
 clear hN
 go_wp2_with fail
 refine (leafPiece_any 3 xa N xc w4).mono ?_
 rintro e w2 ⟨rfl, hw⟩
 obtain rfl := hw.symm
 go_wp2
 go_ret
 exact ⟨_, _, rfl, Pce.leaf 3 HX.out hxg, by rw [List.map_cons, ct_one, ← HN.out, consF_map]; rfl, HE.out⟩
def strp (t : It) : It := ⟨t.tag, t.kid, none, 0, 0, t.len, 0, t.f⟩
theorem wrF_strp (x : Nat → It) (n : Nat) : ∀ m i, wrF (fun i => strp (x i)) n m i = wrF x n m i
 | 0, _ => rfl
 | m + 1, i => by
  have h : wrF (fun i => strp (x i)) n m = wrF x n m := funext (wrF_strp x n m)
  rw [wrF, wrF, h]
  rfl
theorem wdB_strp (x : Nat → It) (n : Nat) : wdB (fun i => strp (x i)) n = wdB x n := by
 unfold wdB
 rw [wrF_strp]
 rfl
theorem wdL_strp (x : Nat → It) (n : Nat) : wdL (fun i => strp (x i)) n = wdL x n := by
 unfold wdL
 rw [wrF_strp, wdB_strp]
def icI (c : Ic) : It := ⟨c.tag, c.kid, none, 0, 0, c.bd.length, 0, fun j => c.bd.getD j 0⟩
def xC (C : List Ic) : Nat → It := fun i => icI (C.getD i ⟨0, 0, []⟩)
theorem strp_nf {t : It} (h : Nf t) : strp t = icI (ct t) := by
 have h2 : (fun j => (ct t).bd.getD j 0) = t.f := h.symm
 unfold strp icI
 rw [h2, ct_len]
 rfl
theorem strp_same {L : List It} {C : List Ic} (h : SameC L C) : (fun i => strp (L.getD i dI)) = xC C := by
 funext i
 unfold xC
 by_cases hi : i < C.length
 ·obtain ⟨h1, h2⟩ := h.at' hi
  rw [strp_nf (h.2 _ h1), h2]
  congr 1
  simp [List.getD_eq_getElem?_getD, hi]
 ·have hl := h.len
  rw [List.getD_eq_getElem?_getD, List.getD_eq_getElem?_getD, List.getElem?_eq_none (by omega), List.getElem?_eq_none (by omega)]
  rfl
def wtL (C : List Ic) : List Int := wdL (xC C) C.length
def wtB (C : List Ic) : Bool := wdB (xC C) C.length
def SmK (C : List Ic) : Prop := SmC C ∧ ∀ c ∈ C, c.kid ≤ 1000
theorem specDer_C {B : Nat} {w : World} {v : Value} {L : List It} {C : List Ic} (hA : LAcc B w v L) (hc : L.map ct = C) (hC : SmK C) :
  Calls Tryz.prog 42 #[v] w fun e w' => GivesKb w (wtL C).length (fun i => (wtL C).getD i 0) (wtB C) e w' := by
 have hS : SameC L C := ⟨hc, hA.bods.nf⟩
 have hs : ∀ t ∈ L, t.len ≤ 1000 := fun t ht => by
  have h1 : ct t ∈ C := by rw [← hc]; exact List.mem_map.2 ⟨t, ht, rfl⟩
  have := hC.1.2 _ h1
  rw [ct_len] at this
  exact this
 obtain ⟨a, S, cap, rfl, hI⟩ := hA.iow (fun t ht => by have := hs t ht; omega)
 have hl : L.length = C.length := map_len hc
 have hm : ∀ i, i < L.length → L.getD i dI ∈ L := fun i hi => by rw [List.getD_eq_getElem?_getD, List.getElem?_eq_getElem hi]; exact List.getElem_mem _
 have := specWriteDer_any a S 0 L.length cap (fun i => L.getD i dI) w hI.toISeg (by have := hC.1.1; omega) (fun i hi => by have := hs _ (hm i hi); omega)
 refine this.mono fun e w' k => ?_
 have k2 := k.k
 rw [← wdL_strp, ← wdB_strp, strp_same hS, hl] at k2
 exact k2
theorem implDer_C {B : Nat} {w : World} {v : Value} {L : List It} {C : List Ic} (hA : LAcc B w v L) (hc : L.map ct = C) (hC : SmK C) :
  Calls Tryz.prog 57 #[v] w fun e w' => GivesKb w (wtL C).length (fun i => (wtL C).getD i 0) (wtB C) e w' := by
 have hS : SameC L C := ⟨hc, hA.bods.nf⟩
 have hs : ∀ t ∈ L, t.len ≤ 1000 ∧ t.kid ≤ 1000 := fun t ht => by
  have h1 : ct t ∈ C := by rw [← hc]; exact List.mem_map.2 ⟨t, ht, rfl⟩
  have h2 := hC.1.2 _ h1
  have h3 := hC.2 _ h1
  rw [ct_len] at h2
  exact ⟨h2, h3⟩
 obtain ⟨a, S, cap, rfl, hI⟩ := hA.iow (fun t ht => by have := (hs t ht).1; omega)
 have hl : L.length = C.length := map_len hc
 have hm : ∀ i, i < L.length → L.getD i dI ∈ L := fun i hi => by rw [List.getD_eq_getElem?_getD, List.getElem?_eq_getElem hi]; exact List.getElem_mem _
 have := implWriteDer_any a S 0 L.length cap (fun i => L.getD i dI) w hI.toISeg (by have := hC.1.1; omega) (fun i hi => by have := (hs _ (hm i hi)).1; omega) (fun i hi => by have := (hs _ (hm i hi)).2; omega)
 refine this.mono fun e w' k => ?_
 have k2 := k.k
 rw [← wdL_strp, ← wdB_strp, strp_same hS, hl] at k2
 exact k2
theorem LAcc.of_its {B w2s : Nat} {w2 w3 : World} {u3 v2 : Value} {L2 : List It} (h2 : Pce B w2s w2 v2 L2) (h3 : w3.ownsRow w2.heap.size 40 3 u3 L2.length (rowL L2)) (h3E : Ext w2 w3) (hB : B ≤ w2.heap.size) : LAcc B w3 u3 L2 :=
 ⟨ownsRow_low h3 hB, h2.bods.ext h3E, fun t ht h0 hh => by
  have h5 := (h3.lt _ hh).1
  have h6 := h2.bods.lt ht h0
  omega⟩
end
section
theorem kf_pre {f : Nat → Int} {s : Int} : ∀ K, 0 ≤ kidsF f K s → ∀ i, i ≤ K → 0 ≤ kidsF f i s := fun K h i hi => by
 obtain ⟨c, rfl⟩ : ∃ c, K = i + c := ⟨K - i, by omega⟩
 clear hi
 by_cases hc : 0 ≤ kidsF f i s
 ·exact hc
 ·exfalso
  have neg : ∀ c, kidsF f (i + c) s < 0 := fun c => by
   induction c with
   | zero => exact Int.not_le.1 hc
   | succ c ih2 => rw [← Nat.add_assoc, kidsF, if_pos ih2]; decide
  have := neg c
  omega
theorem kf_step {f : Nat → Int} {s : Int} {K : Nat} (h : 0 ≤ kidsF f K s) {i : Nat} (hi : i < K) : f (kidsF f i s).toNat = kidsF f (i + 1) s := by
 have := kf_pre K h i (by omega)
 rw [kidsF, if_neg (by omega)]
theorem endF_up (kid : Nat → Int) (n : Nat) : ∀ (k m i : Nat), 0 ≤ endF kid n m i → endF kid n (m + k) i = endF kid n m i
 | 0, m, i, _ => rfl
 | k + 1, m, i, h => by
  have e := endF_mono kid n m i h
  rw [show m + (k + 1) = (m + 1) + k by omega, endF_up kid n k (m + 1) i (by rw [e]; exact h), e]
def kpl (x : Nat → It) (n i j : Nat) : Nat := (kidsF (endF (fun j => (x j).kid) n 13) j ((i + 1 : Nat) : Int)).toNat
theorem kpl_m {x : Nat → It} {n m i : Nat} (hm : m + 1 ≤ 13) (h : 0 ≤ endF (fun j => (x j).kid) n (m + 1) i) :
  endF (fun j => (x j).kid) n (m + 1) i = (kpl x n i (x i).kid.toNat : Int) ∧ ∀ j, j < (x i).kid.toNat → kpl x n i j < n ∧ endF (fun j => (x j).kid) n m (kpl x n i j) = (kpl x n i (j + 1) : Int) ∧ kpl x n i j < kpl x n i (j + 1) ∧ kpl x n i (j + 1) ≤ n := by
 have hi : i < n := endF_lt h
 have h1 := h
 rw [endF, if_neg (by omega)] at h1 ⊢
 have h2 : 0 ≤ kidsF (endF (fun j => (x j).kid) n m) (x i).kid.toNat ((i + 1 : Nat) : Int) := h1
 show kidsF (endF (fun j => (x j).kid) n m) (x i).kid.toNat ((i + 1 : Nat) : Int) = _ ∧ _
 have up : ∀ q, 0 ≤ endF (fun j => (x j).kid) n m q → endF (fun j => (x j).kid) n 13 q = endF (fun j => (x j).kid) n m q := fun q hq => by
  have := endF_up (fun j => (x j).kid) n (13 - m) m q hq
  rwa [show m + (13 - m) = 13 by omega] at this
 have same : ∀ j, j ≤ (x i).kid.toNat → kidsF (endF (fun j => (x j).kid) n 13) j ((i + 1 : Nat) : Int) = kidsF (endF (fun j => (x j).kid) n m) j ((i + 1 : Nat) : Int) := fun j hj => kidsF_mono up j _ (kf_pre _ h2 j hj)
 have val : ∀ j, j ≤ (x i).kid.toNat → kidsF (endF (fun j => (x j).kid) n m) j ((i + 1 : Nat) : Int) = (kpl x n i j : Int) := fun j hj => by
  have := kf_pre _ h2 j hj
  unfold kpl
  rw [same j hj]
  omega
 refine ⟨val _ (Nat.le_refl _), fun j hj => ?_⟩
 have s := kf_step h2 hj
 rw [val j (by omega), val (j + 1) (by omega), Int.toNat_natCast] at s
 have hf := endF_far (fun j => (x j).kid) n m (kpl x n i j) (by rw [s]; omega)
 have hr := (endF_range (fun j => (x j).kid) n m (kpl x n i j)).2
 rw [s] at hf hr
 exact ⟨by omega, s, by omega, by omega⟩
theorem ct_icI (c : Ic) : ct (icI c) = c := by
 unfold ct icI
 have : (List.range c.bd.length).map (fun j => c.bd.getD j 0) = c.bd := List.ext_getElem (by simp) (fun i h1 h2 => by simp [h2])
 rw [this]
theorem sgI_xC (C : List Ic) : sgI (xC C) 0 C.length = C := by
 unfold sgI
 refine List.ext_getElem (by simp) (fun i h1 h2 => ?_)
 simp only [List.getElem_map, List.getElem_range, Nat.zero_add]
 unfold xC
 rw [ct_icI]
 simp [h2]
theorem wt_read {C : List Ic} {f : Nat → Int} {bn : Nat} (hb : wtB C = true) (hl : wtL C = byF f 0 bn) : rdA f bn = (C, 0, 0) := by
 have hn : (wtL C).length = bn := by rw [hl, byF_len]
 have h := tree_fwd (xC C) C.length f hb (by show wtL C = byF f 0 (wtL C).length; rw [hn]; exact hl)
 have h2 : rdA f (wtL C).length = (sgI (xC C) 0 C.length, 0, 0) := h
 rw [hn, sgI_xC] at h2
 exact h2
theorem rd_tree {f : Nat → Int} {bn : Nat} (hb : ∀ i, i < bn → 0 ≤ f i ∧ f i < 256) (h : (rdA f bn).2.1 = 0) {L : List It} (hL : L.map ct = (rdA f bn).1) : treeV (fun i => L.getD i dI) L.length = true := by
 have := (rdA_back f bn hb h L hL).2.1
 unfold wdB at this
 rw [Bool.and_eq_true] at this
 exact this.1
end
section
open Go.RowKit
def GivesPs (w : World) (Cs : List (List Ic)) (e : Ending) (w' : World) : Prop :=
 ∃ P, e = .returned (.slice (some ⟨w.heap.size, 0, none⟩) P.length P.length) ∧ w'.ownsRow w.heap.size 51 1 (.slice (some ⟨w.heap.size, 0, none⟩) P.length P.length) P.length (P.map (·.1)) ∧ Pcs (w.heap.size + 1) w'.heap.size w' P ∧ P.map (fun p => p.2.map ct) = Cs ∧ Ext w w'
theorem set_mid {α : Type} (L : List α) (x y : α) (m : Nat) : (L ++ List.replicate (m + 1) x).set L.length y = (L ++ [y]) ++ List.replicate m x := by
 rw [List.set_append_right _ _ (Nat.le_refl _), Nat.sub_self, List.replicate_succ, List.set_cons_zero]
 simp
theorem Tryz.infoPc : (Tryz.prog.info? 51).map (fun i => (i.zero, i.size, i.bytes)) = some (some .nilIface, 1, 16) := by kernel_rfl
theorem owns_nils (w : World) (n : Nat) (hn : n ≤ 1048576) : (w.alloc (.cells (madeCells #[.nilIface] n) 51)).ownsRow w.heap.size 51 1 (.slice (some ⟨w.heap.size, 0, none⟩) n n) n (List.replicate n .nilIface) := by
 have := World.ownsRow_lit (e := 51) (size := 1) (base := w.heap.size) w (madeCells #[.nilIface] n) n (Nat.le_refl _) (by unfold maxLen; omega) (by rw [size_madeCells]; simp)
 have e : (madeCells #[.nilIface] n).toList = List.replicate n .nilIface := by
  refine List.ext_getElem ?_ ?_
  ·simp [size_madeCells]
  ·intro i h1 h2
   simp [madeCells, Nat.mod_one]
 rwa [e] at this
theorem run_make_pcs (n : Nat) (hn : n ≤ 1048576) (w : World) : (Instr.makeSlice 82 (.int .i64 (n : Int)) (.int .i64 (n : Int))).run Tryz.prog w = .ok (.slice (some ⟨w.heap.size, 0, none⟩) n n) (w.alloc (.cells (madeCells #[.nilIface] n) 51)) := by
 obtain ⟨i, hi, hz, hs, hb⟩ := info_parts Tryz.infoPc
 have hr := run_make (P := Tryz.prog) w 82 51 i _ Tryz.underlying82 hi hz .i64 .i64 n n (by omega) (Int.le_refl _) (by rw [hb]; omega) (by omega)
 simp only [Int.toNat_natCast, hs, Nat.mul_one] at hr
 exact hr
set_option maxHeartbeats 3200000 in
set_option maxRecDepth 100000 in
theorem mappedInt_any (a : Option Addr) (b off n cap : Nat) (f : Nat → Int) (w : World) (hs : Seg w a b off n f) (hn : n ≤ 1000) (hf : ∀ i, i < n → -9223372036854775808 ≤ f i ∧ f i ≤ 9223372036854775807) :
  Calls Tryz.prog 130 #[.slice a n cap, .func (.func 103) #[] #[]] w fun e w' => GivesPs w ((List.range n).map (fun i => [intC (f i)])) e w' := by
 have HN := hide (owns_nils w n (by omega))
 have hmk := run_make_pcs n (by omega)
 have HI : Hid (∀ i, i < n → ∀ W, Calls Tryz.prog 103 #[.int .i64 (f i)] W fun e w' => GivesPc W [intC (f i)] e w') := fun i hi W => intPiece_any (f i) W (hf i hi).1 (hf i hi).2
 have Hs := hide hs
 clear hs hf
 go_enter Tryz.func130, Tryz.ntmps130
 go_wp2
 clear hmk
 go_loopw [13] (fun k wr => ∃ (j : Nat) (P : List (Value × List It)), j ≤ n ∧ k = .int .i64 (j : Int) ∧ P.length = j ∧ wr.ownsRow w.heap.size 51 1 (.slice (some ⟨w.heap.size, 0, none⟩) n n) n (P.map (·.1) ++ List.replicate (n - j) .nilIface) ∧ Pcs (w.heap.size + 1) wr.heap.size wr P ∧ P.map (fun p => p.2.map ct) = (List.range j).map (fun i => [intC (f i)]) ∧ Ext w wr) (fun k _ => n - (intOf k).toNat)
 case atStart => exact ⟨0, [], Nat.zero_le _, rfl, rfl, HN.out, Pcs.nil _ _ _ (Nat.le_refl _), rfl, Ext.alloc _ _⟩
 case round =>
  clear HN
  obtain ⟨j, P, hj, rfl, hPl, hO, hP, hC, hE⟩ := hrel
  have HO := hide hO
  have HP := hide hP
  have HC := hide hC
  have HE := hide hE
  have HPl := hide hPl
  by_cases hlt : j < n
  ·have hjk : (j : Int) < (n : Int) := by omega
   obtain rfl := Hs.out.at' (by omega)
   have cj := (Hs.out.of_all HE.out).cell j hlt
   have HIj := hide (HI.out j hlt wr)
   clear hO hP hC hE hPl
   have W1 : Hid (wrap64 ((j : Int) + 1) = (j : Int) + 1) := by show _ = _; unfold wrap64; omega
   go_wp2_with fail
   refine HIj.out.mono ?_
   rintro e2 w2 ⟨v2, L2, rfl, h2, h2c, h2E⟩
   have H2 := hide h2
   have H2c := hide h2c
   have H2E := hide h2E
   have hO2 := ownsRow_ext HO.out h2E
   have cz : w2.cell? ⟨w.heap.size, j, none⟩ = some .nilIface := row_cell1 hO2 (by
    rw [List.getElem?_append_right (by simp [HPl.out]), List.length_map, HPl.out, Nat.sub_self, List.getElem?_replicate, if_pos (by omega)])
   have fz : w2.frozen? ⟨w.heap.size, j, none⟩ = false := World.ownsRow.frozenAt hO2 j
   obtain ⟨tg, aa, nn, cc, hv⟩ : ∃ tg aa nn cc, v2 = .iface 140 (.agg #[.int .i64 tg, .slice aa nn cc]) ∨ v2 = .iface 133 (.agg #[.int .i64 tg, .slice aa nn cc]) := by
    obtain ⟨tg, aa, nn, cc, h | h⟩ := h2.its w2 (Agr.refl _ _ _)
    ·exact ⟨tg, aa, nn, cc, .inl h.1⟩
    ·exact ⟨tg, aa, nn, cc, .inr h.1⟩
   have HO2 := hide hO2
   clear h2 h2c h2E hO2
   have hst : ∀ v2, Pce wr.heap.size w2.heap.size w2 v2 L2 → (w2.setCell ⟨w.heap.size, j, none⟩ v2).ownsRow w.heap.size 51 1 (.slice (some ⟨w.heap.size, 0, none⟩) n n) n ((P ++ [(v2, L2)]).map (·.1) ++ List.replicate (n - (j + 1)) .nilIface) ∧ Pcs (w.heap.size + 1) (w2.setCell ⟨w.heap.size, j, none⟩ v2).heap.size (w2.setCell ⟨w.heap.size, j, none⟩ v2) (P ++ [(v2, L2)]) ∧ Ext w (w2.setCell ⟨w.heap.size, j, none⟩ v2) := fun v2 hv2 => by
    have hR : w.heap.size < wr.heap.size := (HO.out.lt w.heap.size rfl).2
    have hbk : ∀ k, k ≠ w.heap.size → (w2.setCell ⟨w.heap.size, j, none⟩ v2).heap[k]? = w2.heap[k]? := fun k hk => Below.heap_setCell _ _ _ _ (by simpa using hk)
    have hsz : (w2.setCell ⟨w.heap.size, j, none⟩ v2).heap.size = w2.heap.size := by simp [World.setCell]
    have hs2 : wr.heap.size ≤ w2.heap.size := Below.size H2E.out
    refine ⟨?_, ?_, Below.setCell (p := ⟨w.heap.size, j, none⟩) (Ext.trans HE.out H2E.out) (Nat.le_refl _) _⟩
    ·have := (World.ownsRow.stored HO2.out j v2).1
     have e : (P.map (·.1) ++ List.replicate (n - j) Value.nilIface).set j v2 = (P ++ [(v2, L2)]).map (·.1) ++ List.replicate (n - (j + 1)) .nilIface := by
      have h1 := set_mid (P.map (·.1)) Value.nilIface v2 (n - (j + 1))
      rw [List.length_map, HPl.out, show n - (j + 1) + 1 = n - j by omega] at h1
      rw [h1, List.map_append]
      rfl
     rw [e] at this
     exact this
    ·rw [hsz]
     refine Pcs.add (W := wr) (E := wr.heap.size) HP.out (fun k h1 h2 => (hbk k (by omega)).trans (Below.block H2E.out k h2)) (by rw [hsz]; exact hs2) (hv2.keep (fun k h1 h2 => hbk k (by omega)) (by rw [hsz]; exact Nat.le_refl _)) (by omega) hs2
   have Hst := hide (hst v2 H2.out)
   clear hst
   have HNC : Hid ((P ++ [(v2, L2)]).map (fun p => p.2.map ct) = (List.range (j + 1)).map (fun i => [intC (f i)])) := by
    show _ = _
    rw [List.map_append, HC.out, List.range_succ, List.map_append]
    congr 1
    show [L2.map ct] = _
    rw [H2c.out]
    rfl
   rcases hv with hv | hv
   all_goals
    have Hv := hide hv
    clear H2
    subst hv
    go_wp2
    refine ⟨⟨j + 1, P ++ [(_, L2)], by omega, by (try rw [W1.out]); congr 1, by rw [List.length_append, HPl.out]; rfl, Hst.out.1, Hst.out.2.1, HNC.out, Hst.out.2.2⟩, ?_⟩
    try rw [W1.out]
    show n - ((j : Int) + 1).toNat < n - ((j : Int)).toNat
    omega
  ·obtain rfl : j = n := by omega
   have hjk : ¬ (j : Int) < (j : Int) := by omega
   clear hO hP hC hE hPl
   have HO3 := HO.out
   rw [Nat.sub_self, List.replicate_zero, List.append_nil] at HO3
   have HO4 := hide HO3
   clear HO3 HO
   go_wp2
   go_ret
   exact ⟨P, by rw [HPl.out]; rfl, by rw [HPl.out]; exact HO4.out, HP.out, HC.out, HE.out⟩
theorem intPieces_any (a : Option Addr) (b off n cap : Nat) (f : Nat → Int) (w : World) (hs : Seg w a b off n f) (hn : n ≤ 1000) (hf : ∀ i, i < n → -9223372036854775808 ≤ f i ∧ f i ≤ 9223372036854775807) :
  Calls Tryz.prog 106 #[.slice a n cap] w fun e w' => GivesPs w ((List.range n).map (fun i => [intC (f i)])) e w' := by
 have HM := hide (mappedInt_any a b off n cap f w hs hn hf)
 clear hs hf
 go_enter Tryz.func106, Tryz.ntmps106
 go_wp2_with fail
 refine HM.out.mono ?_
 rintro e w1 ⟨P, rfl, h1, h2, h3, h4⟩
 have H1 := hide h1
 have H2 := hide h2
 have H3 := hide h3
 have H4 := hide h4
 clear h1 h2 h3 h4 HM
 go_wp2
 go_ret
 exact ⟨P, rfl, H1.out, H2.out, H3.out, H4.out⟩
end
end Go.Proofs.YtkogbinfhoiggaaGreatDoor
